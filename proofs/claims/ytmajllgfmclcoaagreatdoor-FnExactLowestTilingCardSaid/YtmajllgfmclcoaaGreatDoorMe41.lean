/- HgS in one text. -/
import Derived.Test.YtmajllgfmclcoaaGreatDoorMe24
import Derived.Test.YtmajllgfmclcoaaGreatDoorMe36
import Derived.Test.YtmajllgfmclcoaaGreatDoorMe10
import Derived.Test.YtmajllgfmclcoaaGreatDoorMe00
import Derived.Test.YtmajllgfmclcoaaGreatDoorMe39
import Derived.Test.YtmajllgfmclcoaaGreatDoorMe40
import Derived.Test.YtmajllgfmclcoaaGreatDoorMe11
import Derived.Deep.LoopGhost
import Derived.Deep.RegionHeld3
import Derived.Deep.Cut
import Derived.OwnWalk
import Derived.Laws.OwnMore
import Derived.Laws.AppendOwn

namespace Go.Proofs.YtmajllgfmclcoaaGreatDoor.Hgt
set_option linter.unusedVariables false
set_option linter.unusedSimpArgs false
set_option maxRecDepth 100000
open Go.RowKit Go.Proofs.YtmajllgfmclcoaaGreatDoor.Base Go.Proofs.YtmajllgfmclcoaaGreatDoor.Pure Go.Proofs.YtmajllgfmclcoaaGreatDoor.Cell Go.Proofs.YtmajllgfmclcoaaGreatDoor.Dom Go.Proofs.YtmajllgfmclcoaaGreatDoor.Dms Go.Proofs.YtmajllgfmclcoaaGreatDoor.Til Go.Joins
open Go.Proofs.YtmajllgfmclcoaaGreatDoor.Reg (RowB own_below own_base intInfo ints sHasCell sCountCells countR)
open Go.Proofs.YtmajllgfmclcoaaGreatDoor.Flo (simB sIsSimple)
open Go.Proofs.YtmajllgfmclcoaaGreatDoor.Wg (natV natV_length natV_snoc natV_at rdN_own)
open Go.Proofs.YtmajllgfmclcoaaGreatDoor.Grd (part_valid)

structure H1 (w : World) (v : Value) (A : Option Addr) (k c : Nat) (h : List Int) (W : World) : Prop where
 r1 : R1 w v W
 hr : W.ownsRow (w.heap.size + 1) 3 1 (.slice A k c) k (ints h)
theorem H1.start {w W : World} {v : Value} (s : R1 w v W) (hm : (W.alloc (.cells #[] 3)).ownsRow W.heap.size 3 1 (.slice (some ⟨W.heap.size, 0, none⟩) 0 0) 0 []) : H1 w v (some ⟨W.heap.size, 0, none⟩) 0 0 [] (W.alloc (.cells #[] 3)) :=
 ⟨s.on (below_alloc1 W _), own_base hm (Array.getElem?_eq_some_iff.1 s.2).1⟩
theorem ints_snoc (h : List Int) (y : Int) : ints (h ++ [y]) = ints h ++ [.int .i64 y] := by unfold Reg.ints; simp
theorem H1.grow {w W w6 : World} {v : Value} {A A6 : Option Addr} {k c c6 : Nat} {h : List Int} {y : Int} {o : Obj} (s : H1 w v A k c h W)
  (ho : w6.ownsRow (w.heap.size + 1) 3 1 (.slice A6 (k + 1) c6) (k + 1) (ints h ++ [.int .i64 y])) (hg : (W.alloc o).grownBy w6 (Value.slice A k c).ownBlock) : H1 w v A6 (k + 1) c6 (h ++ [y]) w6 := by
 have hbx := below_alloc1 W o
 have s2 := s.r1.on hbx
 have hlt := (Array.getElem?_eq_some_iff.1 s2.2).1
 refine ⟨⟨s2.1.grown hg (by have := s2.1.size; omega) (fun g e => by have := (s.hr.lt g e).1; omega), ?_⟩, by rw [ints_snoc]; exact ho⟩
 obtain ⟨_, _, _, _, h5⟩ := hg
 exact (h5 w.heap.size hlt (fun e => by have := (s.hr.lt _ e.symm).1; omega)).trans s2.2
theorem H1.drew {w W : World} {v : Value} {A : Option Addr} {k c : Nat} {h : List Int} (s : H1 w v A k c h W) : H1 w v A k c h W.drew := ⟨⟨s.r1.1.drew, s.r1.2⟩, s.hr⟩
theorem H1.on {w W W' : World} {v : Value} {A : Option Addr} {k c : Nat} {h : List Int} (s : H1 w v A k c h W) (hb : Below W.heap.size W W') : H1 w v A k c h W' := ⟨s.r1.on hb, own_below s.hr hb (Nat.le_refl _)⟩
def Hl (w : World) (v : Value) (A : Option Addr) (k c : Nat) (h : List Int) (W : World) : Prop := H1 w v A k c h W ∧ W.cell? ⟨w.heap.size, 0, none⟩ = some v
theorem Hl.of {w W : World} {v : Value} {A : Option Addr} {k c : Nat} {h : List Int} (s : H1 w v A k c h W) : Hl w v A k c h W := ⟨s, s.r1.2.c0⟩
theorem Hl.drew {w W : World} {v : Value} {A : Option Addr} {k c : Nat} {h : List Int} (s : Hl w v A k c h W) : Hl w v A k c h W.drew := Hl.of s.1.drew
theorem Hl.on {w W W' : World} {v : Value} {A : Option Addr} {k c : Nat} {h : List Int} (s : Hl w v A k c h W) (hb : Below W.heap.size W W') : Hl w v A k c h W' := Hl.of (s.1.on hb)
theorem Hl.bel {w W : World} {v : Value} {A : Option Addr} {k c : Nat} {h : List Int} (s : Hl w v A k c h W) : Below w.heap.size w W := s.1.r1.1
theorem sd_mn (ax ay bx by' : Int) : mn (sdX ax ay bx by') (loE ax bx) = sdX ax ay bx by' ∧ mn (sdY ax ay bx by') (loE ay by') = sdY ax ay bx by' ∧ decide (sdX ax ay bx by' = loE ax bx) = decide (ay = by') := by
 unfold mn sdX sdY
 by_cases q : ay = by'
 ·rw [if_pos q, if_pos q]
  exact ⟨by rw [if_neg (by omega)], by rw [if_neg (by omega)], by rw [decide_eq_true q]; simp⟩
 ·rw [if_neg q, if_neg q]
  exact ⟨by rw [if_neg (by omega)], by rw [if_neg (by omega)], by rw [decide_eq_false q]; exact decide_eq_false (by omega)⟩
theorem sd_nb {ax ay bx by' : Int} {L : List Dm} (hv : ∀ d ∈ L, okM d = true) (hm : sdM ax ay bx by' ∈ L) : nbB (sdX ax ay bx by') (sdY ax ay bx by') (loE ax bx) (loE ay by') = true := by
 have ho := hv _ hm
 rw [nbB_iff]
 unfold sdM at ho
 by_cases q : ay = by'
 ·rw [decide_eq_true q] at ho
  have := ok_dn ho
  unfold sdX sdY at this ⊢
  rw [if_pos q, if_pos q] at *
  exact ⟨by unfold Ok; omega, by unfold Ok; omega, .inl ⟨rfl, .inr (by omega)⟩⟩
 ·rw [decide_eq_false q] at ho
  have := ok_rt ho
  unfold sdX sdY at this ⊢
  rw [if_neg q, if_neg q] at *
  exact ⟨by unfold Ok; omega, by unfold Ok; omega, .inr ⟨rfl, .inr (by omega)⟩⟩
theorem wrap_q7 (k i' : Nat) : IntKind.i64.wrap ((k : Int).tmod 9 - (i' : Int).tmod 2) = ((k % 9 : Nat) : Int) - ((i' % 2 : Nat) : Int) := by
 rw [Int.tmod_eq_emod_of_nonneg (by omega), Int.tmod_eq_emod_of_nonneg (by omega)]
 have a : (k : Int) % 9 = ((k % 9 : Nat) : Int) := by omega
 have b : (i' : Int) % 2 = ((i' % 2 : Nat) : Int) := by omega
 rw [a, b]
 have h1 := Nat.mod_lt k (show 0 < 9 by omega)
 have h2 := Nat.mod_lt i' (show 0 < 2 by omega)
 generalize k % 9 = u at *
 generalize i' % 2 = v at *
 rw [IntKind.wrap_i64]; omega
theorem wrap_q8 (k i' : Nat) (h : k < 81 ∧ i' < 4) : IntKind.i64.wrap (IntKind.i64.wrap ((k : Int) / 9) - IntKind.i64.wrap ((i' : Int) / 2)) = ((k / 9 : Nat) : Int) - ((i' / 2 : Nat) : Int) := by
 have a : (k : Int) / 9 = ((k / 9 : Nat) : Int) := by omega
 have b : (i' : Int) / 2 = ((i' / 2 : Nat) : Int) := by omega
 rw [a, b]
 have h1 : k / 9 < 9 := by omega
 have h2 : i' / 2 < 2 := by omega
 generalize k / 9 = u at *
 generalize i' / 2 = v at *
 simp only [IntKind.wrap_i64]; omega
theorem both_no {p q : Bool} (h : (!p && !q) = true) : p = false ∧ q = false := by cases p <;> cases q <;> simp_all
theorem one_yes {p q : Bool} (h : (!p && !q) = false) : p = true ∨ q = true := by cases p <;> cases q <;> simp_all
theorem sgn_or (s : Int) : sgnE s = 1 ∨ sgnE s = -1 := by unfold sgnE; split <;> simp
theorem step_or (a b c d : Int) : stepE a b c d = 0 ∨ stepE a b c d = 1 ∨ stepE a b c d = -1 := by
 unfold stepE
 split
 ·split
  ·exact .inr (sgn_or _)
  ·split
   ·exact .inr (sgn_or _)
   ·split
    ·exact .inr (sgn_or _)
    ·split
     ·exact .inr (sgn_or _)
     ·exact .inl rfl
 ·exact .inl rfl
structure Wy (xs : List Int) (L : List Dm) (F : Nat → Int) (h : List Int) (q : List Nat) (k n v : Nat) (bx by' st : Int) (wi : Nat) (z hp : Int) (p1 p2 nb : Bool) : Prop where
 zero : st = 0 → Sw xs (xL L) (yL L) F h q k (n + 1)
 rng : st ≠ 0 → (0 ≤ bx ∧ bx ≤ 8 ∧ 0 ≤ by' ∧ by' ≤ 8) ∧ wi < 81 ∧ (wi : Int) = by' * 9 + bx ∧ h[wi]? = some z
 own : h[v]? = some hp ∧ -100 ≤ hp ∧ hp ≤ 100
 old : st ≠ 0 → z ≠ -1000 → Sw xs (xL L) (yL L) F h q k (n + 1)
 out : st ≠ 0 → p1 = false → p2 = false → Sw xs (xL L) (yL L) F h q k (n + 1)
 dom : st ≠ 0 → sdM ((v % 9 : Nat) : Int) ((v / 9 : Nat) : Int) bx by' ∈ L → Sw xs (xL L) (yL L) F h q k (n + 1)
 nbf : nb = false → sdM ((v % 9 : Nat) : Int) ((v / 9 : Nat) : Int) bx by' ∉ L
 add : st ≠ 0 → z = -1000 → (p1 = true ∨ p2 = true) → sdM ((v % 9 : Nat) : Int) ((v / 9 : Nat) : Int) bx by' ∉ L → wrap64 (hp + st) = F wi ∧ Sw xs (xL L) (yL L) F (h.set wi (F wi)) (q ++ [wi]) k (n + 1)
theorem Sw.wy {xs : List Int} {L : List Dm} {F : Nat → Int} {h : List Int} {q : List Nat} {k n v : Nat} (hok : ∀ d ∈ L, okM d = true) (hF : ∀ d v w, Lk xs (xL L) (yL L) d v w → F w = F v + es d v) (s : Sw xs (xL L) (yL L) F h q k n) (hv : q[k]? = some v) (hn : n < 4) {bx by' : Int} (e3 : bx = ((v % 9 : Nat) : Int) + dX n) (e4 : by' = ((v / 9 : Nat) : Int) + dY n) :
  ∃ wi z hp, Wy xs L F h q k n v bx by' (stepE ((v % 9 : Nat) : Int) ((v / 9 : Nat) : Int) bx by') wi z hp (hasB xs (sdX ((v % 9 : Nat) : Int) ((v / 9 : Nat) : Int) bx by') (sdY ((v % 9 : Nat) : Int) ((v / 9 : Nat) : Int) bx by')) (hasB xs (loE ((v % 9 : Nat) : Int) bx) (loE ((v / 9 : Nat) : Int) by')) (nbB (sdX ((v % 9 : Nat) : Int) ((v / 9 : Nat) : Int) bx by') (sdY ((v % 9 : Nat) : Int) ((v / 9 : Nat) : Int) bx by') (loE ((v % 9 : Nat) : Int) bx) (loE ((v / 9 : Nat) : Int) by')) := by
 have vl := s.ql v (List.mem_of_getElem? hv)
 have vm : v ∈ q := List.mem_of_getElem? hv
 obtain ⟨hp, hhp, hb, _, hp2⟩ := s.at9 vl
 have hpF := hp2 vm
 have hpb : -100 ≤ hp ∧ hp ≤ 100 := by
  obtain ⟨i, hi⟩ := List.getElem?_of_mem vm
  have l := s.len
  have il := (List.getElem?_eq_some_iff.1 hi).1
  have := s.val i v hi
  omega
 obtain ⟨w1, w2⟩ := s.way hF hv hn rfl rfl e3 e4
 have nbf : nbB (sdX ((v % 9 : Nat) : Int) ((v / 9 : Nat) : Int) bx by') (sdY ((v % 9 : Nat) : Int) ((v / 9 : Nat) : Int) bx by') (loE ((v % 9 : Nat) : Int) bx) (loE ((v / 9 : Nat) : Int) by') = false → sdM ((v % 9 : Nat) : Int) ((v / 9 : Nat) : Int) bx by' ∉ L := fun e hm => by
  rw [sd_nb hok hm] at e; cases e
 by_cases h0 : stepE ((v % 9 : Nat) : Int) ((v / 9 : Nat) : Int) bx by' = 0
 ·exact ⟨0, 0, hp, ⟨w1, fun h => absurd h0 h, ⟨hhp, hpb⟩, fun h => absurd h0 h, fun h => absurd h0 h, fun h => absurd h0 h, nbf, fun h => absurd h0 h⟩⟩
 ·obtain ⟨hr, wi, hwi, ewi, a1, a2, a3, a4⟩ := w2 h0
  obtain ⟨z, hz, _, z1, _⟩ := s.at9 hwi
  refine ⟨wi, z, hp, ⟨w1, fun _ => ⟨hr, hwi, ewi, hz⟩, ⟨hhp, hpb⟩, fun _ hne => a1 (Classical.byContradiction fun c => hne (z1.2 c)), fun _ => a2, fun _ => a3, nbf, fun _ he hc hd => ?_⟩⟩
  obtain ⟨b1, b2⟩ := a4 (z1.1 he) hc hd
  rw [hpF, ← b2]
  rw [← b2] at b1
  refine ⟨?_, b1⟩
  have hes := (step_or ((v % 9 : Nat) : Int) ((v / 9 : Nat) : Int) bx by').resolve_left h0
  rcases hes with e | e <;> rw [e] at b2 <;> unfold wrap64 <;> omega
theorem own_set9 {w : World} {base e size n : Nat} {v : Value} {xs : List Value} (h : w.ownsRow base e size v n xs) {p : Addr} (hp : p.block < base) (u : Value) : (w.setCell p u).ownsRow base e size v n xs :=
 h.kept (row := some p.block) ⟨rfl, rfl, rfl, by simp [World.setCell], fun j hj hne => Below.heap_setCell w _ u j (fun q => hne (by rw [q]))⟩ (by
  cases hv : v.ownBlock with
  | none => exact .inl rfl
  | some g => right; intro e; injection e with e; have := (h.lt g hv).1; omega)
structure S9 (w : World) (v : Value) (g c : Nat) (h : List Int) (Aq : Option Addr) (q : List Nat) (cq : Nat) (W : World) : Prop where
 r1 : R1 w v W
 hr : W.ownsRow (w.heap.size + 1) 3 1 (.slice (some ⟨g, 0, none⟩) 81 c) 81 (ints h)
 qr : W.ownsRow (g + 1) 3 1 (.slice Aq q.length cq) q.length (natV q)
section
variable {w W W' : World} {v : Value} {g c : Nat} {h : List Int} {Aq : Option Addr} {q : List Nat} {cq : Nat}
theorem S9.on (s : S9 w v g c h Aq q cq W) (hb : Below W.heap.size W W') : S9 w v g c h Aq q cq W' := ⟨s.r1.on hb, own_below s.hr hb (Nat.le_refl _), own_below s.qr hb (Nat.le_refl _)⟩
theorem S9.drew (s : S9 w v g c h Aq q cq W) : S9 w v g c h Aq q cq W.drew := ⟨s.r1.drew, s.hr, s.qr⟩
theorem S9.lt (s : S9 w v g c h Aq q cq W) : w.heap.size + 1 ≤ g ∧ g < W.heap.size := s.hr.lt g rfl
theorem S9.cell (s : S9 w v g c h Aq q cq W) {i : Nat} {x : Int} (hi : i < 81) (e : h[i]? = some x) : W.cell? ⟨g, i, none⟩ = some (.int .i64 x) := (World.ownsRow.cellAt s.hr i (by omega)).trans (by unfold Reg.ints; rw [List.getElem?_map, e]; rfl)
theorem S9.froz (s : S9 w v g c h Aq q cq W) (i : Nat) : W.frozen? ⟨g, i, none⟩ = false := World.ownsRow.frozenAt s.hr i
theorem S9.set (s : S9 w v g c h Aq q cq W) (i : Nat) (x : Int) : S9 w v g c (h.set i x) Aq q cq (W.setCell ⟨g, i, none⟩ (.int .i64 x)) := by
 have hl := s.lt
 refine ⟨⟨s.r1.1.setCell (p := ⟨g, i, none⟩) (by show w.heap.size ≤ g; omega) _, (Below.heap_setCell W ⟨g, i, none⟩ _ w.heap.size (by show w.heap.size ≠ g; omega)).trans s.r1.2⟩, ?_, own_set9 s.qr (by show g < g + 1; omega) _⟩
 have := (World.ownsRow.stored s.hr i (.int .i64 x)).1
 unfold Reg.ints at this ⊢
 rwa [List.map_set]
theorem S9.grow {w6 : World} {nq : Nat} {y : Nat} {gq : Nat} {A6 : Option Addr} {c6 : Nat} {o : Obj} (s : S9 w v g c h (some ⟨gq, 0, none⟩) q cq W) (hn : q.length = nq)
  (ho : w6.ownsRow (g + 1) 3 1 (.slice A6 (nq + 1) c6) (nq + 1) (natV q ++ [.int .i64 (y : Int)])) (hg : (W.alloc o).grownBy w6 (Value.slice (some ⟨gq, 0, none⟩) nq cq).ownBlock) : S9 w v g c h A6 (q ++ [y]) c6 w6 := by
 subst hn
 have hl := (s.qr.lt gq rfl).1
 have h1 := s.lt
 have hbx := below_alloc1 W o
 have s2 := s.on hbx
 refine ⟨⟨s2.r1.1.grown hg s2.r1.1.size (fun g' e => by have e2 : some gq = some g' := e; injection e2 with e2; omega), ?_⟩, World.ownsRow.kept s2.hr hg (.inr (fun e => by have e2 : some g = some gq := e; injection e2 with e2; omega)), ?_⟩
 ·obtain ⟨_, _, _, _, h5⟩ := hg
  exact (h5 w.heap.size (Array.getElem?_eq_some_iff.1 s2.r1.2).1 (fun e => by have e2 : some w.heap.size = some gq := e; injection e2 with e2; omega)).trans s2.r1.2
 ·rw [List.length_append, natV_snoc]
  exact ho
end
theorem four_x {n : Nat} (hn : n < 4) (W : World) : (W.alloc (.cells #[.int .i64 1, .int .i64 0, .int .i64 (-1), .int .i64 0] 3)).cell? ⟨W.heap.size, n, none⟩ = some (.int .i64 (dX n)) := by
 have hbl := heap_alloc_new W (.cells #[.int .i64 1, .int .i64 0, .int .i64 (-1), .int .i64 0] 3)
 rcases n with _ | _ | _ | _ | n
 ·exact (cell_of_row _ _ 0 _ _ _ hbl).trans rfl
 ·exact (cell_of_row _ _ 1 _ _ _ hbl).trans rfl
 ·exact (cell_of_row _ _ 2 _ _ _ hbl).trans rfl
 ·exact (cell_of_row _ _ 3 _ _ _ hbl).trans rfl
 ·omega
theorem four_y {n : Nat} (hn : n < 4) (W : World) : (W.alloc (.cells #[.int .i64 0, .int .i64 1, .int .i64 0, .int .i64 (-1)] 3)).cell? ⟨W.heap.size, n, none⟩ = some (.int .i64 (dY n)) := by
 have hbl := heap_alloc_new W (.cells #[.int .i64 0, .int .i64 1, .int .i64 0, .int .i64 (-1)] 3)
 rcases n with _ | _ | _ | _ | n
 ·exact (cell_of_row _ _ 0 _ _ _ hbl).trans rfl
 ·exact (cell_of_row _ _ 1 _ _ _ hbl).trans rfl
 ·exact (cell_of_row _ _ 2 _ _ _ hbl).trans rfl
 ·exact (cell_of_row _ _ 3 _ _ _ hbl).trans rfl
 ·omega
set_option maxHeartbeats 20000000 in
theorem sHeights (w : World) (A : Option Addr) (n cap B : Nat) (xs : List Int) (hx : xs.length = n) (hn : (n : Int) ≤ 9223372036854775807) (h : RowB w B A xs) (hB : B ≤ w.heap.size)
  (A' : Option Addr) (n' cap' B' : Nat) (L : List Dm) (hL : L.length = n') (hn' : (n' : Int) ≤ 9223372036854775807) (h' : RowM w B' A' L) (hB' : B' ≤ w.heap.size) :
  Calls Tryz.prog 69 #[.agg #[.slice A n cap], .slice A' n' cap'] w (HgtP xs L w) := by
 obtain ⟨i0, hi, hz0, hz1, hz2⟩ := info_parts intInfo
 have HS := Lib.hid (r1_start w (.slice A n cap))
 have HSim := Lib.hid (fun W (hb : Below w.heap.size w W) => sIsSimple W A n cap B xs hx hn (h.below hb hB) (by have := hb.size; omega))
 have HTil := Lib.hid (fun W (hb : Below w.heap.size w W) => sIsTiling W A n cap B xs hx hn (h.below hb hB) (by have := hb.size; omega) A' n' cap' B' L hL hn' (h'.below hb hB') (by have := hb.size; omega))
 have HCnt := Lib.hid (fun W (hb : Below w.heap.size w W) => sCountCells W A n cap B xs hx hn (h.below hb hB) (by have := hb.size; omega))
 have HHas := Lib.hid (fun W (hb : Below w.heap.size w W) x y => sHasCell W A n cap B xs hx hn (h.below hb hB) (by have := hb.size; omega) x y)
 have HDom := Lib.hid (fun W (hb : Below w.heap.size w W) d => Flp.sHas W A' n' cap' B' L hL hn' (h'.below hb hB') (by have := hb.size; omega) d)
 clear hx hn h hB hL hn' h' hB'
 have HM := Lib.hid (fun (W : World) => World.ownsRow_made (e := 3) (size := 1) W #[] 0 (Nat.le_refl _) (by unfold maxLen; omega) rfl)
 go_enter Tryz.func69, Tryz.ntmps69
 go_wp2_with fail
 refine (HSim.out _ HS.out.1).mono ?_
 rintro e w1 ⟨rfl, hb1⟩
 have S1 := HS.out.on hb1
 have c0 := S1.2.c0
 clear HS hb1 HSim
 have HEm := Lib.hid (fun (hno : ¬ (simB xs = true ∧ tilB xs L = true)) W (hb : Below w.heap.size w W) => show HgtP xs L w (.returned (.slice (some ⟨W.heap.size, 0, none⟩) 0 0)) (W.alloc (.cells #[] 3)) from
  ⟨[], _, 0, 0, .inr ⟨hno, rfl⟩, rfl, rfl, own_base (HM.out W) hb.size, hb.trans ((below_alloc1 W _).mono hb.size)⟩)
 cases hs : simB xs with
 | false =>
  have HE := HEm.out (by rw [hs]; simp)
  clear HEm hs
  go_wp2
  go_ret
  exact HE _ S1.1
 | true =>
  go_wp2_with fail
  refine (HTil.out _ S1.1).mono ?_
  rintro e w2 ⟨rfl, hb2⟩
  have S2 := S1.on hb2
  have c0 := S2.2.c0
  clear S1 hb2 HTil
  cases ht : tilB xs L with
  | false =>
   have HE := HEm.out (by rw [ht]; simp)
   clear HEm hs ht
   go_wp2
   go_ret
   exact HE _ S2.1
  | true =>
   clear HEm
   obtain ⟨ok, hp1, hone⟩ := sim_parts hs
   obtain ⟨f, hf⟩ := hts_ex hs ht
   obtain ⟨cx0, cy0, hcell⟩ := cell_ex ok hp1
   obtain ⟨hl1, hl2, hl3⟩ := lc_ex hcell
   have hcnt : ∃ m : Nat, countR xs = (m : Int) ∧ m ≠ 0 := ⟨(cellsR xs).length, rfl, fun e => by
    have hm := mem_cells.2 hcell
    rw [List.eq_nil_of_length_eq_zero e] at hm
    cases hm⟩
   obtain ⟨m, hm1, hm2⟩ := hcnt
   rw [hm1] at HCnt
   have hm3 : ((m : Int) == 0) = false := by simpa using hm2
   have HSt := Lib.hid (Sw.start (X := xL L) (Y := yL L) hl1 hl2 (hv_zero xs f))
   have HLc := Lib.hid hl3
   have HLd := Lib.hid hl2
   have HFn := Lib.hid (fun (h : List Int) (q : List Nat) (s : Sw xs (xL L) (yL L) (hv xs f) h q q.length 0) => show hgtR xs L h from .inl ⟨hs, s.row ok hp1 ht hf hl1 hl2⟩)
   have HF := Lib.hid (hv_step hf)
   have HOk := Lib.hid (part_valid (til_part ht))
   obtain ⟨c, hc⟩ : ∃ c, lc xs = c := ⟨_, rfl⟩
   rw [hc] at hl1 HSt HLc HLd
   clear hcell hl3 hl2 hm1 hs ht hone hf hp1 ok
   go_wp2_with fail
   refine (HCnt.out _ S2.1).mono ?_
   rintro e w3 ⟨rfl, hb3⟩
   have S3 := S2.on hb3
   have c0 := S3.2.c0
   clear S2 hb3 HCnt
   have M0 := Lib.hid (H1.start S3 (HM.out w3))
   clear S3 c0 HM
   go_upto_region 5 with fail
   generalize w3.alloc (.cells #[] 3) = w4 at M0 ⊢
   generalize (some ⟨w3.heap.size, 0, none⟩ : Option Addr) = A0 at M0 ⊢
   go_wp2_with fail
   go_loopw [6, 7] (fun vo i wr => ∃ (k : Nat) (Ah : Option Addr) (ch : Nat), k ≤ 81 ∧ vo = .slice Ah k ch ∧ i = .int .i64 k ∧ Hid (H1 w (.slice A n cap) Ah k ch (List.replicate k (-1000)) wr)) (fun _ i _ => 81 - (intOf i).toNat)
   case atStart => exact ⟨0, A0, 0, by omega, rfl, rfl, M0⟩
   case round =>
    clear M0
    obtain ⟨k, Ah, ch, hk, rfl, rfl, HI⟩ := hrel
    by_cases hlt : k < 81
    ·have hkI : (k : Int) < 81 := by omega
     have hw5 : w.heap.size + 1 ≤ wr.heap.size := (Array.getElem?_eq_some_iff.1 HI.out.r1.2).1
     go_wp2_with (first
      | (at_builtin; refine wpList_append_own _ rfl _ _ 24 rfl (w.heap.size + 1) 3 i0 (.int .i64 0) 1 8 Tryz.underlying24 hi hz0 hz1 hz2 rfl (by decide) _ k (ints (List.replicate k (-1000))) rfl (HI.out.hr.alloc _) ⟨wr.heap.size, 0, none⟩ 1 1 [.int .i64 (-1000)] rfl rfl (World.news_of_block (cs := #[.int .i64 (-1000)]) (t := 3) (fr := (0, 0)) (heap_alloc_new wr _)) (by simp [Value.oneCell']) (by unfold maxLen; omega) (by omega) (by simp; omega) ?_; intro v2 w6 hown6 hgrow6 _))
     obtain ⟨A6, c6, rfl⟩ := own_shape hown6
     have HS6 := Lib.hid (show H1 w (.slice A n cap) A6 (k + 1) c6 (List.replicate (k + 1) (-1000)) w6 by rw [List.replicate_succ']; exact HI.out.grow hown6 hgrow6)
     clear hown6 hgrow6 HI
     go_roundw
     case rel => exact ⟨k + 1, A6, c6, by omega, rfl, by go_num, HS6⟩
     case measure => (simp [intOf] <;> omega)
    ·obtain rfl : k = 81 := by omega
     go_wp2_with fail
     go_loopg [8, 9] 82 (fun gg fi i wr => ∃ (k : Nat) (F : Int), k + gg = 82 ∧ fi = .int .i64 F ∧ i = .int .i64 k ∧ Hid (H1 w (.slice A n cap) Ah 81 ch (List.replicate 81 (-1000)) wr) ∧ ((F = -1 ∧ k ≤ c) ∨ (F = c ∧ k = c + 1)))
     case atStart => exact ⟨0, -1, by omega, rfl, rfl, HI, .inl ⟨rfl, by omega⟩⟩
     case round =>
      clear HI
      obtain ⟨k, F, hgg, rfl, rfl, HI, hfi⟩ := hrel
      rcases hfi with ⟨rfl, hkc⟩ | ⟨rfl, rfl⟩
      ·have hkI : (k : Int) < 81 := by omega
       go_wp2_with fail
       go_loopg [8, 10] 4 (fun gi fi i wr => ∃ (i' : Nat) (F : Int), i' + gi = 4 ∧ fi = .int .i64 F ∧ i = .int .i64 i' ∧ Hid (H1 w (.slice A n cap) Ah 81 ch (List.replicate 81 (-1000)) wr) ∧ ((F = -1 ∧ Hid (∀ j, j < i' → hasB xs (((k % 9 : Nat) : Int) - ((j % 2 : Nat) : Int)) (((k / 9 : Nat) : Int) - ((j / 2 : Nat) : Int)) = false)) ∨ (F = k ∧ Hid (crnB xs k = true))))
       case atStart => exact ⟨0, -1, by omega, rfl, rfl, HI, .inl ⟨rfl, Lib.hid (fun j hj => by omega)⟩⟩
       case round =>
        clear HI
        obtain ⟨i', F, hgi, rfl, rfl, HI, hfi⟩ := hrel
        by_cases hlt : i' < 4
        ·have hiI : (i' : Int) < 4 := by omega
         have c0 := HI.out.r1.2.c0
         have T0 : Hl w (.slice A n cap) Ah 81 ch (List.replicate 81 (-1000)) wr := Hl.of HI.out
         have q7 := wrap_q7 k i'
         have q8 := wrap_q8 k i' (by omega)
         obtain ⟨X, hX⟩ : ∃ X : Int, ((k % 9 : Nat) : Int) - ((i' % 2 : Nat) : Int) = X := ⟨_, rfl⟩
         obtain ⟨Y, hY⟩ : ∃ Y : Int, ((k / 9 : Nat) : Int) - ((i' / 2 : Nat) : Int) = Y := ⟨_, rfl⟩
         obtain ⟨pq, hpq⟩ : ∃ pq, hasB xs X Y = pq := ⟨_, rfl⟩
         have HHp := Lib.hid (fun W hb => show Calls Tryz.prog 63 #[.agg #[.slice A n cap], .agg #[.int .i64 X, .int .i64 Y]] W (Bol pq W) from hpq ▸ HHas.out W hb X Y)
         have HPq := Lib.hid (show hasB xs (((k % 9 : Nat) : Int) - ((i' % 2 : Nat) : Int)) (((k / 9 : Nat) : Int) - ((i' / 2 : Nat) : Int)) = pq by rw [hX, hY]; exact hpq)
         rw [hX] at q7
         rw [hY] at q8
         clear hX hY hpq
         go_wp2_with fail
         go_region_held3 (fun w' => H1 w (.slice A n cap) Ah 81 ch (List.replicate 81 (-1000)) w' ∧ w'.cell? ⟨w.heap.size, 0, none⟩ = some (.slice A n cap))
          (first | assumption | exact Hl.drew (by assumption) | exact Hl.on (by assumption) (by assumption))
          (first | (go_at_call 63; (try rw [q7, q8]); refine (HHp.out _ (Hl.bel (by assumption))).mono ?_; rintro e wx ⟨rfl, hbx⟩))
         have T1 : Hl w (.slice A n cap) Ah 81 ch (List.replicate 81 (-1000)) wx := by assumption
         have HI6 := Lib.hid T1.1
         clear T0 T1 HI c0
         clear q7 q8 HHp
         cases pq with
         | true =>
          have hcr := Lib.hid (crn_any.2 ⟨i', hlt, HPq.out⟩)
          go_wp2
          go_roundg (gk - 1)
          case measure => omega
          case rel => exact ⟨i' + 1, (k : Int), by omega, rfl, by go_num, HI6, .inr ⟨rfl, hcr⟩⟩
         | false =>
          have hfi2 : (F = -1 ∧ Hid (∀ j, j < i' + 1 → hasB xs (((k % 9 : Nat) : Int) - ((j % 2 : Nat) : Int)) (((k / 9 : Nat) : Int) - ((j / 2 : Nat) : Int)) = false)) ∨ (F = k ∧ Hid (crnB xs k = true)) := by
           rcases hfi with ⟨e, h⟩ | h
           ·refine .inl ⟨e, Lib.hid (fun j hj => ?_)⟩
            by_cases ej : j = i'
            ·rw [ej]; exact HPq.out
            ·exact h.out j (by omega)
           ·exact .inr h
          clear hfi
          go_wp2
          go_roundg (gk - 1)
          case measure => omega
          case rel => exact ⟨i' + 1, F, by omega, rfl, by go_num, HI6, hfi2⟩
        ·obtain rfl : i' = 4 := by omega
         have hnx : (F = -1 ∧ k + 1 ≤ c) ∨ (F = c ∧ k + 1 = c + 1) := by
          rcases hfi with ⟨e, h⟩ | ⟨e, h⟩
          ·refine .inl ⟨e, ?_⟩
           have hne : k ≠ c := by
            rintro rfl
            obtain ⟨j, hj, h2⟩ := crn_any.1 HLd.out
            rw [h.out j hj] at h2
            cases h2
           omega
          ·have : k = c := by
            by_cases q : k < c
            ·have := HLc.out k q
             rw [h.out] at this
             cases this
            ·omega
           exact .inr ⟨by rw [e, this], by omega⟩
         clear hfi
         go_wp2
         go_roundg (82 - (k + 1))
         case measure => omega
         case rel => exact ⟨k + 1, F, by omega, rfl, by go_num, HI, hnx⟩
      ·go_upto_region 11 with fail
       go_cut [57] from 49 to 79 (fun s57 wx => s57 = .bool false ∧ Hid (H1 w (.slice A n cap) Ah 81 ch (List.replicate 81 (-1000)) wx))
       case first =>
        by_cases h81 : (c : Int) + 1 < 81
        ·go_wp2_with fail
         go_meet
         case rel => exact ⟨rfl, HI⟩
        ·go_wp2_with fail
         go_meet
         case rel => exact ⟨rfl, HI⟩
       case rest =>
       obtain ⟨rfl, HI⟩ := hcut
       generalize wc = wr at HI ⊢
       go_upto_region 18 with fail
       obtain ⟨g, cc, hv1, hg1, hg2⟩ := HI.out.hr.form (by omega)
       injection hv1 with hA2 hm2 hcp2
       subst hA2
       subst hcp2
       have hcI : (c : Int) < 81 := by omega
       have hz := (World.ownsRow.cellAt HI.out.hr c (by omega)).trans (show (ints (List.replicate 81 (-1000 : Int)))[c]? = some (.int .i64 (-1000)) by unfold Reg.ints; rw [List.getElem?_map, List.getElem?_replicate, if_pos hl1]; rfl)
       have hzf := World.ownsRow.frozenAt HI.out.hr c
       have HI2 := Lib.hid (show R1 w (.slice A n cap) (wr.setCell ⟨g, c, none⟩ (.int .i64 0)) ∧ (wr.setCell ⟨g, c, none⟩ (.int .i64 0)).ownsRow (w.heap.size + 1) 3 1 (.slice (some ⟨g, 0, none⟩) 81 ch) 81 (ints ((List.replicate 81 (-1000 : Int)).set c 0)) from by
        refine ⟨⟨HI.out.r1.1.setCell (p := ⟨g, c, none⟩) (by show w.heap.size ≤ g; omega) _, (Below.heap_setCell wr ⟨g, c, none⟩ _ w.heap.size (by show w.heap.size ≠ g; omega)).trans HI.out.r1.2⟩, ?_⟩
        have := (World.ownsRow.stored HI.out.hr c (.int .i64 0)).1
        unfold Reg.ints at this ⊢
        rwa [List.map_set])
       have HGw := Lib.hid hg1
       clear HI hg2
       go_upto_region 19 with fail
       generalize wr.setCell ⟨g, c, none⟩ (.int .i64 0) = w5 at HI2 ⊢
       clear hz hzf
       have hbl := below_alloc1 w5 (.cells #[.int .i64 (c : Int)] 3)
       have hq0 := World.ownsRow_lit (base := g + 1) (e := 3) (size := 1) w5 #[.int .i64 (c : Int)] 1 (by have := (HI2.out.2.lt g rfl).2; omega) (by unfold maxLen; omega) rfl
       have HM0 := Lib.hid (show S9 w (.slice A n cap) g ch ((List.replicate 81 (-1000 : Int)).set c 0) (some ⟨w5.heap.size, 0, none⟩) [c] 1 (w5.alloc (.cells #[.int .i64 (c : Int)] 3)) from ⟨HI2.out.1.on hbl, own_below HI2.out.2 hbl (Nat.le_refl _), hq0⟩)
       clear hbl hq0 HI2
       go_upto_region 20 with fail
       generalize w5.alloc (.cells #[.int .i64 (c : Int)] 3) = w6 at HM0 ⊢
       go_wp2_with fail
       clear hcI
       go_loopg [11, 12] 82 (fun gg sq sk wr => ∃ (k : Nat) (h : List Int) (q : List Nat) (Aq : Option Addr) (cq : Nat), k + gg = 82 ∧ k ≤ q.length ∧ sk = .int .i64 k ∧ sq = .slice Aq q.length cq ∧ Hid (Sw xs (xL L) (yL L) (hv xs f) h q k 0) ∧ Hid (S9 w (.slice A n cap) g ch h Aq q cq wr))
       case atStart => exact ⟨0, _, [c], _, 1, by omega, by simp, rfl, rfl, HSt, HM0⟩
       case round =>
        clear HM0 HSt
        obtain ⟨k, h, q, Aq, cq, hgg, hkq, rfl, rfl, HSw, HM⟩ := hrel
        by_cases hlt : k < q.length
        ·obtain ⟨v, hv⟩ : ∃ v, q[k] = v := ⟨_, rfl⟩
         have hqv : q[k]? = some v := by rw [List.getElem?_eq_getElem hlt, hv]
         have hv81 := HSw.out.ql v (hv ▸ List.getElem_mem hlt)
         obtain ⟨gq, hq1, hq2⟩ := rdN_own HM.out.qr
         obtain ⟨rfl, hgq⟩ := hq1 (by omega)
         have cqk := hq2 k hlt
         rw [hv] at cqk
         have HKq := Lib.hid (And.intro hlt hqv)
         have HV81 := Lib.hid hv81
         obtain ⟨ax, hax⟩ : ∃ ax : Int, ((v % 9 : Nat) : Int) = ax := ⟨_, rfl⟩
         obtain ⟨ay, hay⟩ : ∃ ay : Int, ((v / 9 : Nat) : Int) = ay := ⟨_, rfl⟩
         have t1 : (v : Int).tmod 9 = ax := by rw [Int.tmod_eq_emod_of_nonneg (by omega)]; omega
         have t2 : (v : Int).tdiv 9 = ay := by rw [Int.tdiv_eq_ediv_of_nonneg (by omega)]; omega
         have t2w : wrap64 ay = ay := by unfold wrap64; omega
         have t2k : IntKind.i64.wrap ay = ay := by rw [IntKind.wrap_i64]; omega
         have HAx := Lib.hid (And.intro hax hay)
         have hlen := HSw.out.len
         obtain ⟨nq, hnq⟩ : ∃ nq, q.length = nq := ⟨_, rfl⟩
         have HNq := Lib.hid hnq
         have hkI : (k : Int) < (nq : Int) := by rw [← hnq]; omega
         rw [hnq]
         clear hq1 hq2 hv hgq hax hay hqv hlt hkq hv81 hnq hlen
         go_upto_region 25 with fail
         clear cqk hkI t1 t2 t2w t2k
         go_wp2_with fail
         go_loopg [11, 15] 4 (fun gi sq sn wr => ∃ (n' : Nat) (h : List Int) (q : List Nat) (Aq : Option Addr) (cq : Nat), n' + gi = 4 ∧ sq = .slice Aq q.length cq ∧ sn = .int .i64 n' ∧ Hid (k < q.length ∧ q[k]? = some v) ∧ Hid (Sw xs (xL L) (yL L) (hv xs f) h q k n') ∧ Hid (S9 w (.slice A n cap) g ch h Aq q cq wr))
         case atStart => exact ⟨0, h, q, _, cq, by omega, by rw [HNq.out], rfl, HKq, HSw, HM⟩
         case round =>
          clear HSw HM HKq HNq
          obtain ⟨n', h, q, Aq, cq, hgi, rfl, rfl, HKq, HSw, HM⟩ := hrel
          by_cases hn4 : n' < 4
          ·obtain ⟨bx, hbx⟩ : ∃ bx : Int, ((v % 9 : Nat) : Int) + dX n' = bx := ⟨_, rfl⟩
           obtain ⟨by', hby⟩ : ∃ by' : Int, ((v / 9 : Nat) : Int) + dY n' = by' := ⟨_, rfl⟩
           obtain ⟨wi, z, hp, W9⟩ := HSw.out.wy HOk.out HF.out HKq.out.2 hn4 hbx.symm hby.symm
           obtain ⟨m1, m2, m3⟩ := sd_mn ((v % 9 : Nat) : Int) ((v / 9 : Nat) : Int) bx by'
           have HDx := Lib.hid (four_x hn4)
           have HDy' := Lib.hid (four_y hn4)
           have hdx : -1 ≤ dX n' ∧ dX n' ≤ 1 := by unfold dX; (repeat' split) <;> omega
           have hdy : -1 ≤ dY n' ∧ dY n' ≤ 1 := by unfold dY; (repeat' split) <;> omega
           have hv81 := HV81.out
           have t3 : wrap64 (ax + dX n') = bx := by rw [← HAx.out.1, hbx]; unfold wrap64; omega
           have t4 : wrap64 (ay + dY n') = by' := by rw [← HAx.out.2, hby]; unfold wrap64; omega
           have t3k : IntKind.i64.wrap (ax + dX n') = bx := by rw [← HAx.out.1, hbx, IntKind.wrap_i64]; omega
           have t4k : IntKind.i64.wrap (ay + dY n') = by' := by rw [← HAx.out.2, hby, IntKind.wrap_i64]; omega
           have hEd := fun W => sEdge ax ay bx by' W
           have HSd := Lib.hid (fun (hr : 0 ≤ bx ∧ bx ≤ 8 ∧ 0 ≤ by' ∧ by' ≤ 8) W => show Calls Tryz.prog 98 #[.int .i64 ax, .int .i64 ay, .int .i64 bx, .int .i64 by'] W (Cel2 (sdX ax ay bx by') (sdY ax ay bx by') (loE ax bx) (loE ay by') W) from by
            have := sSides ax ay bx by' (by rw [← HAx.out.1]; omega) (by rw [← HAx.out.2]; omega) ⟨hr.1, hr.2.1⟩ hr.2.2 W
            unfold sdX sdY
            by_cases e : ay = by'
            ·rw [if_pos e] at this; rw [if_pos e, if_pos e]; exact this
            ·rw [if_neg e] at this; rw [if_neg e, if_neg e]; exact this)
           rw [HAx.out.1, HAx.out.2] at W9 m1 m2 m3
           have HSD := Lib.hid (show sdM ((v % 9 : Nat) : Int) ((v / 9 : Nat) : Int) bx by' = (sdX ax ay bx by', sdY ax ay bx by', decide (ay = by')) by rw [HAx.out.1, HAx.out.2]; rfl)
           have hDn := fun (hn : nbB (sdX ax ay bx by') (sdY ax ay bx by') (loE ax bx) (loE ay by') = false) W => sDominoOver_no (sdX ax ay bx by') (sdY ax ay bx by') (loE ax bx) (loE ay by') hn W
           have hDy := fun (hn : nbB (sdX ax ay bx by') (sdY ax ay bx by') (loE ax bx) (loE ay by') = true) W => sDominoOver_ok (sdX ax ay bx by') (sdY ax ay bx by') (loE ax bx) (loE ay by') hn W
           rw [m1, m2, m3] at hDy
           have HDn := Lib.hid hDn
           have HDy := Lib.hid hDy
           have HW := Lib.hid W9
           have HEd := Lib.hid hEd
           have HH1 := Lib.hid (fun W hb => HHas.out W hb (sdX ax ay bx by') (sdY ax ay bx by'))
           have HH2 := Lib.hid (fun W hb => HHas.out W hb (loE ax bx) (loE ay by'))
           have HHs := Lib.hid (fun W hb => HDom.out W hb (sdX ax ay bx by', sdY ax ay bx by', decide (ay = by')))
           have HLn := Lib.hid HSw.out.len
           clear W9 m1 m2 m3 hDn hDy hEd hbx hby hdx hdy
           generalize stepE ax ay bx by' = st at HW HEd
           generalize hasB xs (sdX ax ay bx by') (sdY ax ay bx by') = p1 at HW HH1
           generalize hasB xs (loE ax bx) (loE ay by') = p2 at HW HH2
           generalize nbB (sdX ax ay bx by') (sdY ax ay bx by') (loE ax bx) (loE ay by') = nb at HW HDn HDy
           generalize loE ax bx = lx at HW HSd HDn HDy HH2
           generalize loE ay by' = ly at HW HSd HDn HDy HH2
           generalize sdX ax ay bx by' = sx' at HSd HDn HDy HH1 HHs HSD
           generalize sdY ax ay bx by' = sy' at HSd HDn HDy HH1 HHs HSD
           generalize decide (ay = by') = dn at HDy HHs HSD
           clear HSw
           have K9 := HM.out
           obtain ⟨nq, hnq⟩ : ∃ nq, q.length = nq := ⟨_, rfl⟩
           have HNq := Lib.hid hnq
           rw [hnq]
           clear hnq
           obtain ⟨dx, hdx⟩ : ∃ dx, dX n' = dx := ⟨_, rfl⟩
           obtain ⟨dy, hdy⟩ : ∃ dy, dY n' = dy := ⟨_, rfl⟩
           rw [hdx] at HDx t3 t3k
           rw [hdy] at HDy' t4 t4k
           clear hdx hdy HM
           have hn4I : (n' : Int) < 4 := by omega
           have x0 := HDx.out wr
           go_upto_region 29 with fail
           have hb1 := below_alloc1 wr (.cells #[.int .i64 1, .int .i64 0, .int .i64 (-1), .int .i64 0] 3)
           have K9 := K9.on hb1
           generalize wr.alloc _ = wr1 at K9 ⊢
           clear hb1 x0
           have x0 := HDy'.out wr1
           go_upto_region 30 with fail
           have hb1 := below_alloc1 wr1 (.cells #[.int .i64 0, .int .i64 1, .int .i64 0, .int .i64 (-1)] 3)
           have K9 := K9.on hb1
           generalize wr1.alloc _ = wr2 at K9 ⊢
           clear hb1 x0 t3 t4 t3k t4k HDx HDy'
           go_wp2_with fail
           refine (HEd.out wr2).mono ?_
           rintro e w3 ⟨rfl, rfl⟩
           clear HEd
           by_cases hst : st = 0
           ·subst hst
            have HNx0 := Lib.hid (HW.out.zero rfl)
            have HNx := Lib.hid (HNx0.out)
            have HM := Lib.hid K9
            clear HW K9
            go_wp2
            go_roundg (gk - 1)
            case measure => omega
            case rel => exact ⟨n' + 1, h, q, _, cq, by omega, by rw [HNq.out], by go_num, HKq, HNx, HM⟩
           ·have HST := Lib.hid hst
            obtain ⟨hrg, hwi, ewi, hzz⟩ := HW.out.rng hst
            have hst0 : (st == 0) = false := by rw [beq_eq_false_iff_ne]; exact hst
            have HZ := Lib.hid hzz
            have HWI := Lib.hid hwi
            have hwiI : (wi : Int) < 81 := by omega
            have t5 : wrap64 (by' * 9) = by' * 9 := by unfold wrap64; omega
            have t6 : wrap64 (by' * 9 + bx) = (wi : Int) := by rw [ewi]; unfold wrap64; omega
            have t7 : IntKind.i64.wrap (by' * 9) = by' * 9 := by rw [IntKind.wrap_i64]; omega
            have t8 : IntKind.i64.wrap (by' * 9 + bx) = (wi : Int) := by rw [ewi, IntKind.wrap_i64]; omega
            have HT := Lib.hid (And.intro t5 (And.intro t6 (And.intro t7 t8)))
            have HHP := Lib.hid HW.out.own.1
            have HSd1 := Lib.hid (fun W => HSd.out hrg W)
            have cz := K9.cell hwi hzz
            clear hst hrg hwi ewi hzz HSd
            by_cases hze : z = -1000
            ·have HZE := Lib.hid hze
             have hzb : (z != -1000) = false := by rw [hze]; rfl
             clear hze
             go_upto_region 32 with fail
             clear cz t5 t6 t7 t8 hzb hst0
             go_wp2_with fail
             refine (HSd1.out w3).mono ?_
             rintro e w4 ⟨rfl, hb4⟩
             have K9 := K9.on hb4
             clear hb4 HSd1
             go_upto_region 33 with fail
             obtain ⟨k1, k2, k3⟩ := at2_two w4 sx' sy' lx ly
             have K9 := K9.on k3
             generalize (w4.alloc (.cells #[.int .i64 sx', .int .i64 sy'] 79)).alloc (.cells #[.int .i64 lx, .int .i64 ly] 79) = w5 at k1 k2 K9 ⊢
             clear k3
             obtain ⟨pz, hpz⟩ : ∃ pz, (!p1 && !p2) = pz := ⟨_, rfl⟩
             have HPz := Lib.hid hpz
             clear hpz
             go_cut [154] from 103 to 191 (fun s154 wx => s154 = .bool pz ∧ S9 w (.slice A n cap) g ch h Aq q cq wx ∧ At2 wx w4.heap.size sx' sy' ∧ At2 wx (w4.heap.size + 1) lx ly)
             case first =>
              have e0 := k1.c0
              have e1 := k1.c1
              have e2 := k2.c0
              have e3 := k2.c1
              have c0 := K9.r1.2.c0
              go_wp2_with fail
              refine (HH1.out _ K9.r1.1).mono ?_
              rintro e w6 ⟨rfl, hb6⟩
              have K9 := K9.on hb6
              have k1 := k1.on hb6
              have k2 := k2.on hb6
              clear e0 e1 e2 e3 c0 hb6
              cases p1 with
              | true =>
               have hpz : pz = false := HPz.out.symm
               subst hpz
               go_wp2_with fail
               go_meet
               case rel => exact ⟨rfl, K9, k1, k2⟩
              | false =>
               have e2 := k2.c0
               have e3 := k2.c1
               have c0 := K9.r1.2.c0
               go_wp2_with fail
               refine (HH2.out _ K9.r1.1).mono ?_
               rintro e w7 ⟨rfl, hb7⟩
               have K9 := K9.on hb7
               have k1 := k1.on hb7
               have k2 := k2.on hb7
               clear e2 e3 c0 hb7
               cases p2 with
               | true =>
                have hpz : pz = false := HPz.out.symm
                subst hpz
                go_wp2_with fail
                go_meet
                case rel => exact ⟨rfl, K9, k1, k2⟩
               | false =>
                have hpz : pz = true := HPz.out.symm
                subst hpz
                go_wp2_with fail
                go_meet
                case rel => exact ⟨rfl, K9, k1, k2⟩
             case rest =>
              clear k1 k2 K9
              obtain ⟨rfl, K9, k1, k2⟩ := hcut
              cases pz with
              | true =>
               have HNx0 := Lib.hid (HW.out.out HST.out (both_no HPz.out).1 (both_no HPz.out).2)
               clear k1 k2
               have HNx := Lib.hid (HNx0.out)
               have HM := Lib.hid K9
               clear HW K9
               go_wp2
               go_roundg (gk - 1)
               case measure => omega
               case rel => exact ⟨n' + 1, h, q, _, cq, by omega, by rw [HNq.out], by go_num, HKq, HNx, HM⟩
              | false =>
               have HPP := Lib.hid (one_yes HPz.out)
               cases nb with
               | false =>
                have HNL := Lib.hid (HW.out.nbf rfl)
                have e0 := k1.c0
                have e1 := k1.c1
                have e2 := k2.c0
                have e3 := k2.c1
                go_wp2_with fail
                refine (HDn.out (by first | trivial | rfl) _).mono ?_
                rintro e w7 ⟨rfl, hb7⟩
                have K9 := K9.on hb7
                clear e0 e1 e2 e3 hb7 k1 k2 HDy HHs
                go_upto_region 36 with fail
                have K9 := K9.on (below_alloc1 w7 (.cells #[.int .i64 0, .int .i64 0, .bool false] 63))
                generalize w7.alloc _ = W8 at K9 ⊢
                obtain ⟨hw6, hsw⟩ := HW.out.add HST.out HZE.out HPP.out HNL.out
                have HA := Lib.hid hsw
                have c1 := K9.cell HV81.out HHP.out
                have c2 := K9.cell HWI.out HZ.out
                have c3 := K9.froz wi
                have c4 := rdN_own K9.qr
                have hkl := HKq.out.1
                have hke := (List.getElem?_eq_some_iff.1 HKq.out.2).2
                obtain ⟨gq, hq1, hq2⟩ := c4
                obtain ⟨rfl, hgq⟩ := hq1 (by omega)
                have cq' := hq2 k hkl
                rw [hke] at cq'
                obtain ⟨t5, t6, t7, t8⟩ := HT.out
                have hkI : (k : Int) < (nq : Int) := by have := HNq.out; omega
                have hwiI : (wi : Int) < 81 := by have := HWI.out; omega
                have hvI : (v : Int) < 81 := by have := HV81.out; omega
                have HGq := Lib.hid (show g < gq from by have := (K9.qr.lt gq rfl).1; omega)
                clear hq1 hq2 hsw HW hkl hke
                go_upto_region 37 with fail
                have K9 := K9.set wi (hv xs f wi)
                have q1' : IntKind.i64.wrap (hp + st) = hv xs f wi := by rw [← hw6, IntKind.wrap_i64]; unfold wrap64; omega
                first | rw [hw6] | rw [q1'] | skip
                generalize World.setCell _ ⟨g, wi, none⟩ (.int .i64 (hv xs f wi)) = W7 at K9 ⊢
                clear c1 c2 c3 cq' hw6 q1' hkI hvI
                have hz7 := K9.lt.2
                have hq7 := K9.qr.lt gq rfl
                have hnq81 : nq ≤ 81 := by have := HNq.out; have := HLn.out; omega
                go_wp2_with (first
                 | (at_builtin; refine wpList_append_own _ rfl _ _ 24 rfl (g + 1) 3 i0 (.int .i64 0) 1 8 Tryz.underlying24 hi hz0 hz1 hz2 rfl (by decide) _ nq (natV q) rfl (HNq.out ▸ K9.qr.alloc _) ⟨W7.heap.size, 0, none⟩ 1 1 [.int .i64 (wi : Int)] rfl rfl (World.news_of_block (cs := #[.int .i64 (wi : Int)]) (t := 3) (fr := (0, 0)) (heap_alloc_new W7 _)) (by simp [Value.oneCell']) (by unfold maxLen; omega) (by omega) (by simp; omega) ?_; intro v2 w8 hown8 hgrow8 _))
                obtain ⟨A8, c8, rfl⟩ := own_shape hown8
                have HM := Lib.hid (K9.grow (y := wi) HNq.out hown8 hgrow8)
                have HNx := Lib.hid HA.out
                have HKq2 := Lib.hid (show k < (q ++ [wi]).length ∧ (q ++ [wi])[k]? = some v by
                 have h1 := HKq.out.1
                 exact ⟨by rw [List.length_append]; omega, by rw [List.getElem?_append_left h1]; exact HKq.out.2⟩)
                clear hown8 hgrow8 K9 HA
                go_wp2
                go_roundg (gk - 1)
                case measure => omega
                case rel => exact ⟨n' + 1, h.set wi (hv xs f wi), q ++ [wi], A8, c8, by omega, by rw [List.length_append, HNq.out]; rfl, by go_num, HKq2, HNx, HM⟩
               | true =>
                have e0 := k1.c0
                have e1 := k1.c1
                have e2 := k2.c0
                have e3 := k2.c1
                go_wp2_with fail
                refine (HDy.out (by first | trivial | rfl) _).mono ?_
                rintro e w7 ⟨rfl, hb7⟩
                have K9 := K9.on hb7
                clear e0 e1 e2 e3 hb7 k1 k2 HDn HDy
                go_upto_region 35 with fail
                have K9 := K9.on (below_alloc1 w7 (.cells #[.int .i64 sx', .int .i64 sy', .bool dn] 63))
                have d3 := At3.new 63 w7 sx' sy' dn
                generalize w7.alloc _ = W8 at K9 d3 ⊢
                have e0 := d3.c0
                have e1 := d3.c1
                have e2 := d3.c2
                go_wp2_with fail
                refine (HHs.out _ K9.r1.1).mono ?_
                rintro e w9 ⟨r, rfl, hr, hb9⟩
                have K9 := K9.on hb9
                clear e0 e1 e2 d3 hb9
                by_cases hin : ((sx', sy', dn) : Dm) ∈ L
                ·have hr2 : (0 : Int) ≤ r := by rw [decide_eq_true hin] at hr; exact of_decide_eq_true hr
                 have HNx0 := Lib.hid (HW.out.dom HST.out (by rw [HSD.out]; exact hin))
                 clear hr hin
                 have HNx := Lib.hid (HNx0.out)
                 have HM := Lib.hid K9
                 clear HW K9
                 go_wp2
                 go_roundg (gk - 1)
                 case measure => omega
                 case rel => exact ⟨n' + 1, h, q, _, cq, by omega, by rw [HNq.out], by go_num, HKq, HNx, HM⟩
                ·have hr2 : ¬ (0 : Int) ≤ r := by rw [decide_eq_false hin] at hr; exact of_decide_eq_false hr
                 have HNL := Lib.hid (show sdM ((v % 9 : Nat) : Int) ((v / 9 : Nat) : Int) bx by' ∉ L by rw [HSD.out]; exact hin)
                 clear hr hin
                 go_upto_region 36 with fail
                 obtain ⟨hw6, hsw⟩ := HW.out.add HST.out HZE.out HPP.out HNL.out
                 have HA := Lib.hid hsw
                 have c1 := K9.cell HV81.out HHP.out
                 have c2 := K9.cell HWI.out HZ.out
                 have c3 := K9.froz wi
                 have c4 := rdN_own K9.qr
                 have hkl := HKq.out.1
                 have hke := (List.getElem?_eq_some_iff.1 HKq.out.2).2
                 obtain ⟨gq, hq1, hq2⟩ := c4
                 obtain ⟨rfl, hgq⟩ := hq1 (by omega)
                 have cq' := hq2 k hkl
                 rw [hke] at cq'
                 obtain ⟨t5, t6, t7, t8⟩ := HT.out
                 have hkI : (k : Int) < (nq : Int) := by have := HNq.out; omega
                 have hwiI : (wi : Int) < 81 := by have := HWI.out; omega
                 have hvI : (v : Int) < 81 := by have := HV81.out; omega
                 have HGq := Lib.hid (show g < gq from by have := (K9.qr.lt gq rfl).1; omega)
                 clear hq1 hq2 hsw HW hkl hke
                 go_upto_region 37 with fail
                 have K9 := K9.set wi (hv xs f wi)
                 have q1' : IntKind.i64.wrap (hp + st) = hv xs f wi := by rw [← hw6, IntKind.wrap_i64]; unfold wrap64; omega
                 first | rw [hw6] | rw [q1'] | skip
                 generalize World.setCell _ ⟨g, wi, none⟩ (.int .i64 (hv xs f wi)) = W7 at K9 ⊢
                 clear c1 c2 c3 cq' hw6 q1' hkI hvI
                 have hz7 := K9.lt.2
                 have hq7 := K9.qr.lt gq rfl
                 have hnq81 : nq ≤ 81 := by have := HNq.out; have := HLn.out; omega
                 go_wp2_with (first
                  | (at_builtin; refine wpList_append_own _ rfl _ _ 24 rfl (g + 1) 3 i0 (.int .i64 0) 1 8 Tryz.underlying24 hi hz0 hz1 hz2 rfl (by decide) _ nq (natV q) rfl (HNq.out ▸ K9.qr.alloc _) ⟨W7.heap.size, 0, none⟩ 1 1 [.int .i64 (wi : Int)] rfl rfl (World.news_of_block (cs := #[.int .i64 (wi : Int)]) (t := 3) (fr := (0, 0)) (heap_alloc_new W7 _)) (by simp [Value.oneCell']) (by unfold maxLen; omega) (by omega) (by simp; omega) ?_; intro v2 w8 hown8 hgrow8 _))
                 obtain ⟨A8, c8, rfl⟩ := own_shape hown8
                 have HM := Lib.hid (K9.grow (y := wi) HNq.out hown8 hgrow8)
                 have HNx := Lib.hid HA.out
                 have HKq2 := Lib.hid (show k < (q ++ [wi]).length ∧ (q ++ [wi])[k]? = some v by
                  have h1 := HKq.out.1
                  exact ⟨by rw [List.length_append]; omega, by rw [List.getElem?_append_left h1]; exact HKq.out.2⟩)
                 clear hown8 hgrow8 K9 HA
                 go_wp2
                 go_roundg (gk - 1)
                 case measure => omega
                 case rel => exact ⟨n' + 1, h.set wi (hv xs f wi), q ++ [wi], A8, c8, by omega, by rw [List.length_append, HNq.out]; rfl, by go_num, HKq2, HNx, HM⟩
            ·have hzb : (z != -1000) = true := by simpa using hze
             have HNx0 := Lib.hid (HW.out.old HST.out hze)
             clear hze
             have HNx := Lib.hid (HNx0.out)
             have HM := Lib.hid K9
             clear HW K9
             go_wp2
             go_roundg (gk - 1)
             case measure => omega
             case rel => exact ⟨n' + 1, h, q, _, cq, by omega, by rw [HNq.out], by go_num, HKq, HNx, HM⟩
          ·obtain rfl : n' = 4 := by omega
           have HNx := Lib.hid (HSw.out.next HKq.out.1)
           have HL := Lib.hid HKq.out.1
           have hl82 := HSw.out.len
           have hk82 := HKq.out.1
           clear HSw HKq
           go_wp2
           go_roundg (82 - (k + 1))
           case measure => omega
           case rel => exact ⟨k + 1, h, q, Aq, cq, by omega, HL.out, by go_num, rfl, HNx, HM⟩
        ·obtain rfl : k = q.length := by omega
         have HD := Lib.hid (HFn.out h q HSw.out)
         have HO := Lib.hid (own_base HM.out.hr (Nat.le_succ w.heap.size))
         have HB := Lib.hid HM.out.r1.1
         have HLn := Lib.hid HSw.out.hl
         clear HSw HM
         go_wp2
         go_ret
         exact ⟨h, some ⟨g, 0, none⟩, 81, ch, HD.out, HLn.out, rfl, HO.out, HB.out⟩
end Go.Proofs.YtmajllgfmclcoaaGreatDoor.Hgt
