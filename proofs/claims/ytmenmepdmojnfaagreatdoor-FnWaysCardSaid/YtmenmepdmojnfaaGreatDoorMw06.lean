/- Dss, TilA, RegOk, RegHas, CelM in one text. -/
import Derived.Test.YtmenmepdmojnfaaGreatDoorMw05
import Derived.Test.YtmenmepdmojnfaaGreatDoorMw04
import Derived.Test.YtmenmepdmojnfaaGreatDoorMw02
import Derived.Test.YtmenmepdmojnfaaGreatDoorMw01
import Derived.Deep.RegionHeld3
import Derived.OwnWalk
import Derived.Laws.AppendOwn
import Derived.Deep.AppendLies
import Derived.Laws.OwnMore

namespace Go.Proofs.YtmenmepdmojnfaaGreatDoor.Dss
set_option linter.unusedVariables false
set_option linter.unusedSimpArgs false
open Go.RowKit Go.Proofs.YtmenmepdmojnfaaGreatDoor.Base Go.Proofs.YtmenmepdmojnfaaGreatDoor.Dms Go.Joins
open Go.Proofs.YtmenmepdmojnfaaGreatDoor.Reg hiding add_none

def blk (a : Option Addr) : Option Nat := a.map (·.block)
theorem ownBlock_slice (a : Option Addr) (n c : Nat) : (Value.slice a n c).ownBlock = blk a := by cases a <;> rfl
def Dif (a b : Option Addr) : Prop := ∀ g, blk a = some g → blk b ≠ some g
theorem Dif.symm {a b : Option Addr} (h : Dif a b) : Dif b a := fun g h1 h2 => h g h2 h1
theorem dif_types {W : World} {lo lo' e e' size size' n n' : Nat} {A A' : Option Addr} {c c' m m' : Nat} {xs xs' : List Value} (h : W.ownsRow lo e size (.slice A m c) n xs) (h' : W.ownsRow lo' e' size' (.slice A' m' c') n' xs') (hne : e ≠ e') : Dif A A' := by
 intro g h1 h2
 rcases h.2 with ⟨hv, _⟩ | ⟨g1, cap1, cur1, hv, _, hg1, _⟩
 ·injection hv with hA; subst hA; cases h1
 ·injection hv with hA; subst hA
  rcases h'.2 with ⟨hv', _⟩ | ⟨g2, cap2, cur2, hv', _, hg2, _⟩
  ·injection hv' with hA'; subst hA'; cases h2
  ·injection hv' with hA'; subst hA'
   simp [blk] at h1 h2
   subst h1; subst h2
   rw [hg1] at hg2
   injection hg2 with hg2
   injection hg2 with _ hg2
   exact hne hg2
def outs (h : Nat) (S : List (Option Addr × Nat)) : List Value := S.map fun s : Option Addr × Nat => Value.slice s.1 h s.2
theorem outs_length (h : Nat) (S : List (Option Addr × Nat)) : (outs h S).length = S.length := by unfold outs; simp
theorem outs_at {h : Nat} {S : List (Option Addr × Nat)} {i : Nat} {s : Option Addr × Nat} (hs : S[i]? = some s) : (outs h S)[i]? = some (.slice s.1 h s.2) := by unfold outs; rw [List.getElem?_map, hs]; rfl
def Ins (W : World) (lo hi h : Nat) (L : List (List Dm)) (S : List (Option Addr × Nat)) : Prop :=
 S.length = L.length ∧ (∀ (i : Nat) (s : Option Addr × Nat) (x : List Dm), S[i]? = some s → L[i]? = some x → RowIn W lo hi 73 3 (.slice s.1 h s.2) h (rowM x)) ∧ S.Pairwise (fun s t : Option Addr × Nat => Dif s.1 t.1)
def SSl (W : World) (lo hi : Nat) (A : Option Addr) (m cap h : Nat) (L : List (List Dm)) (S : List (Option Addr × Nat)) : Prop :=
 RowIn W lo hi 27 1 (.slice A m cap) m (outs h S) ∧ Ins W lo hi h L S
def SSIn (W : World) (lo hi : Nat) (A : Option Addr) (m cap h : Nat) (L : List (List Dm)) : Prop := ∃ S, SSl W lo hi A m cap h L S
theorem SSl.length {W : World} {lo hi m cap h : Nat} {A : Option Addr} {L : List (List Dm)} {S : List (Option Addr × Nat)} (k : SSl W lo hi A m cap h L S) : L.length = m ∧ S.length = m := by
 have h1 := k.1.1.1
 rw [outs_length] at h1
 have h2 := k.2.1
 omega
theorem Ins.nil (W : World) (lo hi h : Nat) : Ins W lo hi h [] [] := ⟨rfl, fun i s x hs => by simp at hs, List.Pairwise.nil⟩
theorem RowIn.wide {W : World} {lo hi lo' hi' e size n : Nat} {v : Value} {xs : List Value} (h : RowIn W lo hi e size v n xs) (h1 : lo' ≤ lo) (h2 : hi ≤ hi') : RowIn W lo' hi' e size v n xs :=
 ⟨own_base h.1 h1, fun g hg => by have := h.2 g hg; omega⟩
theorem Ins.wide {W : World} {lo hi lo' hi' h : Nat} {L : List (List Dm)} {S : List (Option Addr × Nat)} (k : Ins W lo hi h L S) (h1 : lo' ≤ lo) (h2 : hi ≤ hi') : Ins W lo' hi' h L S :=
 ⟨k.1, fun i s x hs hx => RowIn.wide (k.2.1 i s x hs hx) h1 h2, k.2.2⟩
theorem Ins.on {W W' : World} {lo hi h : Nat} {L : List (List Dm)} {S : List (Option Addr × Nat)} (k : Ins W lo hi h L S) (hb : Below W.heap.size W W') : Ins W' lo hi h L S :=
 ⟨k.1, fun i s x hs hx => (k.2.1 i s x hs hx).on hb, k.2.2⟩
theorem SSIn.wide {W : World} {lo hi lo' hi' m cap h : Nat} {A : Option Addr} {L : List (List Dm)} (k : SSIn W lo hi A m cap h L) (h1 : lo' ≤ lo) (h2 : hi ≤ hi') : SSIn W lo' hi' A m cap h L := by
 obtain ⟨S, k1, k2⟩ := k
 exact ⟨S, RowIn.wide k1 h1 h2, k2.wide h1 h2⟩
theorem rows_dif {W : World} {lo hi lo' hi' e e' size size' n n' m m' c c' : Nat} {A A' : Option Addr} {xs xs' : List Value} (h : RowIn W lo hi e size (.slice A m c) n xs) (h' : RowIn W lo' hi' e' size' (.slice A' m' c') n' xs') (hd : hi ≤ lo') : Dif A A' := by
 intro g h1 h2
 have a := h.2 g (by rw [ownBlock_slice]; exact h1)
 have b := (h'.1.lt g (by rw [ownBlock_slice]; exact h2)).1
 omega
theorem Ins.app {W : World} {lo hi lo' hi' h : Nat} {L L' : List (List Dm)} {S S' : List (Option Addr × Nat)} (k : Ins W lo hi h L S) (k' : Ins W lo' hi' h L' S') (h1 : lo ≤ hi) (hd : hi ≤ lo') (h2 : lo' ≤ hi') : Ins W lo hi' h (L ++ L') (S ++ S') := by
 refine ⟨by rw [List.length_append, List.length_append, k.1, k'.1], fun i s x hs hx => ?_, ?_⟩
 ·by_cases hi' : i < S.length
  ·rw [List.getElem?_append_left hi'] at hs
   rw [List.getElem?_append_left (by rw [← k.1]; exact hi')] at hx
   exact RowIn.wide (k.2.1 i s x hs hx) (Nat.le_refl _) (by omega)
  ·rw [List.getElem?_append_right (by omega)] at hs
   rw [List.getElem?_append_right (by rw [← k.1]; omega), ← k.1] at hx
   exact RowIn.wide (k'.2.1 _ s x hs hx) (by omega) (Nat.le_refl _)
 ·rw [List.pairwise_append]
  refine ⟨k.2.2, k'.2.2, fun s hs t ht => ?_⟩
  obtain ⟨i, hi1, e1⟩ := List.getElem_of_mem hs
  obtain ⟨j, hj1, e2⟩ := List.getElem_of_mem ht
  have r1 := k.2.1 i s _ (by rw [List.getElem?_eq_getElem hi1, e1]) (List.getElem?_eq_getElem (by rw [← k.1]; exact hi1))
  have r2 := k'.2.1 j t _ (by rw [List.getElem?_eq_getElem hj1, e2]) (List.getElem?_eq_getElem (by rw [← k'.1]; exact hj1))
  exact rows_dif r1 r2 hd
theorem Ins.one {W : World} {lo hi h c : Nat} {A : Option Addr} {x : List Dm} (k : RowIn W lo hi 73 3 (.slice A h c) h (rowM x)) : Ins W lo hi h [x] [(A, c)] := by
 refine ⟨rfl, fun i s y hs hy => ?_, by simp⟩
 cases i with
 | zero => simp at hs hy; subst hs; subst hy; exact k
 | succ i => simp at hs

def RowSS (w : World) (B : Nat) (A : Option Addr) (m h : Nat) (L : List (List Dm)) : Prop :=
 ∃ (b : Nat) (S : List (Option Addr × Nat)), S.length = L.length ∧ (0 < m → A = some ⟨b, 0, none⟩ ∧ b < B) ∧ ∀ (i : Nat) (s : Option Addr × Nat) (x : List Dm), S[i]? = some s → L[i]? = some x → w.cell? ⟨b, i, none⟩ = some (.slice s.1 h s.2) ∧ RowM w B s.1 x
theorem ss_row {W : World} {lo hi m cap h : Nat} {A : Option Addr} {L : List (List Dm)} (k : SSIn W lo hi A m cap h L) : RowSS W W.heap.size A m h L := by
 obtain ⟨S, k⟩ := k
 have hl := k.length
 by_cases h0 : 0 < m
 ·obtain ⟨g, c, hv, _, hlt⟩ := k.1.1.form (by omega)
  injection hv with hA
  subst hA
  refine ⟨g, S, k.2.1, fun _ => ⟨rfl, hlt⟩, fun i s x hs hx => ⟨?_, rowM_own (k.2.2.1 i s x hs hx).1⟩⟩
  have := k.1.1.cells (g := g) rfl i _ (outs_at hs)
  rwa [Base.add_plain] at this
 ·refine ⟨0, S, k.2.1, fun q => by omega, fun i s x hs hx => ?_⟩
  have := (List.getElem?_eq_some_iff.1 hs).1
  omega
theorem RowSS.below {w w' : World} {B B' : Nat} {A : Option Addr} {m h : Nat} {L : List (List Dm)} (k : RowSS w B A m h L) (hm : L.length = m) (hb : Below B' w w') (hB : B ≤ B') : RowSS w' B A m h L := by
 obtain ⟨b, S, h1, h2, h3⟩ := k
 refine ⟨b, S, h1, h2, fun i s x hs hx => ?_⟩
 obtain ⟨a, c⟩ := h3 i s x hs hx
 have h0 : 0 < m := by have := (List.getElem?_eq_some_iff.1 hx).1; omega
 exact ⟨(hb.cell (p := ⟨b, i, none⟩) (by show b < _; have := (h2 h0).2; omega)).trans a, c.below hb hB⟩

end Go.Proofs.YtmenmepdmojnfaaGreatDoor.Dss

namespace Go.Proofs.YtmenmepdmojnfaaGreatDoor.Til
set_option linter.unusedVariables false
set_option linter.unusedSimpArgs false
open Go.RowKit Go.Proofs.YtmenmepdmojnfaaGreatDoor.Cell Go.Proofs.YtmenmepdmojnfaaGreatDoor.Dom Go.Proofs.YtmenmepdmojnfaaGreatDoor.Dms Go.Joins

def Bc (w : World) (x y : Int) (W : World) : Prop := Below w.heap.size w W ∧ At2 W w.heap.size x y
theorem bc_start (x y : Int) (w : World) : Bc w x y (w.alloc (.cells #[.int .i64 x, .int .i64 y] 67)) := ⟨below_alloc1 w _, At2.new w x y⟩
theorem Bc.on {w W W' : World} {x y : Int} (h : Bc w x y W) (hb : Below W.heap.size W W') : Bc w x y W' := ⟨h.1.trans (hb.mono h.1.size), h.2.on hb⟩
def Miss (L : List Dm) (x y : Int) (k : Nat) : Prop := ∀ j e, j < k → L[j]? = some e → covM e x y = false
theorem Miss.zero (L : List Dm) (x y : Int) : Miss L x y 0 := fun j e h => by omega
theorem Miss.succ {L : List Dm} {x y : Int} {k : Nat} (h : Miss L x y k) {d : Dm} (hd : L[k]? = some d) (hc : covM d x y = false) : Miss L x y (k + 1) := by
 intro j e hj he
 by_cases hjk : j = k
 ·subst hjk; rw [hd] at he; injection he with he; subst he; exact hc
 ·exact h j e (by omega) he
theorem Miss.hit {L : List Dm} {x y : Int} {k : Nat} (h : Miss L x y k) {d : Dm} (hd : L[k]? = some d) (hc : covM d x y = true) : atI L x y = (k : Int) := atI_hit h hd hc
theorem Miss.all {L : List Dm} {x y : Int} (h : Miss L x y L.length) : atI L x y = -1 := atI_miss h

set_option maxRecDepth 100000 in
set_option maxHeartbeats 1000000 in
theorem sDominoAt (w : World) (A : Option Addr) (n cap B : Nat) (L : List Dm) (hL : L.length = n) (hn : (n : Int) ≤ 9223372036854775807) (h : RowM w B A L) (hB : B ≤ w.heap.size) (x y : Int) :
  Calls Tryz.prog 125 #[.slice A n cap, .agg #[.int .i64 x, .int .i64 y]] w (Num (atI L x y) w) := by
 obtain ⟨b0, off, h1, h2⟩ := h.at
 have HA := Lib.hid (fun hp => h1 hp)
 have HC := Lib.hid h2
 have HL := Lib.hid hL
 have HB := Lib.hid hB
 have HS := Lib.hid (bc_start x y w)
 clear h h1 h2 hL hB
 go_enter Tryz.func125, Tryz.ntmps125
 go_wp2_with fail
 go_loopw [5] (fun i wr => ∃ j : Nat, j ≤ n ∧ i = .int .i64 j ∧ Bc w x y wr ∧ Hid (Miss L x y j)) (fun i _ => n - (intOf i).toNat)
 case atStart => exact ⟨0, Nat.zero_le _, rfl, HS.out, Lib.hid (Miss.zero _ _ _)⟩
 case round =>
  clear HS
  obtain ⟨j, hj, rfl, hT, hM⟩ := hrel
  have hbs := hT.1.size
  by_cases hlt : j < n
  ·have hjL : j < L.length := by have := HL.out; omega
   obtain ⟨rfl, hbB⟩ := HA.out (by omega)
   obtain ⟨c0, c1, c2⟩ := HC.out j hjL
   have hbw : b0 < w.heap.size := by have := HB.out; omega
   have c0 := (hT.1.cell (p := ⟨b0, off + j * 3, none⟩) hbw).trans c0
   have c1 := (hT.1.cell (p := ⟨b0, off + j * 3 + 1, none⟩) hbw).trans c1
   have c2 := (hT.1.cell (p := ⟨b0, off + j * 3 + 2, none⟩) hbw).trans c2
   have HD := Lib.hid (List.getElem?_eq_getElem (l := L) hjL)
   generalize L[j] = d at c0 c1 c2 HD
   obtain ⟨u, v, b⟩ := d
   simp only at c0 c1 c2
   have HO := Lib.hid (fun W => sDominoOk u v b W)
   have HU := Lib.hid (fun hd W => sCellsUnder_ok u v b hd W)
   have HK := Lib.hid (show covM (u, v, b) x y = (domB u v b && (eqB x y u v || eqB x y (sx u b) (sy v b))) from rfl)
   generalize domB u v b = p at HO HU HK
   generalize sx u b = m at HU HK
   generalize sy v b = q at HU HK
   have HT := Lib.hid hT
   go_wp2_with fail
   refine (HO.out _).mono ?_
   rintro e w1 ⟨rfl, hb1⟩
   have T1 := HT.out.on hb1
   clear HO HT hT hbs
   cases p with
   | false =>
    have HM := Lib.hid (hM.out.succ HD.out (by rw [HK.out]; rfl))
    clear c0 c1 c2 HU HK hM HD hb1
    go_wp2
    go_roundw
    case rel => exact ⟨j + 1, by omega, by go_num, T1, HM⟩
    case measure => (simp [intOf] <;> omega)
   | true =>
    have hwr : b0 < wr.heap.size := World.block_lt_of_cell? _ _ c0
    have c0 := (hb1.cell (p := ⟨b0, off + j * 3, none⟩) hwr).trans c0
    have c1 := (hb1.cell (p := ⟨b0, off + j * 3 + 1, none⟩) hwr).trans c1
    have c2 := (hb1.cell (p := ⟨b0, off + j * 3 + 2, none⟩) hwr).trans c2
    clear hb1
    go_wp2_with fail
    refine (HU.out trivial _).mono ?_
    rintro e w2 ⟨rfl, hb2⟩
    have T2 := T1.on hb2
    clear c0 c1 c2 T1 hb2 HU
    go_upto_region 6 with fail
    obtain ⟨k1, k2, k3⟩ := at2_two w2 u v m q
    have T3 := T2.on k3
    generalize (w2.alloc (.cells #[.int .i64 u, .int .i64 v] 67)).alloc (.cells #[.int .i64 m, .int .i64 q] 67) = W at k1 k2 T3 ⊢
    have c0 := k1.c0
    have c1 := k1.c1
    have c2 := k2.c0
    have c3 := k2.c1
    have c4 := T3.2.c0
    have c5 := T3.2.c1
    have HY := Lib.hid (fun (hh : (u = x ∧ v = y) ∨ (m = x ∧ q = y)) => hM.out.hit HD.out (by rw [HK.out]; simp [eqB_iff]; rcases hh with ⟨rfl, rfl⟩ | ⟨rfl, rfl⟩ <;> simp))
    have HN := Lib.hid (fun (hh : ¬ ((u = x ∧ v = y) ∨ (m = x ∧ q = y))) => hM.out.succ HD.out (by rw [HK.out, Bool.true_and, Bool.eq_false_iff]; intro hc; simp only [Bool.or_eq_true, eqB_iff] at hc; exact hh (by omega)))
    have HT3 := Lib.hid T3
    clear k1 k2 k3 T2 T3 HK hM HD
    go_wp2
    all_goals first
     | (go_ret; rw [HY.out (by omega)]; exact ⟨rfl, HT3.out.1⟩)
     | (refine ⟨⟨j + 1, by omega, by go_num, HT3.out, Lib.hid (HN.out (by omega))⟩, ?_⟩; simp [intOf] <;> omega)
  ·obtain rfl : j = n := by omega
   have HE := Lib.hid (show atI L x y = -1 from Miss.all (by rw [HL.out]; exact hM.out))
   go_wp2
   go_ret
   rw [HE.out]
   exact ⟨rfl, hT.1⟩
end Go.Proofs.YtmenmepdmojnfaaGreatDoor.Til

namespace Go.Proofs.YtmenmepdmojnfaaGreatDoor.Reg
set_option linter.unusedVariables false
open Go.RowKit Go.Proofs.YtmenmepdmojnfaaGreatDoor.Pure Go.Proofs.YtmenmepdmojnfaaGreatDoor.Cell Go.Joins

def InTo (xs : List Int) (k : Nat) : Prop := ∀ x ∈ xs.take k, 0 ≤ x ∧ x ≤ 255
theorem InTo.zero (xs : List Int) : InTo xs 0 := fun x hx => by simp at hx
theorem InTo.next {xs : List Int} {k : Nat} (h : InTo xs k) (hk : k < xs.length) (h0 : 0 ≤ xs[k]) (h1 : xs[k] ≤ 255) : InTo xs (k + 1) := by
 intro x hx
 rw [List.take_succ_eq_append_getElem hk, List.mem_append, List.mem_singleton] at hx
 rcases hx with hx | rfl
 ·exact h x hx
 ·exact ⟨h0, h1⟩
theorem InTo.all {xs : List Int} {k : Nat} (h : InTo xs k) (hk : k = xs.length) : ∀ x ∈ xs, 0 ≤ x ∧ x ≤ 255 := by
 subst hk
 unfold InTo at h
 rwa [List.take_length] at h
theorem not_ok_at {xs : List Int} {k : Nat} (hk : k < xs.length) (h : ¬ (0 ≤ xs[k] ∧ xs[k] ≤ 255)) : okRB xs = false := okRB_not fun ho => h (ho.2 _ (List.getElem_mem hk))
set_option maxRecDepth 100000 in
set_option maxHeartbeats 1000000 in
theorem iRegionOk (w : World) (A : Option Addr) (n cap B : Nat) (xs : List Int) (hx : xs.length = n) (hn : (n : Int) ≤ 9223372036854775807) (h : RowB w B A xs) (hB : B ≤ w.heap.size) :
  Calls Tryz.prog 90 #[.agg #[.slice A n cap]] w (Bol (okRB xs) w) := by
 obtain ⟨b, off, hA, hc⟩ := h
 have HA := Lib.hid hA
 have HC := Lib.hid hc
 have HX := Lib.hid hx
 clear hA hc hx
 have HBw := Lib.hid (fun (o : Obj) => below_alloc1 w o)
 go_enter Tryz.func90, Tryz.ntmps90
 by_cases h8 : (n : Int) ≤ 8
 ·go_wp2_with fail
  go_loop [12] (fun i => ∃ k : Nat, k ≤ n ∧ i = .int .i64 k ∧ Hid (InTo xs k)) (fun i => n - (intOf i).toNat)
  case atStart => exact ⟨0, Nat.zero_le _, rfl, Lib.hid (InTo.zero xs)⟩
  case round =>
   obtain ⟨k, hk, rfl, HI⟩ := hrel
   by_cases hlt : k < n
   ·have hkx : k < xs.length := by have := HX.out; omega
    obtain ⟨rfl, hbw⟩ := HA.out (by omega)
    have hc1 : (w.alloc (.cells #[.slice (some ⟨b, off, none⟩) n cap] 26)).cell? ⟨b, off + k, none⟩ = some (.int .i64 xs[k]) :=
     ((HBw.out _).cell (p := ⟨b, off + k, none⟩) (by show b < _; omega)).trans (HC.out k xs[k] (List.getElem?_eq_getElem hkx))
    have HNx := Lib.hid (fun h0 h1 => HI.out.next hkx h0 h1)
    have HNo := Lib.hid (fun h => not_ok_at hkx h)
    generalize xs[k] = x at hc1 HNx HNo
    by_cases h0 : 0 ≤ x
    ·by_cases h1 : x ≤ 255
     ·go_wp2
      go_round
      case rel => exact ⟨k + 1, by omega, by go_num, Lib.hid (HNx.out h0 h1)⟩
      case measure => (simp [intOf] <;> omega)
     ·have HR := Lib.hid (HNo.out (fun h => h1 h.2))
      go_wp2
      go_ret
      exact mkBol (by rw [HR.out]) (HBw.out _)
    ·have HR := Lib.hid (HNo.out (fun h => h0 h.1))
     go_wp2
     go_ret
     exact mkBol (by rw [HR.out]) (HBw.out _)
   ·obtain rfl : k = n := by omega
    have HR := Lib.hid (show okRB xs = true from okRB_of ⟨by have := HX.out; omega, HI.out.all (by rw [HX.out])⟩)
    go_wp2
    go_ret
    exact mkBol (by rw [HR.out]) (HBw.out _)
 ·have HR := Lib.hid (show okRB xs = false from okRB_not fun ho => by have := ho.1; have := HX.out; omega)
  go_wp2
  go_ret
  exact mkBol (by rw [HR.out]) (HBw.out _)

set_option maxRecDepth 100000 in
set_option maxHeartbeats 1000000 in
theorem sRegionOk (w : World) (A : Option Addr) (n cap B : Nat) (xs : List Int) (hx : xs.length = n) (hn : (n : Int) ≤ 9223372036854775807) (h : RowB w B A xs) (hB : B ≤ w.heap.size) :
  Calls Tryz.prog 44 #[.agg #[.slice A n cap]] w (Bol (okRB xs) w) := by
 obtain ⟨b, off, hA, hc⟩ := h
 have HA := Lib.hid hA
 have HC := Lib.hid hc
 have HX := Lib.hid hx
 clear hA hc hx
 have HBw := Lib.hid (fun (o : Obj) => below_alloc1 w o)
 go_enter Tryz.func44, Tryz.ntmps44
 go_wp2_with fail
 go_loop [3] (fun i => ∃ k : Nat, k ≤ n ∧ i = .int .i64 k ∧ Hid (InTo xs k)) (fun i => n - (intOf i).toNat)
 case atStart => exact ⟨0, Nat.zero_le _, rfl, Lib.hid (InTo.zero xs)⟩
 case round =>
  obtain ⟨k, hk, rfl, HI⟩ := hrel
  by_cases hlt : k < n
  ·have hkx : k < xs.length := by have := HX.out; omega
   obtain ⟨rfl, hbw⟩ := HA.out (by omega)
   have hc1 : (w.alloc (.cells #[.slice (some ⟨b, off, none⟩) n cap] 26)).cell? ⟨b, off + k, none⟩ = some (.int .i64 xs[k]) :=
    ((HBw.out _).cell (p := ⟨b, off + k, none⟩) (by show b < _; omega)).trans (HC.out k xs[k] (List.getElem?_eq_getElem hkx))
   have HNx := Lib.hid (fun h0 h1 => HI.out.next hkx h0 h1)
   have HNo := Lib.hid (fun h => not_ok_at hkx h)
   generalize xs[k] = x at hc1 HNx HNo
   go_wp2_with fail
   refine (l01In x 0 255 _).mono ?_
   rintro e w1 ⟨rfl, rfl⟩
   by_cases h0 : 0 ≤ x ∧ x ≤ 255
   ·rw [inB_of h0]
    go_wp2
    go_round
    case rel => exact ⟨k + 1, by omega, by go_num, Lib.hid (HNx.out h0.1 h0.2)⟩
    case measure => (simp [intOf] <;> omega)
   ·rw [inB_not h0]
    have HR := Lib.hid (HNo.out h0)
    go_wp2
    go_ret
    exact mkBol (by rw [HR.out]) (HBw.out _)
  ·obtain rfl : k = n := by omega
   by_cases h8 : (k : Int) ≤ 8
   ·have HR := Lib.hid (show okRB xs = true from okRB_of ⟨by have := HX.out; omega, HI.out.all (by rw [HX.out])⟩)
    go_wp2
    go_ret
    exact mkBol (by rw [HR.out]) (HBw.out _)
   ·have HR := Lib.hid (show okRB xs = false from okRB_not fun ho => by have := ho.1; have := HX.out; omega)
    go_wp2
    go_ret
    exact mkBol (by rw [HR.out]) (HBw.out _)
end Go.Proofs.YtmenmepdmojnfaaGreatDoor.Reg

namespace Go.Proofs.YtmenmepdmojnfaaGreatDoor.Reg
set_option linter.unusedVariables false
open Go.RowKit Go.Proofs.YtmenmepdmojnfaaGreatDoor.Pure Go.Proofs.YtmenmepdmojnfaaGreatDoor.Cell Go.Joins

def kindN (r : Int) (k : Nat) : Int := if bitB r k then 1 else 0
theorem kindN_no {r : Int} {k : Nat} (h : bitB r k = false) : kindN r k = 0 := by unfold kindN; rw [h]; rfl
theorem kindN_yes {r : Int} {k : Nat} (h : bitB r k = true) : kindN r k = 1 := by unfold kindN; rw [h]; rfl

set_option maxHeartbeats 1000000 in
theorem iKindAt (r : Int) (k : Nat) (h0 : 0 ≤ r) (h1 : r ≤ 255) (hk : k < 8) (w : World) :
  Calls Tryz.prog 131 #[.int .i64 r, .int .i64 (k : Int)] w fun e w' => e = .returned (.int .i64 (kindN r k)) ∧ w' = w := by
 cases hb : bitB r k with
 | false =>
  have hz := and_no h0 h1 hk hb
  have HK := Lib.hid (kindN_no hb)
  clear hb h0 h1
  have hcs : k = 0 ∨ k = 1 ∨ k = 2 ∨ k = 3 ∨ k = 4 ∨ k = 5 ∨ k = 6 ∨ k = 7 := by omega
  clear hk
  rcases hcs with rfl | rfl | rfl | rfl | rfl | rfl | rfl | rfl
  all_goals
   simp only [Int.reducePow] at hz
   go_enter Tryz.func131, Tryz.ntmps131
   go_wp2
   go_ret
   exact ⟨by rw [HK.out]; rfl, rfl⟩
 | true =>
  have hz := and_yes h0 h1 hk hb
  have HK := Lib.hid (kindN_yes hb)
  clear hb h0 h1
  have hcs : k = 0 ∨ k = 1 ∨ k = 2 ∨ k = 3 ∨ k = 4 ∨ k = 5 ∨ k = 6 ∨ k = 7 := by omega
  clear hk
  rcases hcs with rfl | rfl | rfl | rfl | rfl | rfl | rfl | rfl
  all_goals
   simp only [Int.reducePow] at hz
   go_enter Tryz.func131, Tryz.ntmps131
   go_wp2
   go_ret
   exact ⟨by rw [HK.out]; rfl, rfl⟩

set_option maxRecDepth 100000 in
set_option maxHeartbeats 4000000 in
theorem sHas (w : World) (A : Option Addr) (n cap B : Nat) (xs : List Int) (hx : xs.length = n) (ho : okR xs) (h : RowB w B A xs) (hB : B ≤ w.heap.size) (x y : Nat) (hx8 : x < 8) (hy8 : y < 8) :
  Calls Tryz.prog 72 #[.agg #[.slice A n cap], .agg #[.int .i64 (x : Int), .int .i64 (y : Int)]] w (Bol (bitB (rowD xs y) x) w) := by
 obtain ⟨b, off, hA, hc⟩ := h
 have HBw := Lib.hid (fun (o o' : Obj) => below_alloc2 w o o')
 have hn8 : n ≤ 8 := by have := ho.1; omega
 have HR := Lib.hid (rowD_ok ho y)
 by_cases hlt : y < n
 ·have hkx : y < xs.length := by omega
  obtain ⟨rfl, hbw⟩ := hA (by omega)
  have hc1 : ∀ W, Below w.heap.size w W → W.cell? ⟨b, off + y, none⟩ = some (.int .i64 (rowD xs y)) := fun W hW =>
   (hW.cell (p := ⟨b, off + y, none⟩) (by show b < _; omega)).trans (by rw [rowD_at (List.getElem?_eq_getElem hkx)]; exact hc y xs[y] (List.getElem?_eq_getElem hkx))
  have HC := Lib.hid (fun (o o' : Obj) => hc1 _ (HBw.out o o'))
  clear hA hc hx hkx hc1 ho
  generalize rowD xs y = r at HC HR ⊢
  obtain ⟨r0, r1⟩ := HR.out
  cases hb : bitB r x with
  | false =>
   have hz := shr_no r0 r1 hx8 hb
   clear hb r0 r1 HR
   have hcs : x = 0 ∨ x = 1 ∨ x = 2 ∨ x = 3 ∨ x = 4 ∨ x = 5 ∨ x = 6 ∨ x = 7 := by omega
   clear hx8
   rcases hcs with rfl | rfl | rfl | rfl | rfl | rfl | rfl | rfl
   all_goals
    have hcell := HC.out
    (try simp only [Int.reducePow, Int.pow_zero, Int.ediv_one] at hz)
    go_enter Tryz.func72, Tryz.ntmps72
    go_wp2_with fail
    go_quiet (fail)
    go_wp2
    go_ret
    exact mkBol rfl (drewN_below (HBw.out _ _) _)
  | true =>
   have hz := shr_yes r0 r1 hx8 hb
   clear hb r0 r1 HR
   have hcs : x = 0 ∨ x = 1 ∨ x = 2 ∨ x = 3 ∨ x = 4 ∨ x = 5 ∨ x = 6 ∨ x = 7 := by omega
   clear hx8
   rcases hcs with rfl | rfl | rfl | rfl | rfl | rfl | rfl | rfl
   all_goals
    have hcell := HC.out
    (try simp only [Int.reducePow, Int.pow_zero, Int.ediv_one] at hz)
    go_enter Tryz.func72, Tryz.ntmps72
    go_wp2_with fail
    go_quiet (fail)
    go_wp2
    go_ret
    exact mkBol rfl (drewN_below (HBw.out _ _) _)
 ·have hE := Lib.hid (show bitB (rowD xs y) x = false by rw [rowD_out (by omega)]; exact bitB_zero x)
  clear hA hc hx ho HR hx8
  go_enter Tryz.func72, Tryz.ntmps72
  go_wp2_with fail
  go_quiet (fail)
  go_wp2
  go_ret
  exact mkBol hE.out.symm (drewN_below (HBw.out _ _) _)
end Go.Proofs.YtmenmepdmojnfaaGreatDoor.Reg

namespace Go.Proofs.YtmenmepdmojnfaaGreatDoor.Cels
set_option linter.unusedVariables false
open Go.RowKit Go.Proofs.YtmenmepdmojnfaaGreatDoor.Base Go.Joins

def rowC (L : List (Int × Int)) : List Value := L.flatMap fun p => [.int .i64 p.1, .int .i64 p.2]
theorem rowC_snoc (L : List (Int × Int)) (p : Int × Int) : rowC (L ++ [p]) = rowC L ++ [.int .i64 p.1, .int .i64 p.2] := by unfold rowC; simp
theorem rowC_length (L : List (Int × Int)) : (rowC L).length = L.length * 2 := by
 induction L with
 | nil => rfl
 | cons p L ih => unfold rowC at ih ⊢; simp [ih]; omega
def NbPost (L : List (Int × Int)) (w : World) (e : Ending) (w' : World) : Prop :=
 ∃ (A : Option Addr) (cap : Nat), e = .returned (.slice A L.length cap) ∧ w'.ownsRow w.heap.size 67 2 (.slice A L.length cap) L.length (rowC L) ∧ Below w.heap.size w w'

theorem cellInfo : (Tryz.prog.info? 67).map (fun i => (i.zero, i.size, i.bytes)) = some (some (.agg #[.int .i64 0, .int .i64 0]), 2, 16) := by kernel_rfl

theorem rowC_at (L : List (Int × Int)) : ∀ (j : Nat) (p : Int × Int), L[j]? = some p → (rowC L)[j * 2]? = some (.int .i64 p.1) ∧ (rowC L)[j * 2 + 1]? = some (.int .i64 p.2) := by
 induction L with
 | nil => intro j p h; simp at h
 | cons q L ih =>
  intro j p h
  have e : rowC (q :: L) = .int .i64 q.1 :: .int .i64 q.2 :: rowC L := rfl
  rw [e]
  cases j with
  | zero => simp at h; subst h; exact ⟨rfl, rfl⟩
  | succ j =>
   have h' : L[j]? = some p := by simpa using h
   rw [show (j + 1) * 2 = j * 2 + 1 + 1 from by omega]
   exact ih j p h'
def RowC (w : World) (A : Option Addr) (L : List (Int × Int)) : Prop :=
 ∃ b off : Nat, (0 < L.length → A = some ⟨b, off, none⟩ ∧ b < w.heap.size) ∧ ∀ j p, L[j]? = some p → w.cell? ⟨b, off + j * 2, none⟩ = some (.int .i64 p.1) ∧ w.cell? ⟨b, off + j * 2 + 1, none⟩ = some (.int .i64 p.2)
theorem rowC_own {w : World} {base e n cap : Nat} {A : Option Addr} {L : List (Int × Int)} (h : w.ownsRow base e 2 (.slice A n cap) n (rowC L)) : RowC w A L := by
 have hn : L.length = n := by have := h.1; rw [rowC_length] at this; omega
 by_cases h0 : L.length = 0
 ·have : L = [] := List.eq_nil_of_length_eq_zero h0
  subst this
  exact ⟨0, 0, fun h => by simp at h, fun j u hu => by simp at hu⟩
 ·obtain ⟨g, c, hv, _, hlt⟩ := h.form (by omega)
  injection hv with hA
  subst hA
  refine ⟨g, 0, fun _ => ⟨rfl, hlt⟩, fun j p hp => ?_⟩
  obtain ⟨h1, h2⟩ := rowC_at L j p hp
  have c1 := h.cells (g := g) rfl _ _ h1
  have c2 := h.cells (g := g) rfl _ _ h2
  rw [add_plain] at c1 c2
  simp only [Nat.zero_add]
  exact ⟨c1, c2⟩
end Go.Proofs.YtmenmepdmojnfaaGreatDoor.Cels
