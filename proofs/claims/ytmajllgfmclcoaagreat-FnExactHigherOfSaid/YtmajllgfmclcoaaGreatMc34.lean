/- TfS in one text. -/
import Derived.Test.YtmajllgfmclcoaaGreatMc26
import Derived.Test.YtmajllgfmclcoaaGreatMc30
import Derived.Test.YtmajllgfmclcoaaGreatMc25
import Derived.Test.YtmajllgfmclcoaaGreatMc33
import Derived.Test.YtmajllgfmclcoaaGreatMc19
import Derived.Test.YtmajllgfmclcoaaGreatMc08
import Derived.Test.YtmajllgfmclcoaaGreatMc13
import Derived.Test.YtmajllgfmclcoaaGreatMc02

namespace Go.Proofs.YtmajllgfmclcoaaGreat.Hgt
set_option linter.unusedVariables false
set_option linter.unusedSimpArgs false
set_option maxRecDepth 100000
open Go.RowKit Go.Proofs.YtmajllgfmclcoaaGreat.Base Go.Proofs.YtmajllgfmclcoaaGreat.Pure Go.Proofs.YtmajllgfmclcoaaGreat.Cell Go.Proofs.YtmajllgfmclcoaaGreat.Dom Go.Proofs.YtmajllgfmclcoaaGreat.Dms Go.Proofs.YtmajllgfmclcoaaGreat.Til Go.Joins
open Go.Proofs.YtmajllgfmclcoaaGreat.Cels (rowC RowC rowC_own rowC_at)
open Go.Proofs.YtmajllgfmclcoaaGreat.Reg (ints RowB rowB_own own_below own_base sRegionOk sCellsOf)
open Go.Proofs.YtmajllgfmclcoaaGreat.Cor (TfP row_type rows_apart)

theorem wp_rest1 {P : Program} {c : Code} {Q : Exit → Act → World → Prop} {a : Act} {w : World} (F : Nat → Act) (Rel : World → Nat → Prop)
  (h : ∀ Q : Exit → Act → World → Prop, (∀ W p, Rel W p → Q .normal (F p) W) → c.wp P Q a w) (k : ∀ W p, Rel W p → Q .normal (F p) W) : c.wp P Q a w := h Q k
structure Tv (w : World) (v : Value) (bn : Nat) (D : List Dm) (A : Option Addr) (c lo : Nat) (Ac : Option Addr) (mc cc : Nat) (cs : List (Int × Int)) (W : World) : Prop where
 r1 : R1 w v W
 non : W.ownsRow (w.heap.size + 1) 43 3 (.slice (some ⟨bn, 0, none⟩) 0 0) 0 []
 own : W.ownsRow (bn + 1) 43 3 (.slice A D.length c) D.length (rowM D)
 cel : W.ownsRow lo 60 2 (.slice Ac mc cc) mc (rowC cs)
section
variable {w W W' : World} {v : Value} {bn : Nat} {D : List Dm} {A : Option Addr} {c lo : Nat} {Ac : Option Addr} {mc cc : Nat} {cs : List (Int × Int)}
theorem Tv.on (s : Tv w v bn D A c lo Ac mc cc cs W) (hb : Below W.heap.size W W') : Tv w v bn D A c lo Ac mc cc cs W' := ⟨s.r1.on hb, own_below s.non hb (Nat.le_refl _), own_below s.own hb (Nat.le_refl _), own_below s.cel hb (Nat.le_refl _)⟩
theorem Tv.drew (s : Tv w v bn D A c lo Ac mc cc cs W) : Tv w v bn D A c lo Ac mc cc cs W.drew := ⟨s.r1.drew, s.non, s.own, s.cel⟩
theorem Tv.grow {w6 : World} {A6 : Option Addr} {c6 : Nat} {e : Dm} {n : Nat} {o : Obj} (s : Tv w v bn D A c lo Ac mc cc cs W) (hn : D.length = n)
  (ho : w6.ownsRow (bn + 1) 43 3 (.slice A6 (n + 1) c6) (n + 1) (rowM D ++ [.int .i64 e.1, .int .i64 e.2.1, .bool e.2.2])) (hg : (W.alloc o).grownBy w6 (Value.slice A n c).ownBlock) : Tv w v bn (D ++ [e]) A6 c6 lo Ac mc cc cs w6 := by
 subst hn
 have hbx := below_alloc1 W o
 have s2 := s.on hbx
 have hbn := (s.non.lt bn rfl).1
 refine ⟨⟨s2.r1.1.grown hg s2.r1.1.size (fun g e' => by have := (s.own.lt g e').1; omega), ?_⟩, World.ownsRow.kept s2.non hg (.inr (fun e' => by have := (s.own.lt bn e'.symm).1; omega)), ?_, World.ownsRow.kept s2.cel hg (rows_apart s2.cel s2.own (by decide))⟩
 ·obtain ⟨_, _, _, _, h5⟩ := hg
  exact (h5 w.heap.size (Array.getElem?_eq_some_iff.1 s2.r1.2).1 (fun e' => by have := (s.own.lt _ e'.symm).1; omega)).trans s2.r1.2
 ·rw [List.length_append, rowM_snoc]
  exact ho
theorem Tv.put (s : Tv w v bn D A c lo Ac mc cc cs W) {p : Nat} {a b : Int} {d : Bool} (h : At3 43 W p a b d) (hp : w.heap.size < p) (hD : (Value.slice A D.length c).ownBlock ≠ some p) (hb : bn ≠ p) (a' b' : Int) (d' : Bool) :
  Tv w v bn D A c lo Ac mc cc cs (((W.setCell ⟨p, 0, none⟩ (.int .i64 a')).setCell ⟨p, 1, none⟩ (.int .i64 b')).setCell ⟨p, 2, none⟩ (.bool d')) := by
 have k : ∀ (X : World) (i : Nat) (u : Value) (cs' : Array Value), X.heap[p]? = some (.cells cs' 43 (0, 0)) → Tv w v bn D A c lo Ac mc cc cs X → Tv w v bn D A c lo Ac mc cc cs (X.setCell ⟨p, i, none⟩ u) := fun X i u cs' hX t => by
  have hg : X.grownBy (X.setCell ⟨p, i, none⟩ u) (some p) := ⟨rfl, rfl, rfl, by simp [World.setCell], fun j hj hne => Below.heap_setCell X ⟨p, i, none⟩ u j (fun q => hne (by rw [q]))⟩
  refine ⟨⟨t.r1.1.setCell (p := ⟨p, i, none⟩) (by show w.heap.size ≤ p; omega) u, (Below.heap_setCell X ⟨p, i, none⟩ u w.heap.size (by show w.heap.size ≠ p; omega)).trans t.r1.2⟩, World.ownsRow.kept t.non hg (.inr (fun q => by have e2 : some bn = some p := q; injection e2 with e2; exact hb e2)), World.ownsRow.kept t.own hg (.inr hD), World.ownsRow.kept t.cel hg ?_⟩
  cases hv : (Value.slice Ac mc cc).ownBlock with
  | none => exact .inl rfl
  | some g =>
   right
   intro q
   injection q with q
   subst q
   obtain ⟨cs2, c1⟩ := row_type t.cel hv
   rw [hX] at c1
   injection c1 with c1
   injection c1 with _ c1
   exact absurd c1 (by decide)
 have h1 := k W 0 (.int .i64 a') _ h s
 have e1 := block_setCell h (i := 0) (v := .int .i64 a')
 have h2 := k _ 1 (.int .i64 b') _ e1 h1
 have e2 := block_setCell e1 (i := 1) (v := .int .i64 b')
 exact k _ 2 (.bool d') _ e2 h2
end
set_option maxHeartbeats 8000000 in
theorem sTilingFrom (w : World) (A : Option Addr) (n cap B : Nat) (xs : List Int) (hx : xs.length = n) (hn : (n : Int) ≤ 9223372036854775807) (h : RowB w B A xs) (hB : B ≤ w.heap.size)
  (A' : Option Addr) (n' cap' B' : Nat) (hs : List Int) (hh : hs.length = n') (hn' : (n' : Int) ≤ 9223372036854775807) (h' : RowB w B' A' hs) (hB' : B' ≤ w.heap.size) :
  Calls Tryz.prog 29 #[.agg #[.slice A n cap], .slice A' n' cap'] w (TfP xs hs w) := by
 obtain ⟨i0, hi, hz0, hz1, hz2⟩ := info_parts domInfo
 have HS := Lib.hid (r1_start w (.slice A n cap))
 have HMade := Lib.hid (fun (W : World) (base : Nat) (hb : base ≤ W.heap.size) => own_base (World.ownsRow_made (e := 43) (size := 3) W #[] 0 (Nat.le_refl _) (by unfold maxLen; omega) rfl) hb)
 have HNo := Lib.hid (fun (ht : tfR xs hs [] false) W bn (hb : Below w.heap.size w W) (ho : W.ownsRow w.heap.size 43 3 (.slice (some ⟨bn, 0, none⟩) 0 0) 0 []) => show TfP xs hs w (.returned (.tuple #[.slice (some ⟨bn, 0, none⟩) 0 0, .bool false])) W from ⟨[], false, _, 0, 0, ht, rfl, rfl, ho, Nat.le_refl _, hb⟩)
 have T0 := Lib.hid (show R1 w (.slice A n cap) ((w.alloc (.cells #[.slice A n cap] 31)).alloc (.cells #[] 43)) ∧ ((w.alloc (.cells #[.slice A n cap] 31)).alloc (.cells #[] 43)).ownsRow (w.heap.size + 1) 43 3 (.slice (some ⟨w.heap.size + 1, 0, none⟩) 0 0) 0 [] from by
  have e0 : (w.alloc (.cells #[.slice A n cap] 31)).heap.size = w.heap.size + 1 := by simp
  refine ⟨HS.out.on (below_alloc1 _ _), ?_⟩
  have := HMade.out (w.alloc (.cells #[.slice A n cap] 31)) (w.heap.size + 1) (by omega)
  rw [e0] at this
  exact this)
 by_cases h81 : n' = 81
 rotate_left
 ·have hne : ((n' : Int) != 81) = true := by simp; omega
  have HT := Lib.hid (tf_short (xs := xs) (hs := hs) (by rw [hh]; exact h81))
  clear hx hn h hB hh hn' h' hB' h81
  go_enter Tryz.func29, Tryz.ntmps29
  go_wp2
  exact bodyPost_ret (v := .tuple #[.slice (some ⟨w.heap.size + 1, 0, none⟩) 0 0, .bool false]) (by simp [results, Tryz.results29, go_sem]) rfl (HNo.out HT.out _ _ T0.out.1.1 (own_base T0.out.2 (by omega)))
 ·subst h81
  have HOk := Lib.hid (fun W (hb : Below w.heap.size w W) => sRegionOk W A n cap B xs hx hn (h.below hb hB) (by have := hb.size; omega))
  have HCl := Lib.hid (fun W (hb : Below w.heap.size w W) => sCellsOf W A n cap B xs hx hn (h.below hb hB) (by have := hb.size; omega))
  have HHg := Lib.hid (fun W (hb : Below w.heap.size w W) A1 m c1 (L : List Dm) (hL : L.length = m) (hm : m ≤ 1000000) (hr : RowM W W.heap.size A1 L) => sHeights W A n cap B xs hx hn (h.below hb hB) (by have := hb.size; omega) A1 m c1 W.heap.size L hL (by omega) hr (Nat.le_refl _))
  have HEq := Lib.hid (fun W (hb : Below w.heap.size w W) A1 m c1 (ys : List Int) (hy : ys.length = m) (hm : m ≤ 1000000) (hr : RowB W W.heap.size A1 ys) => sInts W A1 A' m 81 c1 cap' W.heap.size B' ys hs hy hh (by omega) hr (h'.below hb hB'))
  have HSo := Lib.hid (fun W A1 m c1 (L : List Dm) (hL : L.length = m) (hm : m ≤ 1000000) (hr : RowM W W.heap.size A1 L) => sSortDominoes W A1 m c1 W.heap.size L hL (by omega) hr (Nat.le_refl _))
  have HYs := Lib.hid (fun M h (hr : hgtR xs M h) (e : h = hs) => tf_yes (xs := xs) (hs := hs) (M := M) hh hr e)
  obtain ⟨b0, off, hA, hcell⟩ := h'
  obtain ⟨rfl, hbB⟩ := hA (by omega)
  have HHs := Lib.hid (fun (W : World) (hb : Below w.heap.size w W) (j : Nat) (u : Int) (hj : hs[j]? = some u) => (hb.cell (p := ⟨b0, off + j, none⟩) (by show b0 < _; omega)).trans (hcell j u hj))
  have H81 := Lib.hid hh
  have HT := Lib.hid (fun C hC => pair_tell (xs := xs) (hs := hs) (C := C) hC)
  have HW0 := Lib.hid (pair_zero xs hs)
  have h64 := cellsR_length xs
  clear hx hn h hB hh hn' hA hcell hB' hbB
  go_enter Tryz.func29, Tryz.ntmps29
  go_upto_region 2 with fail
  have T1 := T0.out
  clear T0 HS
  generalize (w.alloc _).alloc _ = w1 at T1 ⊢
  have c0 := T1.1.2.c0
  go_wp2_with fail
  refine (HOk.out _ T1.1.1).mono ?_
  rintro e w2 ⟨rfl, hb2⟩
  have T2 : R1 w (.slice A n cap) w2 ∧ w2.ownsRow (w.heap.size + 1) 43 3 (.slice (some ⟨w.heap.size + 1, 0, none⟩) 0 0) 0 [] := ⟨T1.1.on hb2, own_below T1.2 hb2 (Nat.le_refl _)⟩
  clear T1 c0 hb2 HOk
  by_cases ok : okR xs
  rotate_left
  ·rw [okRB_not ok]
   have HBd := Lib.hid (tf_bad (hs := hs) ok)
   clear ok
   go_wp2
   exact bodyPost_ret (v := .tuple #[.slice (some ⟨w.heap.size + 1, 0, none⟩) 0 0, .bool false]) (by simp [results, Tryz.results29, go_sem]) rfl (HNo.out HBd.out _ _ T2.1.1 (own_base T2.2 (by omega)))
  ·rw [okRB_of ok]
   clear ok
   generalize hbn : w.heap.size + 1 = bn at T2
   have HBn := Lib.hid hbn
   clear hbn
   go_upto_region 6 with fail
   have hbd := below_alloc1 w2 (.cells #[] 43)
   have hbnl := (T2.2.lt bn rfl).2
   have HOut := Lib.hid (HMade.out w2 (bn + 1) (by omega))
   have T3 : R1 w (.slice A n cap) (w2.alloc (.cells #[] 43)) ∧ (w2.alloc (.cells #[] 43)).ownsRow bn 43 3 (.slice (some ⟨bn, 0, none⟩) 0 0) 0 [] := ⟨T2.1.on hbd, own_below T2.2 hbd (Nat.le_refl _)⟩
   generalize w2.alloc (.cells #[] 43) = w3 at HOut T3 ⊢
   generalize w2.heap.size = bd at HOut ⊢
   clear hbd hbnl T2 HMade
   have c0 := T3.1.2.c0
   go_wp2_with fail
   refine (HCl.out _ T3.1.1).mono ?_
   rintro e w4 ⟨Ac, cc, rfl, hown, hb4⟩
   obtain ⟨lo, hlo⟩ : ∃ lo, w3.heap.size = lo := ⟨_, rfl⟩
   rw [hlo] at hown
   obtain ⟨mc, hmc⟩ : ∃ mc, (cellsR xs).length = mc := ⟨_, rfl⟩
   rw [hmc] at hown h64 ⊢
   have HMc := Lib.hid hmc
   have HM0 := Lib.hid (show Tv w (.slice A n cap) bn [] (some ⟨bd, 0, none⟩) 0 lo Ac mc cc (cellsR xs) w4 from ⟨T3.1.on hb4, by rw [HBn.out]; exact own_below T3.2 hb4 (Nat.le_refl _), own_below HOut.out hb4 (Nat.le_refl _), hown⟩)
   have HSt := Lib.hid (fun C k i ca cb ha hb hC => pair_step (xs := xs) (hs := hs) (C := C) (k := k) (i := i) (ca := ca) (cb := cb) ha hb hC)
   have HNx := Lib.hid (fun C k hC => pair_next (xs := xs) (hs := hs) (C := C) (k := k) hC)
   have HTm := Lib.hid (fun C (hC : ∀ e, e ∈ C ↔ pairG xs hs mc 0 e) => HT.out C (by rw [hmc]; exact hC))
   have HCk := Lib.hid (fun k (hk : k < mc) => show ∃ c, (cellsR xs)[k]? = some c from ⟨_, List.getElem?_eq_getElem (by rw [hmc]; exact hk)⟩)
   clear hown hb4 hlo hmc T3 c0 HOut HT HCl
   generalize cellsR xs = cs at HM0 HSt HCk
   go_wp2_with fail
   go_loopg [8, 10] 65 (fun gg so sk wr => ∃ (k : Nat) (D : List Dm) (Aq : Option Addr) (cq : Nat), k + gg = 65 ∧ k ≤ mc ∧ so = .slice Aq D.length cq ∧ sk = .int .i64 k ∧ Hid (∀ e, e ∈ D ↔ pairG xs hs k 0 e) ∧ Hid (D.length ≤ 64 * k) ∧ Hid (Tv w (.slice A n cap) bn D Aq cq lo Ac mc cc cs wr))
   case atStart => exact ⟨0, [], _, 0, by omega, Nat.zero_le _, rfl, rfl, HW0, Lib.hid (by simp), HM0⟩
   case round =>
    clear HM0 HW0
    obtain ⟨k, D, Aq, cq, hgg, hkm, rfl, rfl, HW, HL, HM⟩ := hrel
    by_cases hlt : k < mc
    ·have hkI : (k : Int) < (mc : Int) := by omega
     have HKm := Lib.hid (show k < 64 by omega)
     go_wp2_with fail
     go_loopg [8, 11] k (fun gi so si wr => ∃ (i : Nat) (D : List Dm) (Aq : Option Addr) (cq : Nat), i + gi = k ∧ so = .slice Aq D.length cq ∧ si = .int .i64 i ∧ Hid (∀ e, e ∈ D ↔ pairG xs hs k i e) ∧ Hid (D.length ≤ 64 * k + i) ∧ Hid (Tv w (.slice A n cap) bn D Aq cq lo Ac mc cc cs wr))
     case atStart => exact ⟨0, D, Aq, cq, by omega, rfl, rfl, HW, Lib.hid (by have := HL.out; omega), HM⟩
     case round =>
      clear HW HL HM
      obtain ⟨i, D, Aq, cq, hgi, rfl, rfl, HW, HL, HM⟩ := hrel
      obtain ⟨nD, hnD⟩ : ∃ nD, D.length = nD := ⟨_, rfl⟩
      have HND := Lib.hid hnD
      by_cases hik : i < k
      ·obtain ⟨ca, hca⟩ := HCk.out i (by omega)
       obtain ⟨cb, hcb⟩ := HCk.out k hlt
       obtain ⟨bE, cc', hv1, hq1, hq2⟩ := HM.out.cel.form (by omega)
       injection hv1 with hA2 hm2 hcp2
       subst hA2
       subst hcp2
       obtain ⟨r1, r2⟩ := rowC_at cs i ca hca
       obtain ⟨r3, r4⟩ := rowC_at cs k cb hcb
       have HSt2 := Lib.hid (HSt.out D k i ca cb hca hcb HW.out)
       have HDm := Lib.hid (fun h => (nb_cells (a := ca) (b := cb) h).1)
       obtain ⟨ax, ay⟩ := ca
       obtain ⟨bx, by'⟩ := cb
       simp only at r1 r2 r3 r4 HSt2 HDm
       have HC4 := Lib.hid (fun (W : World) (t : Tv w (.slice A n cap) bn D Aq cq lo (some ⟨bE, 0, none⟩) mc cc cs W) => show W.cell? ⟨bE, i * 2, none⟩ = some (.int .i64 ax) ∧ W.cell? ⟨bE, i * 2 + 1, none⟩ = some (.int .i64 ay) ∧ W.cell? ⟨bE, k * 2, none⟩ = some (.int .i64 bx) ∧ W.cell? ⟨bE, k * 2 + 1, none⟩ = some (.int .i64 by') from by
        have u1 := t.cel.cells (g := bE) rfl _ _ r1
        have u2 := t.cel.cells (g := bE) rfl _ _ r2
        have u3 := t.cel.cells (g := bE) rfl _ _ r3
        have u4 := t.cel.cells (g := bE) rfl _ _ r4
        rw [Base.add_plain] at u1 u2 u3 u4
        exact ⟨u1, u2, u3, u4⟩)
       obtain ⟨e1, e2, e3, r, HDo, HDr⟩ : ∃ e1 e2 e3 r, Hid (∀ W, Calls Tryz.prog 39 #[.agg #[.int .i64 ax, .int .i64 ay], .agg #[.int .i64 bx, .int .i64 by']] W (DoB e1 e2 e3 r W)) ∧ Hid ((r = true → nbB ax ay bx by' = true ∧ (e1, e2, e3) = dOf (ax, ay) (bx, by')) ∧ (r = false → nbB ax ay bx by' = false)) := by
        cases hd : nbB ax ay bx by' with
        | true => exact ⟨_, _, _, _, Lib.hid (fun W => sDominoOver_ok ax ay bx by' hd W), Lib.hid ⟨(fun _ => ⟨rfl, rfl⟩), (fun q => by cases q)⟩⟩
        | false => exact ⟨_, _, _, _, Lib.hid (fun W => sDominoOver_no ax ay bx by' hd W), Lib.hid ⟨(fun q => by cases q), (fun _ => rfl)⟩⟩
       have hiI : (i : Int) < (mc : Int) := by omega
       have hikI : (i : Int) < (k : Int) := by omega
       have T := HM.out
       clear HM hca hcb r1 r2 r3 r4 hq1 hq2 hnD
       go_upto_region 13 with fail
       refine' wp_rest1 _ (fun W p => Tv w (.slice A n cap) bn D Aq cq lo (some ⟨bE, 0, none⟩) mc cc cs W ∧ At3 43 W p e1 e2 e3) ?_ ?_
       rotate_left
       ·intro Q R
        have R := Lib.hid R
        have T := T.drew
        refine wp_region_noPanic ?_
        refine wp_region_held_drew (S := (fun w' => w'.cell? ⟨bE, i * 2, none⟩ = some (.int .i64 ax) ∧ w'.cell? ⟨bE, i * 2 + 1, none⟩ = some (.int .i64 ay) ∧ w'.cell? ⟨bE, k * 2, none⟩ = some (.int .i64 bx) ∧ w'.cell? ⟨bE, k * 2 + 1, none⟩ = some (.int .i64 by'))) (by kernel_rfl) (HC4.out _ T) (fun hHeld => ?_)
        generalize World.drew _ = WR at T hHeld ⊢
        refine wpAnyH_take (i := 0) (v := ?_) rfl (by kernel_rfl) (by kernel_rfl) (by kernel_rfl) (fun _ _ _ h => h) (Or.inl ⟨by rfl, ?_⟩) (by assumption) ?_
        rotate_left
        ·(intro w' hS; (try dsimp only at hS); go_simp; try with_reducible rfl)
        try simp only [Act.put, List.getElem_toArray, List.getElem_cons_succ, List.getElem_cons_zero, List.setIfInBounds_toArray, List.set_cons_zero, List.set_cons_succ]
        refine wpAnyH_take (i := 1) (v := ?_) rfl (by kernel_rfl) (by kernel_rfl) (by kernel_rfl) (fun _ _ _ h => h) (Or.inl ⟨by rfl, ?_⟩) (by assumption) ?_
        rotate_left
        ·(intro w' hS; (try dsimp only at hS); go_simp; try with_reducible rfl)
        try simp only [Act.put, List.getElem_toArray, List.getElem_cons_succ, List.getElem_cons_zero, List.setIfInBounds_toArray, List.set_cons_zero, List.set_cons_succ]
        refine wpAnyH_take (i := 2) (v := ?_) rfl (by kernel_rfl) (by kernel_rfl) (by kernel_rfl) (fun _ _ _ h => h) (Or.inl ⟨by rfl, ?_⟩) (by assumption) ?_
        rotate_left
        ·(intro w' hS; (try dsimp only at hS); go_simp; try with_reducible rfl)
        try simp only [Act.put, List.getElem_toArray, List.getElem_cons_succ, List.getElem_cons_zero, List.setIfInBounds_toArray, List.set_cons_zero, List.set_cons_succ]
        refine wpAnyH_take (i := 3) (v := ?_) rfl (by kernel_rfl) (by kernel_rfl) (by kernel_rfl) (fun _ _ _ h => h) (Or.inl ⟨by rfl, ?_⟩) (by assumption) ?_
        rotate_left
        ·(intro w' hS; (try dsimp only at hS); go_simp; try with_reducible rfl)
        try simp only [Act.put, List.getElem_toArray, List.getElem_cons_succ, List.getElem_cons_zero, List.setIfInBounds_toArray, List.set_cons_zero, List.set_cons_succ]
        refine wpAnyH_take (i := 4) (v := ?_) rfl (by kernel_rfl) (by kernel_rfl) (by kernel_rfl) (fun _ _ _ h => h) (Or.inl ⟨by rfl, ?_⟩) (by assumption) ?_
        rotate_left
        ·(intro w' hS; (try dsimp only at hS); go_simp; try with_reducible rfl)
        try simp only [Act.put, List.getElem_toArray, List.getElem_cons_succ, List.getElem_cons_zero, List.setIfInBounds_toArray, List.set_cons_zero, List.set_cons_succ]
        refine wpAnyH_take (i := 5) (v := ?_) rfl (by kernel_rfl) (by kernel_rfl) (by kernel_rfl) (fun _ _ _ h => h) (Or.inl ⟨by rfl, ?_⟩) (by assumption) ?_
        rotate_left
        ·(intro w' hS; (try dsimp only at hS); go_simp; try with_reducible rfl)
        try simp only [Act.put, List.getElem_toArray, List.getElem_cons_succ, List.getElem_cons_zero, List.setIfInBounds_toArray, List.set_cons_zero, List.set_cons_succ]
        refine wpAnyH_take (i := 6) (v := ?_) rfl (by kernel_rfl) (by kernel_rfl) (by kernel_rfl) (fun _ _ _ h => h) (Or.inl ⟨by rfl, ?_⟩) (by assumption) ?_
        rotate_left
        ·(intro w' hS; (try dsimp only at hS); go_simp; try with_reducible rfl)
        try simp only [Act.put, List.getElem_toArray, List.getElem_cons_succ, List.getElem_cons_zero, List.setIfInBounds_toArray, List.set_cons_zero, List.set_cons_succ]
        refine wpAnyH_take (i := 7) (v := ?_) rfl (by kernel_rfl) (by kernel_rfl) (by kernel_rfl) (fun _ _ _ h => h) (Or.inl ⟨by rfl, ?_⟩) (by assumption) ?_
        rotate_left
        ·(intro w' hS; (try dsimp only at hS); go_simp; try with_reducible rfl)
        try simp only [Act.put, List.getElem_toArray, List.getElem_cons_succ, List.getElem_cons_zero, List.setIfInBounds_toArray, List.set_cons_zero, List.set_cons_succ]
        refine wpAnyH_ready (rs := [8, 12]) (by kernel_rfl) (by simp) ?_
        refine (AllReadyH.cons rfl (fun K hK => ?_) (AllReadyH.cons rfl (fun K hK => ?_) AllReadyH.nil))
        ·
         go_simp
         refine (HDo.out _).mono ?_
         rintro e wx ⟨rfl, hbx⟩
         have T := T.on hbx
         clear hbx
         dsimp only
         refine hK.out _ _ (HC4.out _ T) (fun hHeld => ?_)
         clear hK K
         try simp only [Act.put, List.getElem_toArray, List.getElem_cons_succ, List.getElem_cons_zero, List.setIfInBounds_toArray, List.set_cons_zero, List.set_cons_succ]
         refine wpAnyH_take (i := 9) (v := ?_) rfl (by kernel_rfl) (by kernel_rfl) (by kernel_rfl) (fun _ _ _ h => h) (Or.inl ⟨by rfl, ?_⟩) (by assumption) ?_
         rotate_left
         ·(intro w' hS; (try dsimp only at hS); go_simp; try with_reducible rfl)
         try simp only [Act.put, List.getElem_toArray, List.getElem_cons_succ, List.getElem_cons_zero, List.setIfInBounds_toArray, List.set_cons_zero, List.set_cons_succ]
         refine wpAnyH_take (i := 10) (v := ?_) rfl (by kernel_rfl) (by kernel_rfl) (by kernel_rfl) (fun _ _ _ h => h) (Or.inl ⟨by rfl, ?_⟩) (by assumption) ?_
         rotate_left
         ·(intro w' hS; (try dsimp only at hS); go_simp; try with_reducible rfl)
         try simp only [Act.put, List.getElem_toArray, List.getElem_cons_succ, List.getElem_cons_zero, List.setIfInBounds_toArray, List.set_cons_zero, List.set_cons_succ]
         refine wpAnyH_take (i := 11) (v := ?_) rfl (by kernel_rfl) (by kernel_rfl) (by kernel_rfl) (fun _ _ _ h => h) (Or.inl ⟨by rfl, ?_⟩) (by assumption) ?_
         rotate_left
         ·(intro w' hS; (try dsimp only at hS); go_simp; try with_reducible rfl)
         try simp only [Act.put, List.getElem_toArray, List.getElem_cons_succ, List.getElem_cons_zero, List.setIfInBounds_toArray, List.set_cons_zero, List.set_cons_succ]
         refine wpAnyH_ready (rs := [12]) (by kernel_rfl) (by simp) ?_
         refine (AllReadyH.cons rfl (fun K hK => ?_) AllReadyH.nil)
         go_simp
         have hp0 : w.heap.size < wx.heap.size := (Array.getElem?_eq_some_iff.1 T.r1.2).1
         have hpD : (Value.slice Aq D.length cq).ownBlock ≠ some wx.heap.size := fun q => by have := (T.own.lt _ q).2; omega
         have hpn : bn ≠ wx.heap.size := by have := (T.non.lt bn rfl).2; omega
         have T := T.on (below_alloc1 wx (.cells #[.int .i64 0, .int .i64 0, .bool false] 43))
         have Z := At3.new 43 wx 0 0 false
         refine hK.out _ _ (HC4.out _ T) (fun hHeld => ?_)
         clear hK K
         try simp only [Act.put, List.getElem_toArray, List.getElem_cons_succ, List.getElem_cons_zero, List.setIfInBounds_toArray, List.set_cons_zero, List.set_cons_succ]
         generalize World.alloc _ (.cells #[.int .i64 0, .int .i64 0, .bool false] 43) = WA at T Z hHeld ⊢
         generalize wx.heap.size = p at Z hp0 hpD hpn ⊢
         have d0 := Z.c0
         have d1 := Z.c1
         have d2 := Z.c2
         have d3 := Z.f0
         have d4 := Z.f1
         have d5 := Z.f2
         have T := T.put Z hp0 hpD hpn e1 e2 e3
         have Z := Z.put (a := e1) (c := e2) (d := e3)
         refine wpAnyH_ready (rs := [13]) (by kernel_rfl) (by simp) ?_
         refine (AllReadyH.cons rfl (fun K hK => ?_) AllReadyH.nil)
         go_simp
         refine hK.out _ _ (HC4.out _ T) (fun hHeld => ?_)
         clear hK K
         try simp only [Act.put, List.getElem_toArray, List.getElem_cons_succ, List.getElem_cons_zero, List.setIfInBounds_toArray, List.set_cons_zero, List.set_cons_succ]
         refine wpAnyH_take (i := 14) (v := ?_) rfl (by kernel_rfl) (by kernel_rfl) (by kernel_rfl) (fun _ _ _ h => h) (Or.inl ⟨by rfl, ?_⟩) (by assumption) ?_
         rotate_left
         ·(intro w' hS; (try dsimp only at hS); go_simp; try with_reducible rfl)
         try simp only [Act.put, List.getElem_toArray, List.getElem_cons_succ, List.getElem_cons_zero, List.setIfInBounds_toArray, List.set_cons_zero, List.set_cons_succ]
         refine wpAnyH_done (by kernel_rfl) ?_ _
         refine NoPanic.normal ?_
         exact R.out _ p ⟨T, Z⟩
        ·
         go_simp
         have hp0 : w.heap.size < WR.heap.size := (Array.getElem?_eq_some_iff.1 T.r1.2).1
         have hpD : (Value.slice Aq D.length cq).ownBlock ≠ some WR.heap.size := fun q => by have := (T.own.lt _ q).2; omega
         have hpn : bn ≠ WR.heap.size := by have := (T.non.lt bn rfl).2; omega
         have T := T.on (below_alloc1 WR (.cells #[.int .i64 0, .int .i64 0, .bool false] 43))
         have Z := At3.new 43 WR 0 0 false
         refine hK.out _ _ (HC4.out _ T) (fun hHeld => ?_)
         clear hK K
         try simp only [Act.put, List.getElem_toArray, List.getElem_cons_succ, List.getElem_cons_zero, List.setIfInBounds_toArray, List.set_cons_zero, List.set_cons_succ]
         generalize World.alloc _ (.cells #[.int .i64 0, .int .i64 0, .bool false] 43) = WA at T Z hHeld ⊢
         generalize WR.heap.size = p at Z hp0 hpD hpn ⊢
         refine wpAnyH_ready (rs := [8]) (by kernel_rfl) (by simp) ?_
         refine (AllReadyH.cons rfl (fun K hK => ?_) AllReadyH.nil)
         go_simp
         refine (HDo.out _).mono ?_
         rintro e wx ⟨rfl, hbx⟩
         have T := T.on hbx
         have Z := Z.on hbx
         clear hbx
         dsimp only
         refine hK.out _ _ (HC4.out _ T) (fun hHeld => ?_)
         clear hK K
         try simp only [Act.put, List.getElem_toArray, List.getElem_cons_succ, List.getElem_cons_zero, List.setIfInBounds_toArray, List.set_cons_zero, List.set_cons_succ]
         refine wpAnyH_take (i := 9) (v := ?_) rfl (by kernel_rfl) (by kernel_rfl) (by kernel_rfl) (fun _ _ _ h => h) (Or.inl ⟨by rfl, ?_⟩) (by assumption) ?_
         rotate_left
         ·(intro w' hS; (try dsimp only at hS); go_simp; try with_reducible rfl)
         try simp only [Act.put, List.getElem_toArray, List.getElem_cons_succ, List.getElem_cons_zero, List.setIfInBounds_toArray, List.set_cons_zero, List.set_cons_succ]
         refine wpAnyH_take (i := 10) (v := ?_) rfl (by kernel_rfl) (by kernel_rfl) (by kernel_rfl) (fun _ _ _ h => h) (Or.inl ⟨by rfl, ?_⟩) (by assumption) ?_
         rotate_left
         ·(intro w' hS; (try dsimp only at hS); go_simp; try with_reducible rfl)
         try simp only [Act.put, List.getElem_toArray, List.getElem_cons_succ, List.getElem_cons_zero, List.setIfInBounds_toArray, List.set_cons_zero, List.set_cons_succ]
         refine wpAnyH_take (i := 11) (v := ?_) rfl (by kernel_rfl) (by kernel_rfl) (by kernel_rfl) (fun _ _ _ h => h) (Or.inl ⟨by rfl, ?_⟩) (by assumption) ?_
         rotate_left
         ·(intro w' hS; (try dsimp only at hS); go_simp; try with_reducible rfl)
         try simp only [Act.put, List.getElem_toArray, List.getElem_cons_succ, List.getElem_cons_zero, List.setIfInBounds_toArray, List.set_cons_zero, List.set_cons_succ]
         have d0 := Z.c0
         have d1 := Z.c1
         have d2 := Z.c2
         have d3 := Z.f0
         have d4 := Z.f1
         have d5 := Z.f2
         have T := T.put Z hp0 hpD hpn e1 e2 e3
         have Z := Z.put (a := e1) (c := e2) (d := e3)
         refine wpAnyH_ready (rs := [13]) (by kernel_rfl) (by simp) ?_
         refine (AllReadyH.cons rfl (fun K hK => ?_) AllReadyH.nil)
         go_simp
         refine hK.out _ _ (HC4.out _ T) (fun hHeld => ?_)
         clear hK K
         try simp only [Act.put, List.getElem_toArray, List.getElem_cons_succ, List.getElem_cons_zero, List.setIfInBounds_toArray, List.set_cons_zero, List.set_cons_succ]
         refine wpAnyH_take (i := 14) (v := ?_) rfl (by kernel_rfl) (by kernel_rfl) (by kernel_rfl) (fun _ _ _ h => h) (Or.inl ⟨by rfl, ?_⟩) (by assumption) ?_
         rotate_left
         ·(intro w' hS; (try dsimp only at hS); go_simp; try with_reducible rfl)
         try simp only [Act.put, List.getElem_toArray, List.getElem_cons_succ, List.getElem_cons_zero, List.setIfInBounds_toArray, List.set_cons_zero, List.set_cons_succ]
         refine wpAnyH_done (by kernel_rfl) ?_ _
         refine NoPanic.normal ?_
         exact R.out _ p ⟨T, Z⟩
       ·intro W p ⟨T, Z⟩
        cases r with
        | false =>
         have HWn := Lib.hid (HSt2.out.2 (fun q => by have := HDr.out.2 rfl; rw [this] at q; cases q.1))
         have HLn := Lib.hid (show D.length ≤ 64 * k + (i + 1) from by have := HL.out; omega)
         have HM := Lib.hid T
         clear T Z HSt2 HDr HL HW HC4 HDo HDm
         go_wp2
         go_roundg (gk - 1)
         case measure => omega
         case rel => exact ⟨i + 1, D, Aq, cq, by omega, rfl, by go_num, HWn, HLn, HM⟩
        | true =>
         obtain ⟨hnb, hde⟩ := HDr.out.1 rfl
         have hok := HDm.out hnb
         have HNb := Lib.hid hnb
         skip
         rw [← hde] at HSt2 hok
         obtain ⟨g1', g2', g3', g4', g5', g6'⟩ := gap_at hok
         obtain ⟨u, hu⟩ : ∃ u, hs[gapA (e1, e2, e3)]? = some u := ⟨_, List.getElem?_eq_getElem (by rw [H81.out]; exact g1')⟩
         obtain ⟨v, hv⟩ : ∃ v, hs[gapB (e1, e2, e3)]? = some v := ⟨_, List.getElem?_eq_getElem (by rw [H81.out]; exact g2')⟩
         have HGi := Lib.hid (gap_iff hu hv)
         obtain ⟨pz, hpz⟩ : ∃ pz, (wrap64 (u - v) == 3 || wrap64 (v - u) == 3) = pz := ⟨_, rfl⟩
         have HPz := Lib.hid hpz
         obtain ⟨g1, hg1⟩ : ∃ g1, (wrap64 (u - v) == 3) = g1 := ⟨_, rfl⟩
         obtain ⟨g2, hg2⟩ : ∃ g2, (wrap64 (v - u) == 3) = g2 := ⟨_, rfl⟩
         rw [hg1, hg2] at hpz
         have HPz1 := Lib.hid hpz
         have w3k : ∀ z : Int, IntKind.i64.wrap z = wrap64 z := fun z => by rw [IntKind.wrap_i64]; unfold wrap64; omega
         have hg1k : (IntKind.i64.wrap (u - v) == 3) = g1 := by rw [w3k]; exact hg1
         have hg2k : (IntKind.i64.wrap (v - u) == 3) = g2 := by rw [w3k]; exact hg2
         obtain ⟨cX, hcX⟩ : ∃ cX, sx e1 e3 = cX := ⟨_, rfl⟩
         obtain ⟨cY, hcY⟩ : ∃ cY, sy e2 e3 = cY := ⟨_, rfl⟩
         simp only at g3' g4' g5' g6'
         rw [hcX, hcY] at g3' g4'
         rw [hcY, hcX] at g5' g6'
         obtain ⟨jA, hjA⟩ : ∃ jA, gapA (e1, e2, e3) = jA := ⟨_, rfl⟩
         obtain ⟨jB, hjB⟩ : ∃ jB, gapB (e1, e2, e3) = jB := ⟨_, rfl⟩
         rw [hjA] at g1' g3' hu
         rw [hjB] at g2' g5' g6' hv
         have HSe := Lib.hid (fun W => show Calls Tryz.prog 43 #[.agg #[.int .i64 e1, .int .i64 e2, .bool e3]] W (Cel cX cY W) from hcX ▸ hcY ▸ sSecond e1 e2 e3 W)
         obtain ⟨j2, hj2⟩ : ∃ j2 : Nat, (j2 : Int) = (cY + 1) * 9 + cX := ⟨((cY + 1) * 9 + cX).toNat, by omega⟩
         have hj81 : j2 < 81 := by omega
         obtain ⟨v2, hv2⟩ : ∃ v2, hs[j2]? = some v2 := ⟨_, List.getElem?_eq_getElem (by rw [H81.out]; exact hj81)⟩
         have HCu := Lib.hid (fun W hb => HHs.out W hb jA u hu)
         have HCv := Lib.hid (fun W hb => HHs.out W hb jB v hv)
         have HC2 := Lib.hid (fun W hb => HHs.out W hb j2 v2 hv2)
         have HV2 := Lib.hid (show e3 = false → v2 = v from fun q => by
          have := g6' q
          have e : j2 = jB := by omega
          rw [e, hv] at hv2
          injection hv2 with hv2
          exact hv2.symm)
         have HX5 := Lib.hid g5'
         have x1' : wrap64 (cY * 9) = cY * 9 := by unfold wrap64; omega
         have x2' : wrap64 (cY * 9 + cX) = (jA : Int) := by rw [g3']; unfold wrap64; omega
         have x3' : wrap64 (cY + 1) = cY + 1 := by unfold wrap64; omega
         have x4' : wrap64 ((cY + 1) * 9) = (cY + 1) * 9 := by unfold wrap64; omega
         have x5' : wrap64 ((cY + 1) * 9 + cX) = (j2 : Int) := by rw [hj2]; unfold wrap64; omega
         have i1 := x1'
         have i2 := x2'
         have i3 := x3'
         have i4 := x4'
         have i5 := x5'
         rw [← w3k] at i1 i2 i3 i4 i5
         have i6 := x1'
         have i7 := x2'
         have i8 := x3'
         have i9 := x4'
         have i10 := x5'
         have HJb := Lib.hid g2'
         have HJe := Lib.hid (show e3 = true → wrap64 ((jA : Int) + 1) = (jB : Int) from fun q => by rw [g5' q]; unfold wrap64; omega)
         have hjAI : (jA : Int) < 81 := by omega
         have hj2I : (j2 : Int) < 81 := by omega
         clear hnb hde hok g1' g2' g3' g4' g5' g6' hu hv hpz hcX hcY hjA hjB hj2 hj81 hv2 x1' x2' x3' x4' x5' w3k HDr HDo HDm HC4
         have l0 := Z.c0
         have l1 := Z.c1
         have l2 := Z.c2
         rw [show D.length = nD from HND.out]
         go_wp2_with fail
         refine (HSe.out _).mono ?_
         rintro e w5 ⟨rfl, hb5⟩
         have T := T.on hb5
         have Z := Z.on hb5
         clear l0 l1 l2 hb5 HSe
         have hba := below_alloc1 w5 (.cells #[.int .i64 cX, .int .i64 cY] 60)
         have K := At2.new w5 cX cY
         have T := T.on hba
         have Z := Z.on hba
         go_upto_region 16 with fail
         clear hba
         generalize w5.alloc (.cells #[.int .i64 cX, .int .i64 cY] 60) = W3 at T Z K ⊢
         have m0 := K.c0
         have m1 := K.c1
         have l0 := Z.c0
         have l1 := Z.c1
         have l2 := Z.c2
         have x0 := HCu.out _ T.r1.1
         have x1 := HCv.out _ T.r1.1
         have x2 := HC2.out _ T.r1.1
         cases e3 with
         | false =>
          have hv2 := HV2.out rfl
          subst hv2
          go_upto_region 20 with fail
          clear i1 i2 i3 i4 i5 i6 i7 i8 i9 i10 m0 m1 l0 l1 l2 x0 x1 x2
          go_cut [103] from 39 to 107 (fun s103 wx => s103 = .bool pz ∧ wx = W3)
          case first =>
           cases g1 with
           | true =>
            have hpz : pz = true := HPz1.out.symm
            subst hpz
            go_wp2_with fail
            go_meet
            case rel => exact ⟨rfl, rfl⟩
           | false =>
            have hpz : g2 = pz := HPz1.out
            subst hpz
            go_wp2_with fail
            go_meet
            case rel => exact ⟨rfl, rfl⟩
          case rest =>
           obtain ⟨rfl, hW⟩ := hcut
           have hW := hW.symm
           subst hW
           clear hg1 hg2 HPz1
           cases pz with
           | false =>
            have HWn := Lib.hid (HSt2.out.2 (fun q => by have := HGi.out.1 q.2; rw [HPz.out] at this; cases this))
            have HLn := Lib.hid (show D.length ≤ 64 * k + (i + 1) from by have := HL.out; omega)
            have HM := Lib.hid T
            clear T Z HSt2 HGi HL HW
            go_wp2
            go_roundg (gk - 1)
            case measure => omega
            case rel => exact ⟨i + 1, D, Aq, cq, by omega, by rw [HND.out], by go_num, HWn, HLn, HM⟩
           | true =>
            have HWn := Lib.hid (HSt2.out.1 HNb.out (HGi.out.2 HPz.out))
            have q0 := Z.c0
            have q1 := Z.c1
            have q2 := Z.c2
            have hnD : nD ≤ 10000 := by have := HL.out; have := HND.out; have := HKm.out; omega
            have hbz := T.r1.1.size
            have hw9 := (T.non.lt bn rfl).2
            clear HSt2 HGi HW
            go_wp2_with (first
             | (at_builtin; refine wpList_append_own _ rfl _ _ 28 rfl (bn + 1) 43 i0 (.agg #[.int .i64 0, .int .i64 0, .bool false]) 3 24 Tryz.underlying28 hi hz0 hz1 hz2 rfl (by decide) _ nD (rowM D) rfl (HND.out ▸ T.own.alloc _) ⟨W3.heap.size, 0, none⟩ 1 1 [.int .i64 e1, .int .i64 e2, .bool false] rfl rfl (World.news_of_block (cs := #[.int .i64 e1, .int .i64 e2, .bool false]) (t := 43) (fr := (0, 0)) (heap_alloc_new W3 _)) (by simp [Value.oneCell']) (by unfold maxLen; omega) (by omega) (by simp; omega) ?_; intro v2' w10 hown10 hgrow10 _))
            obtain ⟨A10, c10, rfl⟩ := own_shape hown10
            have HM := Lib.hid (T.grow (e := (e1, e2, false)) HND.out hown10 hgrow10)
            have HLn2 := Lib.hid (show (D ++ [((e1, e2, false) : Dm)]).length ≤ 64 * k + (i + 1) from by rw [List.length_append]; have := HL.out; simp; omega)
            clear hown10 hgrow10 T Z HL q0 q1 q2
            go_wp2
            go_roundg (gk - 1)
            case measure => omega
            case rel => exact ⟨i + 1, D ++ [(e1, e2, false)], A10, c10, by omega, by rw [List.length_append, HND.out]; rfl, by go_num, HWn, HLn2, HM⟩
         | true =>
          have hJ1 := HJe.out rfl
          have hJ2 : IntKind.i64.wrap ((jA : Int) + 1) = (jB : Int) := by rw [← hJ1, IntKind.wrap_i64]; unfold wrap64; omega
          have hjBI : (jB : Int) < 81 := by have := HJb.out; omega
          go_upto_region 20 with fail
          clear i1 i2 i3 i4 i5 i6 i7 i8 i9 i10 m0 m1 l0 l1 l2 x0 x1 x2
          go_cut [103] from 39 to 107 (fun s103 wx => s103 = .bool pz ∧ wx = W3)
          case first =>
           cases g1 with
           | true =>
            have hpz : pz = true := HPz1.out.symm
            subst hpz
            go_wp2_with fail
            go_meet
            case rel => exact ⟨rfl, rfl⟩
           | false =>
            have hpz : g2 = pz := HPz1.out
            subst hpz
            go_wp2_with fail
            go_meet
            case rel => exact ⟨rfl, rfl⟩
          case rest =>
           obtain ⟨rfl, hW⟩ := hcut
           have hW := hW.symm
           subst hW
           clear hg1 hg2 HPz1
           cases pz with
           | false =>
            have HWn := Lib.hid (HSt2.out.2 (fun q => by have := HGi.out.1 q.2; rw [HPz.out] at this; cases this))
            have HLn := Lib.hid (show D.length ≤ 64 * k + (i + 1) from by have := HL.out; omega)
            have HM := Lib.hid T
            clear T Z HSt2 HGi HL HW
            go_wp2
            go_roundg (gk - 1)
            case measure => omega
            case rel => exact ⟨i + 1, D, Aq, cq, by omega, by rw [HND.out], by go_num, HWn, HLn, HM⟩
           | true =>
            have HWn := Lib.hid (HSt2.out.1 HNb.out (HGi.out.2 HPz.out))
            have q0 := Z.c0
            have q1 := Z.c1
            have q2 := Z.c2
            have hnD : nD ≤ 10000 := by have := HL.out; have := HND.out; have := HKm.out; omega
            have hbz := T.r1.1.size
            have hw9 := (T.non.lt bn rfl).2
            clear HSt2 HGi HW
            go_wp2_with (first
             | (at_builtin; refine wpList_append_own _ rfl _ _ 28 rfl (bn + 1) 43 i0 (.agg #[.int .i64 0, .int .i64 0, .bool false]) 3 24 Tryz.underlying28 hi hz0 hz1 hz2 rfl (by decide) _ nD (rowM D) rfl (HND.out ▸ T.own.alloc _) ⟨W3.heap.size, 0, none⟩ 1 1 [.int .i64 e1, .int .i64 e2, .bool true] rfl rfl (World.news_of_block (cs := #[.int .i64 e1, .int .i64 e2, .bool true]) (t := 43) (fr := (0, 0)) (heap_alloc_new W3 _)) (by simp [Value.oneCell']) (by unfold maxLen; omega) (by omega) (by simp; omega) ?_; intro v2' w10 hown10 hgrow10 _))
            obtain ⟨A10, c10, rfl⟩ := own_shape hown10
            have HM := Lib.hid (T.grow (e := (e1, e2, true)) HND.out hown10 hgrow10)
            have HLn2 := Lib.hid (show (D ++ [((e1, e2, true) : Dm)]).length ≤ 64 * k + (i + 1) from by rw [List.length_append]; have := HL.out; simp; omega)
            clear hown10 hgrow10 T Z HL q0 q1 q2
            go_wp2
            go_roundg (gk - 1)
            case measure => omega
            case rel => exact ⟨i + 1, D ++ [(e1, e2, true)], A10, c10, by omega, by rw [List.length_append, HND.out]; rfl, by go_num, HWn, HLn2, HM⟩
      ·obtain rfl : i = k := by omega
       have HW2 := Lib.hid (HNx.out D i HW.out)
       have HL2 := Lib.hid (show D.length ≤ 64 * (i + 1) from by have := HL.out; omega)
       have hi64 := HKm.out
       clear HW HL hnD
       go_wp2
       go_roundg (65 - (i + 1))
       case measure => omega
       case rel => exact ⟨i + 1, D, Aq, cq, by omega, by omega, rfl, by go_num, HW2, HL2, HM⟩
    ·obtain rfl : k = mc := by omega
     have HC := Lib.hid (HTm.out D HW.out)
     obtain ⟨nD, hnD⟩ : ∃ nD, D.length = nD := ⟨_, rfl⟩
     have hnL : nD ≤ 1000000 := by have := HL.out; omega
     have HSr := Lib.hid (fun W A1 c (hr : RowM W W.heap.size A1 D) => HSo.out W A1 nD c D hnD hnL hr)
     have HSl := Lib.hid (sortM_length D)
     rw [hnD] at HSl
     have HOw := Lib.hid (rowM_own HM.out.own)
     have HR1 := Lib.hid HM.out.r1
     have HNn := Lib.hid HM.out.non
     rw [hnD]
     clear hnD HW HL HM HSo
     go_wp2_with fail
     refine (HSr.out _ _ _ HOw.out).mono ?_
     rintro e w5 ⟨A5, c5, rfl, hle, hown5, hb5⟩
     have HR5 := Lib.hid (HR1.out.on hb5)
     have HN5 := Lib.hid (own_below HNn.out hb5 (Nat.le_refl _))
     have hbz := HR1.out.1.size
     have HO5 := Lib.hid hown5
     have HLe := Lib.hid hle
     obtain ⟨M, hM⟩ : ∃ M, sortM D = M := ⟨_, rfl⟩
     have HM := Lib.hid hM
     rw [hM] at HO5 HLe HSl ⊢
     obtain ⟨m, hm⟩ : ∃ m, M.length = m := ⟨_, rfl⟩
     have HMl := Lib.hid hm
     rw [hm] at HO5 HLe HSl ⊢
     have hm6 : m ≤ 1000000 := by have := HSl.out; omega
     clear hM hm hb5 hown5 hle HR1 HNn HOw HSr HSl
     have c0 := HR5.out.2.c0
     go_wp2_with fail
     refine (HHg.out _ HR5.out.1 _ _ _ M HMl.out hm6 (rowM_own HO5.out)).mono ?_
     rintro e w6 ⟨h3, A3, n3, c3, hr3, hl3, rfl, hown3, hb6⟩
     have S6 := HR5.out.on hb6
     have HR3 := Lib.hid hr3
     have h3l : n3 ≤ 1000000 := by have := hgtR_len hr3; omega
     have HE3 := Lib.hid (HEq.out w6 S6.1 A3 n3 c3 h3 hl3 h3l (rowB_own hown3))
     have HO6 := Lib.hid (own_base (own_below HO5.out hb6 (Nat.le_refl _)) hbz)
     have HN6 := Lib.hid (own_base (own_below HN5.out hb6 (Nat.le_refl _)) (show w.heap.size ≤ w.heap.size + 1 by omega))
     clear hr3 hl3 hown3 hb6 HR5 c0 HO5 HN5
     go_wp2_with fail
     refine HE3.out.mono ?_
     rintro e w7 ⟨rfl, q, rfl⟩
     have HB7 := Lib.hid (drewBelow S6.1 q)
     have HO7 := Lib.hid (own_below HO6.out (drewBelow (Below.refl _ _) q) (Nat.le_refl _))
     have HN7 := Lib.hid (own_below HN6.out (drewBelow (Below.refl _ _) q) (Nat.le_refl _))
     clear S6 HE3 HEq HHg hbz HO6 HN6
     by_cases hq : h3 = hs
     ·have HTy := Lib.hid (HYs.out M h3 HR3.out hq)
      rw [decide_eq_true hq]
      clear hq HYs
      go_wp2
      exact bodyPost_ret (v := .tuple #[.slice A5 m c5, .bool true]) (by simp [results, Tryz.results29, go_sem]) rfl ⟨M, true, A5, m, c5, HTy.out, HMl.out, rfl, HO7.out, HLe.out, HB7.out⟩
     ·have HTn := Lib.hid (tf_no HC.out (by rw [HM.out]; exact HR3.out) hq)
      rw [decide_eq_false hq]
      clear hq HYs
      go_wp2
      exact bodyPost_ret (v := .tuple #[.slice (some ⟨bn, 0, none⟩) 0 0, .bool false]) (by simp [results, Tryz.results29, go_sem]) rfl (HNo.out HTn.out _ _ HB7.out HN7.out)
end Go.Proofs.YtmajllgfmclcoaaGreat.Hgt
