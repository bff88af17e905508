/- A region and dominoes in it, drawn out of a code: the region is valid, the dominoes are partial. -/
import Derived.Test.YtpeolcgogidipaaDoorGrd
namespace Go.Proofs.YtpeolcgogidipaaDoor.Grd
set_option linter.unusedVariables false
set_option linter.unusedSimpArgs false
open Go.RowKit Go.Proofs.YtpeolcgogidipaaDoor.Base Go.Proofs.YtpeolcgogidipaaDoor.Pure Go.Proofs.YtpeolcgogidipaaDoor.Cell Go.Proofs.YtpeolcgogidipaaDoor.Cels Go.Proofs.YtpeolcgogidipaaDoor.Dom Go.Proofs.YtpeolcgogidipaaDoor.Dms Go.Proofs.YtpeolcgogidipaaDoor.Til Go.Proofs.YtpeolcgogidipaaDoor.Draw Go.Joins
open Go.Proofs.YtpeolcgogidipaaDoor.Reg hiding Yes add_none RC rc_start

theorem wp_of_rest3 {P : Program} {c : Code} {Q : Exit → Act → World → Prop} {a : Act} {w : World} (F : Nat → Nat → Nat → Act) (Rel : World → Nat → Nat → Nat → Prop)
    (h : ∀ Q : Exit → Act → World → Prop, (∀ W p m c, Rel W p m c → Q .normal (F p m c) W) → c.wp P Q a w) (k : ∀ W p m c, Rel W p m c → Q .normal (F p m c) W) : c.wp P Q a w := h Q k
/-- what is held while the dominoes are drawn: the answer's box, the region's box, the region. -/
def Dp (w : World) (p : Nat) (v0 va : Value) (n : Nat) (xs : List Int) (W : World) : Prop :=
  Below w.heap.size w W ∧ Rg W w.heap.size v0 ∧ Rg W p va ∧ w.heap.size < p ∧ W.ownsRow (w.heap.size + 1) 3 1 va n (ints xs)
theorem Dp.drew {w W : World} {p n : Nat} {v0 va : Value} {xs : List Int} (h : Dp w p v0 va n xs W) : Dp w p v0 va n xs W.drew := ⟨h.1.drew, h.2⟩
theorem rg_put {W : World} {q : Nat} {v : Value} (h : Rg W q v) (u : Value) : Rg (W.setCell ⟨q, 0, none⟩ u) q u := by
  have h' := h
  unfold Rg at h' ⊢
  simp [World.setCell, Array.getElem?_modify, h']
theorem rg_far {W : World} {p q i : Nat} {v u : Value} (h : Rg W q v) (hp : q ≠ p) : Rg (W.setCell ⟨p, i, none⟩ u) q v := (Below.heap_setCell W ⟨p, i, none⟩ u q hp).trans h
theorem rg_f0 {W : World} {q : Nat} {v : Value} (h : Rg W q v) : W.frozen? ⟨q, 0, none⟩ = false := by have h' := h; unfold Rg at h'; simp [World.frozen?, h']

/-- an ending with a valid region and a partial list in it. -/
def DrewP (w : World) (e : Ending) (w' : World) : Prop :=
  ∃ (xs : List Int) (A1 : Option Addr) (n c1 : Nat) (M : List Dm) (go co : Nat), Hid (okR xs) ∧ Hid (xs.length = n) ∧ Hid (∃ k, GP xs k M) ∧ e = .returned (.tuple #[.agg #[.slice A1 n c1], .slice (some ⟨go, 0, none⟩) M.length co]) ∧
    w'.ownsRow w.heap.size 3 1 (.slice A1 n c1) n (ints xs) ∧ w'.ownsRow w.heap.size 34 3 (.slice (some ⟨go, 0, none⟩) M.length co) M.length (rowM M) ∧ Below w.heap.size w w'

set_option maxRecDepth 100000 in
set_option maxHeartbeats 4000000 in
theorem drawPartial (w : World) (A : Option Addr) (len cap : Nat) (h0 : Coded w w.heap.size A len) :
    Calls Tryd.prog 6 #[.slice A len cap] w (DrewP w) := by
  have hb0 := below_alloc1 w (.cells #[.slice none 0 0] 26)
  have HC := Lib.hid (show Coded (w.alloc (.cells #[.slice none 0 0] 26)) (w.alloc (.cells #[.slice none 0 0] 26)).heap.size A len from ⟨h0.1, (h0.2.below hb0).mono hb0.size⟩)
  have HR := Lib.hid (Rg.new w (.slice none 0 0))
  have HZ := Lib.hid (show (w.alloc (.cells #[.slice none 0 0] 26)).heap.size = w.heap.size + 1 by simp)
  have HB := Lib.hid hb0
  have HCd := Lib.hid (h0.2)
  clear h0 hb0
  go_enter Tryd.func6, Tryd.ntmps6
  go_wp2_with fail
  have hR0 := HR.out
  have hB0 := HB.out
  have hZ0 := HZ.out
  have hC0 := HC.out
  generalize w.alloc (.cells #[.slice none 0 0] 26) = W0 at hR0 hB0 hZ0 hC0 ⊢
  refine (new _ A len cap hC0).mono ?_
  rintro e w1 ⟨g, rfl, hc1, hb1⟩
  have hg0 := hc1.1
  rw [hZ0] at hg0
  have hB1 := hB0.trans (hb1.mono hB0.size)
  have hR1 := hR0.on hb1
  have hs1 := hb1.size
  rw [hZ0] at hs1
  have HCur := Lib.hid hc1
  clear hc1 hb1 HC HR HZ HB hR0 hB0 hC0
  go_wp2_with fail
  refine (region w1 _ g A len cap HCur.out).mono ?_
  rintro e w2 ⟨xs, A1, n, c1, hok, hlen, rfl, hown, hg, hn1, hc2⟩
  have hgw1 := HCur.out.lt.2
  have hB2 := hB1.grown hg (by omega) (fun k hk => by have hk2 : g = k := by { injection hk }; omega)
  have hR2 : Rg w2 w.heap.size (.slice none 0 0) := (hg.block _ hR1.lt (by intro e; have e2 : w.heap.size = g := by { injection e }; omega)).trans hR1
  have hs2 := hg.size
  obtain ⟨kk, cc, hv, hkk, hkl⟩ := hown.form (by omega)
  injection hv with hA _ hcc
  subst hA; subst hcc
  clear hg hR1 hB1 HCur
  go_upto_region 3 with fail
  have hb3 := below_alloc1 w2 (.cells #[.slice (some ⟨kk, 0, none⟩) n c1] 26)
  have T3 : Dp w w2.heap.size (.slice none 0 0) (.slice (some ⟨kk, 0, none⟩) n c1) n xs (w2.alloc (.cells #[.slice (some ⟨kk, 0, none⟩) n c1] 26)) :=
    ⟨hB2.trans (hb3.mono hB2.size), hR2.on hb3, Rg.new w2 _, by omega, Reg.own_base (Reg.own_below hown hb3 (Nat.le_refl _)) (by omega)⟩
  have hc3 := hc2.alloc (.cells #[.slice (some ⟨kk, 0, none⟩) n c1] 26)
  have hne : g < w2.heap.size ∧ w.heap.size + 1 ≤ g ∧ g < kk := ⟨hc2.lt.2, hg0, by omega⟩
  clear hc2 hB2 hR2 hown hb3
  generalize w2.alloc (.cells #[.slice (some ⟨kk, 0, none⟩) n c1] 26) = W3 at T3 hc3 ⊢
  generalize w2.heap.size = p at T3 hne ⊢
  have HGr := Lib.hid (fun (W : World) (hc : Cur W W0.heap.size g A len cap) (hr : RowB W W.heap.size (some ⟨kk, 0, none⟩) xs) => greedy W W0.heap.size g A len cap hc (some ⟨kk, 0, none⟩) n c1 xs hlen.out (by have := hok.out.1; have := hlen.out; omega) hok.out hr (fun b off e => by injection e with e; injection e with e1 e2; omega))
  refine' wp_of_rest3 _ (fun W go m co => ∃ M : List Dm, m = M.length ∧ Hid (∃ k, GP xs k M) ∧ Rg W w.heap.size (.slice (some ⟨kk, 0, none⟩) n c1) ∧ W.ownsRow (w.heap.size + 1) 3 1 (.slice (some ⟨kk, 0, none⟩) n c1) n (ints xs) ∧ W.ownsRow (w.heap.size + 1) 34 3 (.slice (some ⟨go, 0, none⟩) m co) m (rowM M) ∧ Below w.heap.size w W) ?_ ?_
  rotate_left
  · intro Q R
    have R := Lib.hid R
    have T3 := T3.drew
    have hc3 : Cur W3.drew W0.heap.size g A len cap := hc3
    refine wp_region_noPanic ?_
    refine wp_region_held_drew (S := (fun w' => w'.cell? ⟨p, 0, none⟩ = some (.slice (some ⟨kk, 0, none⟩) n c1))) (by kernel_rfl) (T3.2.2.1.c0) (fun hHeld => ?_)
    generalize World.drew _ = WR at T3 hc3 hHeld ⊢
    refine wpAnyH_take (i := 0) (v := ?_) rfl (by kernel_rfl) (by kernel_rfl) (by kernel_rfl) (fun _ _ _ h => h) (Or.inl ⟨by rfl, ?_⟩) (by assumption) ?_
    rotate_left
    · (intro w' hS; (try dsimp only at hS); go_simp; try with_reducible rfl)
    try simp only [Act.put, List.getElem_toArray, List.getElem_cons_succ, List.getElem_cons_zero, List.setIfInBounds_toArray, List.set_cons_zero, List.set_cons_succ]
    refine wpAnyH_take (i := 1) (v := ?_) rfl (by kernel_rfl) (by kernel_rfl) (by kernel_rfl) (fun _ _ _ h => h) (Or.inl ⟨by rfl, ?_⟩) (by assumption) ?_
    rotate_left
    · (intro w' hS; (try dsimp only at hS); go_simp; try with_reducible rfl)
    try simp only [Act.put, List.getElem_toArray, List.getElem_cons_succ, List.getElem_cons_zero, List.setIfInBounds_toArray, List.set_cons_zero, List.set_cons_succ]
    refine wpAnyH_take (i := 2) (v := ?_) rfl (by kernel_rfl) (by kernel_rfl) (by kernel_rfl) (fun _ _ _ h => h) (Or.inl ⟨by rfl, ?_⟩) (by assumption) ?_
    rotate_left
    · (intro w' hS; (try dsimp only at hS); go_simp; try with_reducible rfl)
    try simp only [Act.put, List.getElem_toArray, List.getElem_cons_succ, List.getElem_cons_zero, List.setIfInBounds_toArray, List.set_cons_zero, List.set_cons_succ]
    clear hHeld
    refine wpAnyH_ready (rs := [3]) (by kernel_rfl) (by simp) ?_
    refine AllReadyH.cons rfl (fun K hK => ?_) AllReadyH.nil
    · go_simp
      refine (HGr.out _ hc3 (rowB_own T3.2.2.2.2)).mono ?_
      rintro e wx ⟨M, go, co, hG, rfl, hownM, hgr⟩
      generalize hm : M.length = m at hownM ⊢
      have hs := hgr.size
      have hw0 := T3.1.size
      have hpl := T3.2.2.1.lt
      have U1 : Rg wx w.heap.size (.slice none 0 0) := (hgr.block _ T3.2.1.lt (by intro e; have e2 : w.heap.size = g := by { injection e }; omega)).trans T3.2.1
      have U2 : Rg wx p (.slice (some ⟨kk, 0, none⟩) n c1) := (hgr.block _ hpl (by intro e; have e2 : p = g := by { injection e }; omega)).trans T3.2.2.1
      have U3 := T3.2.2.2.2.kept hgr (.inr (by intro e; have e2 : kk = g := by { injection e }; omega))
      have U4 := T3.1.grown hgr hw0 (fun k hk => by have hk2 : g = k := by { injection hk }; omega)
      clear T3 hc3 hgr
      go_wp2_with fail
      refine hK.out _ _ (U2.c0) (fun hHeld => ?_)
      clear hK K
      try simp only [Act.put, List.getElem_toArray, List.getElem_cons_succ, List.getElem_cons_zero, List.setIfInBounds_toArray, List.set_cons_zero, List.set_cons_succ]
      have d0 := U1.c0
      have d1 := rg_f0 U1
      have V1 := rg_put U1 (.slice (some ⟨kk, 0, none⟩) n c1)
      have V2 := rg_far (i := 0) (u := .slice (some ⟨kk, 0, none⟩) n c1) U2 (p := w.heap.size) (by omega)
      have V3 := ownsRow_setCell_below U3 (a := ⟨w.heap.size, 0, none⟩) (by show w.heap.size < w.heap.size + 1; omega) (.slice (some ⟨kk, 0, none⟩) n c1)
      have V4 := U4.setCell (p := ⟨w.heap.size, 0, none⟩) (Nat.le_refl _) (.slice (some ⟨kk, 0, none⟩) n c1)
      have V5 := ownsRow_setCell_below (Reg.own_base (B' := w.heap.size + 1) hownM (by omega)) (a := ⟨w.heap.size, 0, none⟩) (by show w.heap.size < w.heap.size + 1; omega) (.slice (some ⟨kk, 0, none⟩) n c1)
      clear U1 U2 U3 U4 hHeld hownM
      refine wpAnyH_ready (rs := [4]) (by kernel_rfl) (by simp) ?_
      refine AllReadyH.cons rfl (fun K hK => ?_) AllReadyH.nil
      go_simp
      refine hK.out _ _ (V2.c0) (fun hHeld => ?_)
      clear hK K
      try simp only [Act.put, List.getElem_toArray, List.getElem_cons_succ, List.getElem_cons_zero, List.setIfInBounds_toArray, List.set_cons_zero, List.set_cons_succ]
      refine wpAnyH_take (i := 5) (v := ?_) rfl (by kernel_rfl) (by kernel_rfl) (by kernel_rfl) (fun _ _ _ h => h) (Or.inl ⟨by rfl, ?_⟩) (by assumption) ?_
      rotate_left
      · (intro w' hS; (try dsimp only at hS); go_simp; try with_reducible rfl)
      try simp only [Act.put, List.getElem_toArray, List.getElem_cons_succ, List.getElem_cons_zero, List.setIfInBounds_toArray, List.set_cons_zero, List.set_cons_succ]
      refine wpAnyH_done (by kernel_rfl) ?_ _
      refine NoPanic.normal ?_
      exact R.out _ go m co ⟨M, hm.symm, hG, V1, V3, V5, V4⟩
  · intro W4 go m co ⟨M, hm, hG, hRg, hO1, hO2, hb4⟩
    have hres := hRg.c0
    have HO1 := Lib.hid hO1
    have HO2 := Lib.hid hO2
    clear hO1 hO2 T3 hc3 hRg
    go_wp2
    refine bodyPost_ret (v := .tuple #[.agg #[.slice (some ⟨kk, 0, none⟩) n c1], .slice (some ⟨go, 0, none⟩) m co]) (by simp [results, Tryd.results6, go_sem, hres]) rfl ?_
    subst hm
    exact ⟨xs, some ⟨kk, 0, none⟩, n, c1, M, go, co, hok, hlen, hG, rfl, Reg.own_base HO1.out (by omega), Reg.own_base HO2.out (by omega), hb4⟩
end Go.Proofs.YtpeolcgogidipaaDoor.Grd
