/- The law FnExactSameCells returns true: the program's SameCells and the model's say the same of every two regions, and the regions are left as they were. -/
import Derived.Test.YtgngeebafpabdaaRegSs
namespace Go.Proofs.Ytgngeebafpabdaa.Reg
set_option linter.unusedVariables false
set_option linter.unusedSimpArgs false
open Go.RowKit Go.Proofs.Ytgngeebafpabdaa.Base Go.Proofs.Ytgngeebafpabdaa.Pure Go.Proofs.Ytgngeebafpabdaa.Cell Go.Joins

theorem row_on {W W' : World} {A : Option Addr} {xs : List Int} (h : RowB W W.heap.size A xs) (hb : Below W.heap.size W W') : RowB W' W'.heap.size A xs := (h.below hb (Nat.le_refl _)).mono hb.size
/-- two parameters' boxes, and a copy of the first region. -/
def RP (w : World) (v u : Value) (p : Nat) (va : Value) (A : Option Addr) (xs : List Int) (W : World) : Prop :=
  Below w.heap.size w W ∧ w.heap.size + 2 ≤ W.heap.size ∧ W.cell? ⟨w.heap.size, 0, none⟩ = some v ∧ W.cell? ⟨w.heap.size + 1, 0, none⟩ = some u ∧ W.cell? ⟨p, 0, none⟩ = some va ∧ (p < W.heap.size ∧ RowB W W.heap.size A xs)
theorem rp_start {T : TypeId} {w W : World} {v u : Value} (va : Value) {A : Option Addr} {xs : List Int} (h : RR w v u W) (hr : RowB W W.heap.size A xs) : RP w v u W.heap.size va A xs (W.alloc (.cells #[va] T)) := by
  obtain ⟨a, b, c, d⟩ := h.on (below_alloc1 W (.cells #[va] T))
  exact ⟨a, b, c, d, (cell_of_row _ _ 0 _ _ _ (heap_alloc_new W _)).trans rfl, by simp, row_on hr (below_alloc1 W _)⟩
theorem RP.rr {w W : World} {v u : Value} {p : Nat} {va : Value} {A : Option Addr} {xs : List Int} (h : RP w v u p va A xs W) : RR w v u W := ⟨h.1, h.2.1, h.2.2.1, h.2.2.2.1⟩
theorem RP.on {w W W' : World} {v u : Value} {p : Nat} {va : Value} {A : Option Addr} {xs : List Int} (h : RP w v u p va A xs W) (hb : Below W.heap.size W W') : RP w v u p va A xs W' := by
  obtain ⟨a, b, c, d⟩ := h.rr.on hb
  obtain ⟨_, _, _, _, e, f, g⟩ := h
  exact ⟨a, b, c, d, (hb.cell (by show p < _; omega)).trans e, by have := hb.size; omega, row_on g hb⟩
/-- and one of the second. -/
def RZ (w : World) (v u : Value) (p : Nat) (va : Value) (q : Nat) (ua : Value) (A : Option Addr) (xs : List Int) (A' : Option Addr) (ys : List Int) (W : World) : Prop :=
  Below w.heap.size w W ∧ w.heap.size + 2 ≤ W.heap.size ∧ W.cell? ⟨w.heap.size, 0, none⟩ = some v ∧ W.cell? ⟨w.heap.size + 1, 0, none⟩ = some u ∧ W.cell? ⟨p, 0, none⟩ = some va ∧ W.cell? ⟨q, 0, none⟩ = some ua ∧ (p < W.heap.size ∧ q < W.heap.size ∧ RowB W W.heap.size A xs ∧ RowB W W.heap.size A' ys)
theorem rz_start {T : TypeId} {w W : World} {v u : Value} {p : Nat} {va : Value} (ua : Value) {A A' : Option Addr} {xs ys : List Int} (h : RP w v u p va A xs W) (hr : RowB W W.heap.size A' ys) : RZ w v u p va W.heap.size ua A xs A' ys (W.alloc (.cells #[ua] T)) := by
  obtain ⟨a, b, c, d, e, f, g⟩ := h.on (below_alloc1 W (.cells #[ua] T))
  exact ⟨a, b, c, d, e, (cell_of_row _ _ 0 _ _ _ (heap_alloc_new W _)).trans rfl, f, by simp, g, row_on hr (below_alloc1 W _)⟩
theorem RZ.rr {w W : World} {v u : Value} {p q : Nat} {va ua : Value} {A A' : Option Addr} {xs ys : List Int} (h : RZ w v u p va q ua A xs A' ys W) : RR w v u W := ⟨h.1, h.2.1, h.2.2.1, h.2.2.2.1⟩
theorem RZ.on {w W W' : World} {v u : Value} {p q : Nat} {va ua : Value} {A A' : Option Addr} {xs ys : List Int} (h : RZ w v u p va q ua A xs A' ys W) (hb : Below W.heap.size W W') : RZ w v u p va q ua A xs A' ys W' := by
  obtain ⟨a, b, c, d⟩ := h.rr.on hb
  obtain ⟨_, _, _, _, e, f, g1, g2, g3, g4⟩ := h
  exact ⟨a, b, c, d, (hb.cell (by show p < _; omega)).trans e, (hb.cell (by show q < _; omega)).trans f, by have := hb.size; omega, by have := hb.size; omega, row_on g3 hb, row_on g4 hb⟩
theorem RZ.drew {w W : World} {v u : Value} {p q : Nat} {va ua : Value} {A A' : Option Addr} {xs ys : List Int} (h : RZ w v u p va q ua A xs A' ys W) : RZ w v u p va q ua A xs A' ys W.drew := ⟨h.1.drew, h.2⟩
theorem RZ.rowa {w W : World} {v u : Value} {p q : Nat} {va ua : Value} {A A' : Option Addr} {xs ys : List Int} (h : RZ w v u p va q ua A xs A' ys W) : RowB W W.heap.size A xs := h.2.2.2.2.2.2.2.2.1
theorem RZ.rowb {w W : World} {v u : Value} {p q : Nat} {va ua : Value} {A A' : Option Addr} {xs ys : List Int} (h : RZ w v u p va q ua A xs A' ys W) : RowB W W.heap.size A' ys := h.2.2.2.2.2.2.2.2.2

theorem szR_cases {left : Int} (h0 : 0 ≤ left) (h1 : left ≤ 1048576) (n : Nat) : szR left n = -1 ∨ ((n : Int) ≤ 1048576 ∧ 0 ≤ szR left n ∧ szR left n ≤ 1048576) := by
  unfold szR
  split
  · exact .inr ⟨by omega, by omega, by omega⟩
  · exact .inl rfl

set_option maxRecDepth 100000 in
set_option maxHeartbeats 4000000 in
theorem lawSameCells (w : World) (A : Option Addr) (n cap : Nat) (xs : List Int) (hx : xs.length = n) (hn : (n : Int) ≤ 9223372036854775807) (h : RowB w w.heap.size A xs)
    (A' : Option Addr) (n' cap' : Nat) (ys : List Int) (hx' : ys.length = n') (hn' : (n' : Int) ≤ 9223372036854775807) (h' : RowB w w.heap.size A' ys) :
    Calls Try.prog 10 #[.agg #[.slice A n cap], .agg #[.slice A' n' cap']] w (Yes w) := by
  have T0 := Lib.hid (fun T T' => rr_start (T := T) (T' := T') (.slice A n cap) (.slice A' n' cap') w)
  have HZ := Lib.hid (fun W => szRegion A n cap 1048576 (by omega) (by omega) hn W)
  have HZ2 := Lib.hid (fun left h0 h1 W => szRegion A' n' cap' left h0 h1 hn' W)
  have hcz := szR_cases (left := 1048576) (by omega) (by omega) n
  have HTA := Lib.hid (fun (hs : (n : Int) ≤ 1048576) W (hb : Below w.heap.size w W) => toRegion W A n cap w.heap.size xs hx hs (h.below hb (Nat.le_refl _)) hb.size)
  have HTB := Lib.hid (fun (hs : (n' : Int) ≤ 1048576) W (hb : Below w.heap.size w W) => toRegion W A' n' cap' w.heap.size ys hx' hs (h'.below hb (Nat.le_refl _)) hb.size)
  have HEa := Lib.hid (fun W A A' c c' (h1 : RowB W W.heap.size A xs) (h2 : RowB W W.heap.size A' xs) => eqRegion W A A' n c c' _ _ xs hx hn h1 h2 (Nat.le_refl _) (Nat.le_refl _))
  have HEb := Lib.hid (fun W A A' c c' (h1 : RowB W W.heap.size A ys) (h2 : RowB W W.heap.size A' ys) => eqRegion W A A' n' c c' _ _ ys hx' hn' h1 h2 (Nat.le_refl _) (Nat.le_refl _))
  have HS := Lib.hid (fun W A c A' c' (h1 : RowB W W.heap.size A xs) (h2 : RowB W W.heap.size A' ys) => sSameCells W A n c _ xs hx hn h1 (Nat.le_refl _) A' n' c' _ ys hx' hn' h2 (Nat.le_refl _))
  have HI := Lib.hid (fun W A c A' c' (h1 : RowB W W.heap.size A xs) (h2 : RowB W W.heap.size A' ys) => iSameCells W A n c _ xs hx hn h1 (Nat.le_refl _) A' n' c' _ ys hx' hn' h2 (Nat.le_refl _))
  generalize sameR xs ys = b at HS HI
  have hq : (b != b) = false := by simp
  clear hx hn h hx' hn' h'
  generalize szR 1048576 n = z at HZ hcz
  go_enter Try.func10, Try.ntmps10
  go_wp2_with fail
  have T1 := T0.out 45 45
  clear T0
  refine (HZ.out _).mono ?_
  rintro e w1 ⟨rfl, hb1⟩
  have T2 := T1.on hb1
  clear T1 hb1 HZ
  rcases hcz with rfl | ⟨hs, z0, z1⟩
  · have hb := T2.1
    clear T2
    go_wp2
    go_ret
    exact ⟨rfl, hb⟩
  · have HToA := Lib.hid (HTA.out hs)
    have z2 : ¬ z < 0 := by omega
    have hcy := szR_cases z0 z1 n'
    have HZ3 := Lib.hid (HZ2.out z z0 z1)
    clear HTA hs z0 z1 HZ2
    generalize szR z n' = y at HZ3 hcy
    obtain ⟨_, _, c0, c1⟩ := id T2
    go_wp2_with fail
    refine (HZ3.out _).mono ?_
    rintro e w2 ⟨rfl, hb2⟩
    have T3 := T2.on hb2
    clear T2 hb2 HZ3 c0 c1 z2
    rcases hcy with rfl | ⟨hs, y0, y1⟩
    · have hb := T3.1
      clear T3
      go_wp2
      go_ret
      exact ⟨rfl, hb⟩
    have HToB := Lib.hid (HTB.out hs)
    have y2 : ¬ y < 0 := by omega
    clear HTB hs y0 y1
    go_wp2_with fail
    refine wp_region_noPanic ?_
    refine wp_region_held_drew (S := (fun w' => Below w.heap.size w w' ∧ w.heap.size + 2 ≤ w'.heap.size ∧ w'.cell? ⟨w.heap.size, 0, none⟩ = some (.slice A n cap) ∧ w'.cell? ⟨w.heap.size + 1, 0, none⟩ = some (.slice A' n' cap'))) (by kernel_rfl) (RR.drew T3) (fun hHeld => ?_)
    refine wpAnyH_take (i := 0) (v := ?_) rfl (by kernel_rfl) (by kernel_rfl) (by kernel_rfl) (fun _ _ _ h => h) (Or.inl ⟨by rfl, ?_⟩) (by assumption) ?_
    rotate_left
    · (intro w' hS; (try dsimp only at hS); go_simp; try with_reducible rfl)
    try simp only [Act.put, List.getElem_toArray, List.getElem_cons_succ, List.getElem_cons_zero, List.setIfInBounds_toArray, List.set_cons_zero, List.set_cons_succ]
    refine wpAnyH_take (i := 2) (v := ?_) rfl (by kernel_rfl) (by kernel_rfl) (by kernel_rfl) (fun _ _ _ h => h) (Or.inl ⟨by rfl, ?_⟩) (by assumption) ?_
    rotate_left
    · (intro w' hS; (try dsimp only at hS); go_simp; try with_reducible rfl)
    try simp only [Act.put, List.getElem_toArray, List.getElem_cons_succ, List.getElem_cons_zero, List.setIfInBounds_toArray, List.set_cons_zero, List.set_cons_succ]
    refine wpAnyH_ready (rs := [1]) (by kernel_rfl) (by simp) ?_
    refine AllReadyH.cons rfl (fun K hK => ?_) AllReadyH.nil
    go_simp
    refine (HToA.out _ (show RR w (.slice A n cap) (.slice A' n' cap') _ by assumption).1).mono ?_
    rintro e wx ⟨A1, c1, rfl, ho1, hbx⟩
    have HR1 := Lib.hid (rowB_own ho1)
    clear ho1
    go_wp2_with fail
    refine hK.out _ _ (RR.on (by assumption) hbx) (fun hHeld => ?_)
    clear hK K
    try simp only [Act.put, List.getElem_toArray, List.getElem_cons_succ, List.getElem_cons_zero, List.setIfInBounds_toArray, List.set_cons_zero, List.set_cons_succ]
    refine wpAnyH_ready (rs := [3]) (by kernel_rfl) (by simp) ?_
    refine AllReadyH.cons rfl (fun K hK => ?_) AllReadyH.nil
    go_simp
    refine (HToB.out _ (show RR w (.slice A n cap) (.slice A' n' cap') _ by assumption).1).mono ?_
    rintro e wx ⟨A2, c2, rfl, ho2, hbx⟩
    have HR2 := Lib.hid (rowB_own ho2)
    have HR3 := Lib.hid (row_on HR1.out hbx)
    clear ho2
    go_wp2_with fail
    refine hK.out _ _ (RR.on (by assumption) hbx) (fun hHeld => ?_)
    clear hK K
    try simp only [Act.put, List.getElem_toArray, List.getElem_cons_succ, List.getElem_cons_zero, List.setIfInBounds_toArray, List.set_cons_zero, List.set_cons_succ]
    refine wpAnyH_ready (rs := [4]) (by kernel_rfl) (by simp) ?_
    refine AllReadyH.cons rfl (fun K hK => ?_) AllReadyH.nil
    go_simp
    refine (HS.out _ _ _ _ _ HR3.out HR2.out).mono ?_
    rintro e wx ⟨rfl, hbx⟩
    go_wp2_with fail
    refine hK.out _ _ (RR.on (by assumption) hbx) (fun hHeld => ?_)
    clear hK K
    try simp only [Act.put, List.getElem_toArray, List.getElem_cons_succ, List.getElem_cons_zero, List.setIfInBounds_toArray, List.set_cons_zero, List.set_cons_succ]
    refine wpAnyH_take (i := 5) (v := ?_) rfl (by kernel_rfl) (by kernel_rfl) (by kernel_rfl) (fun _ _ _ h => h) (Or.inl ⟨by rfl, ?_⟩) (by assumption) ?_
    rotate_left
    · (intro w' hS; (try dsimp only at hS); go_simp; try with_reducible rfl)
    try simp only [Act.put, List.getElem_toArray, List.getElem_cons_succ, List.getElem_cons_zero, List.setIfInBounds_toArray, List.set_cons_zero, List.set_cons_succ]
    refine wpAnyH_done (by kernel_rfl) ?_ _
    refine NoPanic.normal ?_
    have T4 : RR w (.slice A n cap) (.slice A' n' cap') wx := by assumption
    clear T3 HR1 HR2 HR3 HS
    obtain ⟨_, _, c0, c1⟩ := id T4
    go_wp2_with fail
    refine (HToA.out _ T4.1).mono ?_
    rintro e w3 ⟨A3, c3, rfl, ho3, hb3⟩
    have P0 := Lib.hid (fun T => rp_start (T := T) (.slice A3 n c3) (T4.on hb3) (rowB_own ho3))
    clear c0 c1
    have c1 : ∀ o, (w3.alloc o).cell? ⟨w.heap.size + 1, 0, none⟩ = some (.slice A' n' cap') := fun o => ((T4.on hb3).on (below_alloc1 w3 o)).2.2.2
    clear T4 ho3 hb3
    go_wp2_with fail
    have P1 := P0.out 26
    clear P0 c1
    refine (HToB.out _ P1.1).mono ?_
    rintro e w4 ⟨A4, c4, rfl, ho4, hb4⟩
    have Z0 := Lib.hid (fun T => rz_start (T := T) (.slice A4 n' c4) (P1.on hb4) (rowB_own ho4))
    have c2 : ∀ o, (w4.alloc o).cell? ⟨w3.heap.size, 0, none⟩ = some (.slice A3 n c3) := fun o => ((P1.on hb4).on (below_alloc1 w4 o)).2.2.2.2.1
    clear P1 ho4 hb4
    generalize w3.heap.size = p at Z0 c2 ⊢
    go_wp2_with fail
    have Z1 := Z0.out 26
    clear Z0 c2
    refine (HI.out _ _ _ _ _ Z1.rowa Z1.rowb).mono ?_
    rintro e w5 ⟨rfl, hb5⟩
    have Z2 := Z1.on hb5
    clear Z1 hb5 HI
    generalize w4.heap.size = q at Z2 ⊢
    go_wp2_with fail
    refine wp_region_noPanic ?_
    refine wp_region_held_drew (S := (fun w' => Below w.heap.size w w' ∧ w.heap.size + 2 ≤ w'.heap.size ∧ w'.cell? ⟨w.heap.size, 0, none⟩ = some (.slice A n cap) ∧ w'.cell? ⟨w.heap.size + 1, 0, none⟩ = some (.slice A' n' cap') ∧ w'.cell? ⟨p, 0, none⟩ = some (.slice A3 n c3) ∧ w'.cell? ⟨q, 0, none⟩ = some (.slice A4 n' c4) ∧ (p < w'.heap.size ∧ q < w'.heap.size ∧ RowB w' w'.heap.size A3 xs ∧ RowB w' w'.heap.size A4 ys))) (by kernel_rfl) (RZ.drew Z2) (fun hHeld => ?_)
    refine wpAnyH_take (i := 0) (v := ?_) rfl (by kernel_rfl) (by kernel_rfl) (by kernel_rfl) (fun _ _ _ h => h) (Or.inl ⟨by rfl, ?_⟩) (by assumption) ?_
    rotate_left
    · (intro w' hS; (try dsimp only at hS); go_simp; try with_reducible rfl)
    try simp only [Act.put, List.getElem_toArray, List.getElem_cons_succ, List.getElem_cons_zero, List.setIfInBounds_toArray, List.set_cons_zero, List.set_cons_succ]
    refine wpAnyH_take (i := 1) (v := ?_) rfl (by kernel_rfl) (by kernel_rfl) (by kernel_rfl) (fun _ _ _ h => h) (Or.inl ⟨by rfl, ?_⟩) (by assumption) ?_
    rotate_left
    · (intro w' hS; (try dsimp only at hS); go_simp; try with_reducible rfl)
    try simp only [Act.put, List.getElem_toArray, List.getElem_cons_succ, List.getElem_cons_zero, List.setIfInBounds_toArray, List.set_cons_zero, List.set_cons_succ]
    refine wpAnyH_ready (rs := [2]) (by kernel_rfl) (by simp) ?_
    refine AllReadyH.cons rfl (fun K hK => ?_) AllReadyH.nil
    go_simp
    refine (HToA.out _ (show RZ w (.slice A n cap) (.slice A' n' cap') p (.slice A3 n c3) q (.slice A4 n' c4) A3 xs A4 ys _ by assumption).1).mono ?_
    rintro e wx ⟨A5, c5, rfl, ho5, hbx⟩
    have HR5 := Lib.hid (rowB_own ho5)
    clear ho5
    go_wp2_with fail
    refine hK.out _ _ (RZ.on (by assumption) hbx) (fun hHeld => ?_)
    clear hK K
    try simp only [Act.put, List.getElem_toArray, List.getElem_cons_succ, List.getElem_cons_zero, List.setIfInBounds_toArray, List.set_cons_zero, List.set_cons_succ]
    refine wpAnyH_ready (rs := [3]) (by kernel_rfl) (by simp) ?_
    refine AllReadyH.cons rfl (fun K hK => ?_) AllReadyH.nil
    go_simp
    refine (HEa.out _ _ _ _ _ (RZ.rowa (show RZ w (.slice A n cap) (.slice A' n' cap') p (.slice A3 n c3) q (.slice A4 n' c4) A3 xs A4 ys _ by assumption)) HR5.out).mono ?_
    rintro e wx ⟨rfl, hbx⟩
    go_wp2_with fail
    refine hK.out _ _ (RZ.on (by assumption) hbx) (fun hHeld => ?_)
    clear hK K
    try simp only [Act.put, List.getElem_toArray, List.getElem_cons_succ, List.getElem_cons_zero, List.setIfInBounds_toArray, List.set_cons_zero, List.set_cons_succ]
    refine wpAnyH_take (i := 4) (v := ?_) rfl (by kernel_rfl) (by kernel_rfl) (by kernel_rfl) (fun _ _ _ h => h) (Or.inl ⟨by rfl, ?_⟩) (by assumption) ?_
    rotate_left
    · (intro w' hS; (try dsimp only at hS); go_simp; try with_reducible rfl)
    try simp only [Act.put, List.getElem_toArray, List.getElem_cons_succ, List.getElem_cons_zero, List.setIfInBounds_toArray, List.set_cons_zero, List.set_cons_succ]
    refine wpAnyH_done (by kernel_rfl) ?_ _
    refine NoPanic.normal ?_
    have Z3 : RZ w (.slice A n cap) (.slice A' n' cap') p (.slice A3 n c3) q (.slice A4 n' c4) A3 xs A4 ys wx := by assumption
    clear Z2 HR5 HEa HToA
    go_wp2_with fail
    refine wp_region_noPanic ?_
    refine wp_region_held_drew (S := (fun w' => Below w.heap.size w w' ∧ w.heap.size + 2 ≤ w'.heap.size ∧ w'.cell? ⟨w.heap.size, 0, none⟩ = some (.slice A n cap) ∧ w'.cell? ⟨w.heap.size + 1, 0, none⟩ = some (.slice A' n' cap') ∧ w'.cell? ⟨p, 0, none⟩ = some (.slice A3 n c3) ∧ w'.cell? ⟨q, 0, none⟩ = some (.slice A4 n' c4) ∧ (p < w'.heap.size ∧ q < w'.heap.size ∧ RowB w' w'.heap.size A3 xs ∧ RowB w' w'.heap.size A4 ys))) (by kernel_rfl) (RZ.drew Z3) (fun hHeld => ?_)
    refine wpAnyH_take (i := 0) (v := ?_) rfl (by kernel_rfl) (by kernel_rfl) (by kernel_rfl) (fun _ _ _ h => h) (Or.inl ⟨by rfl, ?_⟩) (by assumption) ?_
    rotate_left
    · (intro w' hS; (try dsimp only at hS); go_simp; try with_reducible rfl)
    try simp only [Act.put, List.getElem_toArray, List.getElem_cons_succ, List.getElem_cons_zero, List.setIfInBounds_toArray, List.set_cons_zero, List.set_cons_succ]
    refine wpAnyH_take (i := 1) (v := ?_) rfl (by kernel_rfl) (by kernel_rfl) (by kernel_rfl) (fun _ _ _ h => h) (Or.inl ⟨by rfl, ?_⟩) (by assumption) ?_
    rotate_left
    · (intro w' hS; (try dsimp only at hS); go_simp; try with_reducible rfl)
    try simp only [Act.put, List.getElem_toArray, List.getElem_cons_succ, List.getElem_cons_zero, List.setIfInBounds_toArray, List.set_cons_zero, List.set_cons_succ]
    refine wpAnyH_ready (rs := [2]) (by kernel_rfl) (by simp) ?_
    refine AllReadyH.cons rfl (fun K hK => ?_) AllReadyH.nil
    go_simp
    refine (HToB.out _ (show RZ w (.slice A n cap) (.slice A' n' cap') p (.slice A3 n c3) q (.slice A4 n' c4) A3 xs A4 ys _ by assumption).1).mono ?_
    rintro e wx ⟨A6, c6, rfl, ho6, hbx⟩
    have HR6 := Lib.hid (rowB_own ho6)
    clear ho6
    go_wp2_with fail
    refine hK.out _ _ (RZ.on (by assumption) hbx) (fun hHeld => ?_)
    clear hK K
    try simp only [Act.put, List.getElem_toArray, List.getElem_cons_succ, List.getElem_cons_zero, List.setIfInBounds_toArray, List.set_cons_zero, List.set_cons_succ]
    refine wpAnyH_ready (rs := [3]) (by kernel_rfl) (by simp) ?_
    refine AllReadyH.cons rfl (fun K hK => ?_) AllReadyH.nil
    go_simp
    refine (HEb.out _ _ _ _ _ (RZ.rowb (show RZ w (.slice A n cap) (.slice A' n' cap') p (.slice A3 n c3) q (.slice A4 n' c4) A3 xs A4 ys _ by assumption)) HR6.out).mono ?_
    rintro e wx ⟨rfl, hbx⟩
    go_wp2_with fail
    refine hK.out _ _ (RZ.on (by assumption) hbx) (fun hHeld => ?_)
    clear hK K
    try simp only [Act.put, List.getElem_toArray, List.getElem_cons_succ, List.getElem_cons_zero, List.setIfInBounds_toArray, List.set_cons_zero, List.set_cons_succ]
    refine wpAnyH_take (i := 4) (v := ?_) rfl (by kernel_rfl) (by kernel_rfl) (by kernel_rfl) (fun _ _ _ h => h) (Or.inl ⟨by rfl, ?_⟩) (by assumption) ?_
    rotate_left
    · (intro w' hS; (try dsimp only at hS); go_simp; try with_reducible rfl)
    try simp only [Act.put, List.getElem_toArray, List.getElem_cons_succ, List.getElem_cons_zero, List.setIfInBounds_toArray, List.set_cons_zero, List.set_cons_succ]
    refine wpAnyH_done (by kernel_rfl) ?_ _
    refine NoPanic.normal ?_
    have hb := (show RZ w (.slice A n cap) (.slice A' n' cap') p (.slice A3 n c3) q (.slice A4 n' c4) A3 xs A4 ys wx by assumption).1
    clear Z3 HR6 HEb HToB
    go_wp2
    go_ret
    exact ⟨rfl, hb⟩
end Go.Proofs.Ytgngeebafpabdaa.Reg
