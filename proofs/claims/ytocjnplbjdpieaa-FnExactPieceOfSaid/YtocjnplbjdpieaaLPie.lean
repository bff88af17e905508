/- The law FnExactPieceOf returns true: the program's PieceOf and the model's list the same cells of every region and every cell; the region is left as it was, and the program's answers own their memory. -/
import Derived.Test.YtocjnplbjdpieaaRegL2
import Derived.Test.YtocjnplbjdpieaaRegLC
import Derived.Test.YtocjnplbjdpieaaPieS
namespace Go.Proofs.Ytocjnplbjdpieaa.Reg
set_option linter.unusedVariables false
set_option linter.unusedSimpArgs false
open Go.RowKit Go.Proofs.Ytocjnplbjdpieaa.Base Go.Proofs.Ytocjnplbjdpieaa.Pure Go.Proofs.Ytocjnplbjdpieaa.Cell Go.Proofs.Ytocjnplbjdpieaa.Cels Go.Proofs.Ytocjnplbjdpieaa.Flo Go.Joins

/-- LS, and the cell's box. -/
def LC (w : World) (v : Value) (x y : Int) (p : Nat) (va : Value) (lx hx n : Nat) (xs : List Value) (lw hw e size : Nat) (vw : Value) (m : Nat) (cs : List Value) (W : World) : Prop :=
  LS w v p va lx hx n xs lw hw e size vw m cs W ∧ w.heap.size + 2 ≤ W.heap.size ∧ W.cell? ⟨w.heap.size + 1, 0, none⟩ = some (.int .i64 x) ∧ W.cell? ⟨w.heap.size + 1, 1, none⟩ = some (.int .i64 y)
section
variable {w : World} {v : Value} {x y : Int} {p : Nat} {va : Value} {lx hx n : Nat} {xs : List Value} {lw hw e size : Nat} {vw : Value} {m : Nat} {cs : List Value} {W W' : World}
theorem LC.rc (h : LC w v x y p va lx hx n xs lw hw e size vw m cs W) : RC w v x y W := ⟨h.1.1, h.2.1, h.1.2.2.1, h.2.2.1, h.2.2.2⟩
theorem LC.onB {B : Nat} (h : LC w v x y p va lx hx n xs lw hw e size vw m cs W) (hb : Below B W W') (h1 : w.heap.size + 2 ≤ B) (h2 : p < B) (h3 : hx ≤ B) (h4 : hw ≤ B) : LC w v x y p va lx hx n xs lw hw e size vw m cs W' := by
  have hz := hb.size
  refine ⟨h.1.onB hb (by omega) h2 h3 h4, by have := h.2.1; omega, ?_, ?_⟩
  · rw [hb.cell (by show w.heap.size + 1 < _; omega)]; exact h.2.2.1
  · rw [hb.cell (by show w.heap.size + 1 < _; omega)]; exact h.2.2.2
theorem LC.on (h : LC w v x y p va lx hx n xs lw hw e size vw m cs W) (hb : Below W.heap.size W W') : LC w v x y p va lx hx n xs lw hw e size vw m cs W' := by
  obtain ⟨_, a, b, c, d⟩ := h.rc.on hb
  exact ⟨h.1.on hb, a, c, d⟩
theorem LC.drew (h : LC w v x y p va lx hx n xs lw hw e size vw m cs W) : LC w v x y p va lx hx n xs lw hw e size vw m cs W.drew := ⟨h.1.drew, h.2⟩
theorem LC.marked {ys : List Value} (h : LC w v x y p va lx hx n xs lw hw e size vw m cs W) (hr : RowIn W' lx hx 3 1 va n ys) (ha : Apart lx hx W W') (h1 : w.heap.size + 2 ≤ lx) (h2 : hx ≤ p) (h3 : hw ≤ lx) : LC w v x y p va lx hx n ys lw hw e size vw m cs W' := by
  have hz := ha.size
  have h0 := h.2.1
  refine ⟨h.1.marked hr ha (by omega) h2 h3, by omega, ?_, ?_⟩
  · rw [ha.cell (by show w.heap.size + 1 < _; omega) (by show w.heap.size + 1 < _ ∨ _; omega)]; exact h.2.2.1
  · rw [ha.cell (by show w.heap.size + 1 < _; omega) (by show w.heap.size + 1 < _ ∨ _; omega)]; exact h.2.2.2
end

set_option maxRecDepth 100000 in
set_option maxHeartbeats 4000000 in
theorem lawPieceOf (w : World) (A : Option Addr) (n cap : Nat) (xs : List Int) (hx : xs.length = n) (hn : (n : Int) ≤ 9223372036854775807) (h : RowB w w.heap.size A xs) (x y : Int) :
    Calls Try.prog 6 #[.agg #[.slice A n cap], .agg #[.int .i64 x, .int .i64 y]] w (Yes w) := by
  have T0 := Lib.hid (fun T T' => rc_start (T := T) (T' := T') (.slice A n cap) x y w)
  have HZ := Lib.hid (fun W => szRegion A n cap 1048576 (by omega) (by omega) hn W)
  by_cases hs : (n : Int) ≤ 1048576
  · have HTo := Lib.hid (fun W (hb : Below w.heap.size w W) => toRegion W A n cap w.heap.size xs hx hs (h.below hb (Nat.le_refl _)) hb.size)
    have HEq := Lib.hid (fun W A A' c c' (h1 : RowB W W.heap.size A xs) (h2 : RowB W W.heap.size A' xs) => eqRegion W A A' n c c' _ _ xs hx hn h1 h2 (Nat.le_refl _) (Nat.le_refl _))
    have HS := Lib.hid (fun W A c (h1 : RowB W W.heap.size A xs) => sPieceOf W A n c W.heap.size xs hx hn h1 (Nat.le_refl _) x y)
    have HI := Lib.hid (fun W A c (h1 : RowB W W.heap.size A xs) => iPieceOf W A n c W.heap.size xs hx hn h1 (Nat.le_refl _) x y)
    have hz := szR_yes hs
    generalize szR 1048576 n = z at HZ hz
    obtain ⟨z0, z1⟩ := hz
    have z2 : ¬ z < 0 := by omega
    have HL := pieceR_length xs x y
    generalize pieceR xs x y = L at HS HI HL
    obtain ⟨m, hm⟩ : ∃ m, m = L.length := ⟨_, rfl⟩
    unfold NbPost at HS HI
    rw [← hm] at HS HI HL
    have HE := Lib.hid (fun (W : World) (B B' : Option Addr) (c c' : Nat) (h1 : RowC W B L) (h2 : RowC W B' L) => eqRows W B B' m c c' L hm.symm (by omega) h1 h2)
    obtain ⟨k1, hk1⟩ : ∃ k1 : Int, k1 = ((1 + n : Nat) : Int) := ⟨_, rfl⟩
    have hk0 : ¬ k1 < 0 := by omega
    have HMx := Lib.hid (fun W lo hi A c (hr : RowIn W lo hi 3 1 (.slice A n c) n (ints xs)) => markReg1 W lo hi n c A xs k1 hk1 (by omega) hr)
    obtain ⟨g1, hg1⟩ : ∃ g1 : Int, g1 = ((1 + 2 * m : Nat) : Int) := ⟨_, rfl⟩
    have hg0 : ¬ g1 < 0 := by omega
    have hgg : (g1 != g1) = false := by simp
    have HMg := Lib.hid (fun W lo A c (hr : W.ownsRow lo 34 2 (.slice A m c) m (rowC L)) hlo => mark1 W lo m c A L g1 hg1 (by omega) hr hlo)
    have HHg := Lib.hid (fun W A c (hr : RowC W A (marksC 1 m)) => held1 W m c A g1 hg1 (by omega) hr)
    clear hs hx hn h hm hk1 hg1 HL
    have HSr := Lib.hid (fun W (h : RC w (.slice A n cap) x y W) => show RC w (.slice A n cap) x y W ∧ W.cell? ⟨w.heap.size, 0, none⟩ = some (.slice A n cap) ∧ W.cell? ⟨w.heap.size + 1, 0, none⟩ = some (.int .i64 x) ∧ W.cell? ⟨w.heap.size + 1, 1, none⟩ = some (.int .i64 y) from ⟨h, h.2.2⟩)
    go_enter Try.func6, Try.ntmps6
    go_wp2_with fail
    have T1 := T0.out 40 45
    clear T0
    refine (HZ.out _).mono ?_
    rintro e w1 ⟨rfl, hb1⟩
    have T2 := T1.on hb1
    clear T1 hb1 HZ
    go_wp2_with fail
    refine wp_region_noPanic ?_
    refine wp_region_held_drew (S := (fun W => RC w (.slice A n cap) x y W ∧ W.cell? ⟨w.heap.size, 0, none⟩ = some (.slice A n cap) ∧ W.cell? ⟨w.heap.size + 1, 0, none⟩ = some (.int .i64 x) ∧ W.cell? ⟨w.heap.size + 1, 1, none⟩ = some (.int .i64 y))) (by kernel_rfl) (HSr.out _ T2.drew) (fun hHeld => ?_)
    refine wpAnyH_take (i := 0) (v := ?_) rfl (by kernel_rfl) (by kernel_rfl) (by kernel_rfl) (fun _ _ _ h => h) (Or.inl ⟨by rfl, ?_⟩) (by assumption) ?_
    rotate_left
    · (intro w' hS; (try dsimp only at hS); go_simp; try with_reducible rfl)
    try simp only [Act.put, List.getElem_toArray, List.getElem_cons_succ, List.getElem_cons_zero, List.setIfInBounds_toArray, List.set_cons_zero, List.set_cons_succ]
    refine wpAnyH_take (i := 2) (v := ?_) rfl (by kernel_rfl) (by kernel_rfl) (by kernel_rfl) (fun _ _ _ h => h) (Or.inl ⟨by rfl, ?_⟩) (by assumption) ?_
    rotate_left
    · (intro w' hS; (try dsimp only at hS); go_simp; try with_reducible rfl)
    try simp only [Act.put, List.getElem_toArray, List.getElem_cons_succ, List.getElem_cons_zero, List.setIfInBounds_toArray, List.set_cons_zero, List.set_cons_succ]
    refine wpAnyH_ready (rs := [1]) (by kernel_rfl) (by simp) ?_
    refine AllReadyH.cons rfl (fun K hK => ?_) AllReadyH.nil
    go_simp
    refine (HTo.out _ hHeld.1.1).mono ?_
    rintro e wx ⟨A1, cap1, rfl, hown, hbx⟩
    have HRx := Lib.hid (rowB_own hown)
    clear hown
    go_wp2_with fail
    refine hK.out _ _ (HSr.out _ (hHeld.1.on hbx)) (fun hHeld => ?_)
    clear hK K
    try simp only [Act.put, List.getElem_toArray, List.getElem_cons_succ, List.getElem_cons_zero, List.setIfInBounds_toArray, List.set_cons_zero, List.set_cons_succ]
    refine wpAnyH_ready (rs := [3]) (by kernel_rfl) (by simp) ?_
    refine AllReadyH.cons rfl (fun K hK => ?_) AllReadyH.nil
    go_simp
    refine (toCell x y _).mono ?_
    rintro e wx ⟨rfl, hbx⟩
    have HRy := Lib.hid (row_on HRx.out hbx)
    go_wp2_with fail
    refine hK.out _ _ (HSr.out _ (hHeld.1.on hbx)) (fun hHeld => ?_)
    clear hK K
    try simp only [Act.put, List.getElem_toArray, List.getElem_cons_succ, List.getElem_cons_zero, List.setIfInBounds_toArray, List.set_cons_zero, List.set_cons_succ]
    refine wpAnyH_ready (rs := [4]) (by kernel_rfl) (by simp) ?_
    refine AllReadyH.cons rfl (fun K hK => ?_) AllReadyH.nil
    go_simp
    refine (HS.out _ _ _ HRy.out).mono ?_
    rintro e wx ⟨Aw, capw, rfl, hown, hbx⟩
    obtain ⟨lw, hw, HW, hlw, hhw⟩ : ∃ lw hw, RowIn wx lw hw 34 2 (.slice Aw m capw) m (rowC L) ∧ w.heap.size + 2 ≤ lw ∧ hw ≤ wx.heap.size := ⟨_, _, rowIn_new hown, hHeld.1.2.1, Nat.le_refl _⟩
    clear hown
    go_wp2_with fail
    refine hK.out _ _ (HSr.out _ (hHeld.1.on hbx)) (fun hHeld => ?_)
    clear hK K
    try simp only [Act.put, List.getElem_toArray, List.getElem_cons_succ, List.getElem_cons_zero, List.setIfInBounds_toArray, List.set_cons_zero, List.set_cons_succ]
    refine wpAnyH_take (i := 5) (v := ?_) rfl (by kernel_rfl) (by kernel_rfl) (by kernel_rfl) (fun _ _ _ h => h) (Or.inl ⟨by rfl, ?_⟩) (by assumption) ?_
    rotate_left
    · (intro w' hS; (try dsimp only at hS); go_simp; try with_reducible rfl)
    try simp only [Act.put, List.getElem_toArray, List.getElem_cons_succ, List.getElem_cons_zero, List.setIfInBounds_toArray, List.set_cons_zero, List.set_cons_succ]
    refine wpAnyH_done (by kernel_rfl) ?_ _
    refine NoPanic.normal ?_
    have T4 := hHeld.1
    clear hHeld T2 HS HRx HRy HSr
    obtain ⟨_, _, c0, _, _⟩ := id T4
    go_wp2_with fail
    refine (HTo.out _ T4.1).mono ?_
    rintro e w4 ⟨A2, cap2, rfl, hown, hb4⟩
    have T5 := T4.on hb4
    have HW4 := HW.on hb4
    have hlx : w.heap.size + 2 ≤ wx.heap.size := T4.2.1
    have hw4 := hb4.size
    have S0 := Lib.hid (fun T => show LC w (.slice A n cap) x y w4.heap.size (.slice A2 n cap2) wx.heap.size w4.heap.size n (ints xs) lw hw 34 2 (.slice Aw m capw) m (rowC L) (w4.alloc (.cells #[.slice A2 n cap2] T)) from by
      have q := T5.on (below_alloc1 w4 (.cells #[.slice A2 n cap2] T))
      exact ⟨ls_start ⟨T5.1, by have := T5.2.1; omega, T5.2.2.1⟩ (rowIn_new hown) HW4, q.2.1, q.2.2.2.1, q.2.2.2.2⟩)
    generalize hlx' : wx.heap.size = lx at S0 hlx hw4 hhw
    clear T4 hown hb4 c0 T5 HW HW4 hlx'
    go_wp2_with fail
    have S1 := S0.out 26
    clear S0
    generalize w4.alloc (.cells #[.slice A2 n cap2] 26) = W5 at S1 ⊢
    generalize w4.heap.size = p at S1 hw4 ⊢
    obtain ⟨hx, hhx, S1⟩ : ∃ hx, hx = p ∧ LC w (.slice A n cap) x y p (.slice A2 n cap2) lx hx n (ints xs) lw hw 34 2 (.slice Aw m capw) m (rowC L) W5 := ⟨p, rfl, S1⟩
    have HSl := Lib.hid (fun hx W (h : LC w (.slice A n cap) x y p (.slice A2 n cap2) lx hx n (ints xs) lw hw 34 2 (.slice Aw m capw) m (rowC L) W) => show LC w (.slice A n cap) x y p (.slice A2 n cap2) lx hx n (ints xs) lw hw 34 2 (.slice Aw m capw) m (rowC L) W ∧ W.cell? ⟨w.heap.size, 0, none⟩ = some (.slice A n cap) ∧ W.cell? ⟨w.heap.size + 1, 0, none⟩ = some (.int .i64 x) ∧ W.cell? ⟨w.heap.size + 1, 1, none⟩ = some (.int .i64 y) ∧ W.cell? ⟨p, 0, none⟩ = some (.slice A2 n cap2) from ⟨h, h.1.2.2.1, h.2.2.1, h.2.2.2, h.1.2.2.2.1⟩)
    have hw4 : lx ≤ hx := by omega
    have hxp : hx ≤ p := by omega
    clear hhx
    refine wp_region_noPanic ?_
    refine wp_region_held_drew (S := (fun W => LC w (.slice A n cap) x y p (.slice A2 n cap2) lx hx n (ints xs) lw hw 34 2 (.slice Aw m capw) m (rowC L) W ∧ W.cell? ⟨w.heap.size, 0, none⟩ = some (.slice A n cap) ∧ W.cell? ⟨w.heap.size + 1, 0, none⟩ = some (.int .i64 x) ∧ W.cell? ⟨w.heap.size + 1, 1, none⟩ = some (.int .i64 y) ∧ W.cell? ⟨p, 0, none⟩ = some (.slice A2 n cap2))) (by kernel_rfl) (HSl.out _ _ S1.drew) (fun hHeld => ?_)
    refine wpAnyH_take (i := 0) (v := ?_) rfl (by kernel_rfl) (by kernel_rfl) (by kernel_rfl) (fun _ _ _ h => h) (Or.inl ⟨by rfl, ?_⟩) (by assumption) ?_
    rotate_left
    · (intro w' hS; (try dsimp only at hS); go_simp; try with_reducible rfl)
    try simp only [Act.put, List.getElem_toArray, List.getElem_cons_succ, List.getElem_cons_zero, List.setIfInBounds_toArray, List.set_cons_zero, List.set_cons_succ]
    refine wpAnyH_take (i := 1) (v := ?_) rfl (by kernel_rfl) (by kernel_rfl) (by kernel_rfl) (fun _ _ _ h => h) (Or.inl ⟨by rfl, ?_⟩) (by assumption) ?_
    rotate_left
    · (intro w' hS; (try dsimp only at hS); go_simp; try with_reducible rfl)
    try simp only [Act.put, List.getElem_toArray, List.getElem_cons_succ, List.getElem_cons_zero, List.setIfInBounds_toArray, List.set_cons_zero, List.set_cons_succ]
    refine wpAnyH_ready (rs := [2]) (by kernel_rfl) (by simp) ?_
    refine AllReadyH.cons rfl (fun K hK => ?_) AllReadyH.nil
    go_simp
    refine (toCell x y _).mono ?_
    rintro e wx ⟨rfl, hbx⟩
    go_wp2_with fail
    refine hK.out _ _ (HSl.out _ _ (hHeld.1.on hbx)) (fun hHeld => ?_)
    clear hK K
    try simp only [Act.put, List.getElem_toArray, List.getElem_cons_succ, List.getElem_cons_zero, List.setIfInBounds_toArray, List.set_cons_zero, List.set_cons_succ]
    refine wpAnyH_ready (rs := [3]) (by kernel_rfl) (by simp) ?_
    refine AllReadyH.cons rfl (fun K hK => ?_) AllReadyH.nil
    go_simp
    refine (HI.out _ _ _ (rowB_own hHeld.1.1.x.1)).mono ?_
    rintro e wx ⟨Ag, capg, rfl, hown, hbx⟩
    obtain ⟨hg, HG, hgl, hgh⟩ : ∃ hg, RowIn wx (p + 1) hg 34 2 (.slice Ag m capg) m (rowC L) ∧ p + 1 ≤ hg ∧ hg ≤ wx.heap.size := ⟨_, rowIn_new (own_base hown hHeld.1.1.2.2.2.2.1), by have h1 := hHeld.1.1.2.2.2.2.1; have h2 := hbx.size; omega, Nat.le_refl _⟩
    clear hown
    go_wp2_with fail
    refine hK.out _ _ (HSl.out _ _ (hHeld.1.on hbx)) (fun hHeld => ?_)
    clear hK K
    try simp only [Act.put, List.getElem_toArray, List.getElem_cons_succ, List.getElem_cons_zero, List.setIfInBounds_toArray, List.set_cons_zero, List.set_cons_succ]
    refine wpAnyH_take (i := 4) (v := ?_) rfl (by kernel_rfl) (by kernel_rfl) (by kernel_rfl) (fun _ _ _ h => h) (Or.inl ⟨by rfl, ?_⟩) (by assumption) ?_
    rotate_left
    · (intro w' hS; (try dsimp only at hS); go_simp; try with_reducible rfl)
    try simp only [Act.put, List.getElem_toArray, List.getElem_cons_succ, List.getElem_cons_zero, List.setIfInBounds_toArray, List.set_cons_zero, List.set_cons_succ]
    refine wpAnyH_done (by kernel_rfl) ?_ _
    refine NoPanic.normal ?_
    have S2 := hHeld.1
    clear hHeld S1 HSl
    go_wp2_with fail
    refine (HE.out _ _ _ _ _ (rowC_own HG.1) (rowC_own S2.1.ans.1)).mono ?_
    rintro e w6 ⟨rfl, hb6⟩
    have S3 := S2.on hb6
    have HG3 := HG.on hb6
    have hgw : hg ≤ w6.heap.size := Nat.le_trans hgh hb6.size
    clear S2 HG hb6 hgh
    have HSg := Lib.hid (fun hx xs W (h : LC w (.slice A n cap) x y p (.slice A2 n cap2) lx hx n xs lw hw 34 2 (.slice Aw m capw) m (rowC L) W ∧ RowIn W (p + 1) hg 34 2 (.slice Ag m capg) m (rowC L) ∧ hg ≤ W.heap.size) => show (LC w (.slice A n cap) x y p (.slice A2 n cap2) lx hx n xs lw hw 34 2 (.slice Aw m capw) m (rowC L) W ∧ RowIn W (p + 1) hg 34 2 (.slice Ag m capg) m (rowC L) ∧ hg ≤ W.heap.size) ∧ W.cell? ⟨w.heap.size, 0, none⟩ = some (.slice A n cap) ∧ W.cell? ⟨p, 0, none⟩ = some (.slice A2 n cap2) from ⟨h, h.1.1.2.2.1, h.1.1.2.2.2.1⟩)
    go_wp2_with fail
    refine wp_region_noPanic ?_
    refine wp_region_held_drew (S := (fun W => (LC w (.slice A n cap) x y p (.slice A2 n cap2) lx hx n (ints xs) lw hw 34 2 (.slice Aw m capw) m (rowC L) W ∧ RowIn W (p + 1) hg 34 2 (.slice Ag m capg) m (rowC L) ∧ hg ≤ W.heap.size) ∧ W.cell? ⟨w.heap.size, 0, none⟩ = some (.slice A n cap) ∧ W.cell? ⟨p, 0, none⟩ = some (.slice A2 n cap2))) (by kernel_rfl) (HSg.out _ _ _ ⟨S3.drew, RowIn.drew HG3, hgw⟩) (fun hHeld => ?_)
    refine wpAnyH_take (i := 0) (v := ?_) rfl (by kernel_rfl) (by kernel_rfl) (by kernel_rfl) (fun _ _ _ h => h) (Or.inl ⟨by rfl, ?_⟩) (by assumption) ?_
    rotate_left
    · (intro w' hS; (try dsimp only at hS); go_simp; try with_reducible rfl)
    try simp only [Act.put, List.getElem_toArray, List.getElem_cons_succ, List.getElem_cons_zero, List.setIfInBounds_toArray, List.set_cons_zero, List.set_cons_succ]
    refine wpAnyH_take (i := 1) (v := ?_) rfl (by kernel_rfl) (by kernel_rfl) (by kernel_rfl) (fun _ _ _ h => h) (Or.inl ⟨by rfl, ?_⟩) (by assumption) ?_
    rotate_left
    · (intro w' hS; (try dsimp only at hS); go_simp; try with_reducible rfl)
    try simp only [Act.put, List.getElem_toArray, List.getElem_cons_succ, List.getElem_cons_zero, List.setIfInBounds_toArray, List.set_cons_zero, List.set_cons_succ]
    refine wpAnyH_ready (rs := [2]) (by kernel_rfl) (by simp) ?_
    refine AllReadyH.cons rfl (fun K hK => ?_) AllReadyH.nil
    go_simp
    refine (HTo.out _ hHeld.1.1.1.1).mono ?_
    rintro e wx ⟨A3, cap3, rfl, hown, hbx⟩
    have HRx := Lib.hid (rowB_own hown)
    clear hown
    go_wp2_with fail
    refine hK.out _ _ (HSg.out _ _ _ ⟨hHeld.1.1.on hbx, hHeld.1.2.1.on hbx, Nat.le_trans hHeld.1.2.2 hbx.size⟩) (fun hHeld => ?_)
    clear hK K
    try simp only [Act.put, List.getElem_toArray, List.getElem_cons_succ, List.getElem_cons_zero, List.setIfInBounds_toArray, List.set_cons_zero, List.set_cons_succ]
    refine wpAnyH_ready (rs := [3]) (by kernel_rfl) (by simp) ?_
    refine AllReadyH.cons rfl (fun K hK => ?_) AllReadyH.nil
    go_simp
    refine (HEq.out _ _ _ _ _ (rowB_own hHeld.1.1.1.x.1) HRx.out).mono ?_
    rintro e wx ⟨rfl, hbx⟩
    go_wp2_with fail
    refine hK.out _ _ (HSg.out _ _ _ ⟨hHeld.1.1.on hbx, hHeld.1.2.1.on hbx, Nat.le_trans hHeld.1.2.2 hbx.size⟩) (fun hHeld => ?_)
    clear hK K
    try simp only [Act.put, List.getElem_toArray, List.getElem_cons_succ, List.getElem_cons_zero, List.setIfInBounds_toArray, List.set_cons_zero, List.set_cons_succ]
    refine wpAnyH_take (i := 4) (v := ?_) rfl (by kernel_rfl) (by kernel_rfl) (by kernel_rfl) (fun _ _ _ h => h) (Or.inl ⟨by rfl, ?_⟩) (by assumption) ?_
    rotate_left
    · (intro w' hS; (try dsimp only at hS); go_simp; try with_reducible rfl)
    try simp only [Act.put, List.getElem_toArray, List.getElem_cons_succ, List.getElem_cons_zero, List.setIfInBounds_toArray, List.set_cons_zero, List.set_cons_succ]
    refine wpAnyH_done (by kernel_rfl) ?_ _
    refine NoPanic.normal ?_
    obtain ⟨S4, HG4, hgw4⟩ := hHeld.1
    clear hHeld S3 HG3 HSg HRx HEq hgw
    obtain ⟨_, _, _, c1, _⟩ := id S4.1
    go_wp2_with fail
    refine (HMx.out _ _ _ _ _ S4.1.x).mono ?_
    rintro e w7 ⟨rfl, hx7, ha7⟩
    have S5 := S4.marked hx7 ha7 hlx hxp hhw
    have HG5 := HG4.apart ha7 (.inr (by omega))
    have hgw7 : hg ≤ w7.heap.size := Nat.le_trans hgw4 ha7.size
    clear S4 HG4 hx7 ha7 HMx c1 hgw4
    go_wp2_with fail
    refine (HE.out _ _ _ _ _ (rowC_own HG5.1) (rowC_own S5.1.ans.1)).mono ?_
    rintro e w8 ⟨rfl, hb8⟩
    have S6 := S5.on hb8
    have HG6 := HG5.on hb8
    have hgw8 : hg ≤ w8.heap.size := Nat.le_trans hgw7 hb8.size
    clear S5 HG5 hb8 hgw7
    go_wp2_with fail
    refine (HMg.out _ _ _ _ HG6.1 (by omega)).mono ?_
    rintro e w9 ⟨rfl, hg9, hb9⟩
    have S7 := S6.onB hb9 (by omega) (by omega) (by omega) (by omega)
    have HG7 : RowIn w9 (p + 1) hg 34 2 (.slice Ag m capg) m (rowC (marksC 1 m)) := ⟨hg9, HG6.2⟩
    clear S6 HG6 hg9 hb9 HMg hgw8
    go_wp2_with fail
    refine (HHg.out _ _ _ (rowC_own HG7.1)).mono ?_
    rintro e w10 ⟨rfl, rfl⟩
    have HSe := Lib.hid (fun W (h : RC w (.slice A n cap) x y W ∧ RowIn W lw hw 34 2 (.slice Aw m capw) m (rowC L) ∧ RowIn W (p + 1) hg 34 2 (.slice Ag m capg) m (rowC (marksC 1 m))) => show (RC w (.slice A n cap) x y W ∧ RowIn W lw hw 34 2 (.slice Aw m capw) m (rowC L) ∧ RowIn W (p + 1) hg 34 2 (.slice Ag m capg) m (rowC (marksC 1 m))) ∧ W.cell? ⟨w.heap.size, 0, none⟩ = some (.slice A n cap) ∧ W.cell? ⟨w.heap.size + 1, 0, none⟩ = some (.int .i64 x) ∧ W.cell? ⟨w.heap.size + 1, 1, none⟩ = some (.int .i64 y) from ⟨h, h.1.2.2⟩)
    go_wp2_with fail
    refine wp_region_noPanic ?_
    refine wp_region_held_drew (S := (fun W => (RC w (.slice A n cap) x y W ∧ RowIn W lw hw 34 2 (.slice Aw m capw) m (rowC L) ∧ RowIn W (p + 1) hg 34 2 (.slice Ag m capg) m (rowC (marksC 1 m))) ∧ W.cell? ⟨w.heap.size, 0, none⟩ = some (.slice A n cap) ∧ W.cell? ⟨w.heap.size + 1, 0, none⟩ = some (.int .i64 x) ∧ W.cell? ⟨w.heap.size + 1, 1, none⟩ = some (.int .i64 y))) (by kernel_rfl) (HSe.out _ ⟨S7.rc.drew, RowIn.drew S7.1.ans, RowIn.drew HG7⟩) (fun hHeld => ?_)
    refine wpAnyH_take (i := 0) (v := ?_) rfl (by kernel_rfl) (by kernel_rfl) (by kernel_rfl) (fun _ _ _ h => h) (Or.inl ⟨by rfl, ?_⟩) (by assumption) ?_
    rotate_left
    · (intro w' hS; (try dsimp only at hS); go_simp; try with_reducible rfl)
    try simp only [Act.put, List.getElem_toArray, List.getElem_cons_succ, List.getElem_cons_zero, List.setIfInBounds_toArray, List.set_cons_zero, List.set_cons_succ]
    refine wpAnyH_take (i := 2) (v := ?_) rfl (by kernel_rfl) (by kernel_rfl) (by kernel_rfl) (fun _ _ _ h => h) (Or.inl ⟨by rfl, ?_⟩) (by assumption) ?_
    rotate_left
    · (intro w' hS; (try dsimp only at hS); go_simp; try with_reducible rfl)
    try simp only [Act.put, List.getElem_toArray, List.getElem_cons_succ, List.getElem_cons_zero, List.setIfInBounds_toArray, List.set_cons_zero, List.set_cons_succ]
    refine wpAnyH_ready (rs := [1]) (by kernel_rfl) (by simp) ?_
    refine AllReadyH.cons rfl (fun K hK => ?_) AllReadyH.nil
    go_simp
    refine (HTo.out _ hHeld.1.1.1).mono ?_
    rintro e wx ⟨A5, cap5, rfl, hown, hbx⟩
    have HRx := Lib.hid (rowB_own hown)
    clear hown
    go_wp2_with fail
    refine hK.out _ _ (HSe.out _ ⟨hHeld.1.1.on hbx, hHeld.1.2.1.on hbx, hHeld.1.2.2.on hbx⟩) (fun hHeld => ?_)
    clear hK K
    try simp only [Act.put, List.getElem_toArray, List.getElem_cons_succ, List.getElem_cons_zero, List.setIfInBounds_toArray, List.set_cons_zero, List.set_cons_succ]
    refine wpAnyH_ready (rs := [3]) (by kernel_rfl) (by simp) ?_
    refine AllReadyH.cons rfl (fun K hK => ?_) AllReadyH.nil
    go_simp
    refine (toCell x y _).mono ?_
    rintro e wx ⟨rfl, hbx⟩
    have HRy := Lib.hid (row_on HRx.out hbx)
    go_wp2_with fail
    refine hK.out _ _ (HSe.out _ ⟨hHeld.1.1.on hbx, hHeld.1.2.1.on hbx, hHeld.1.2.2.on hbx⟩) (fun hHeld => ?_)
    clear hK K
    try simp only [Act.put, List.getElem_toArray, List.getElem_cons_succ, List.getElem_cons_zero, List.setIfInBounds_toArray, List.set_cons_zero, List.set_cons_succ]
    refine wpAnyH_ready (rs := [4]) (by kernel_rfl) (by simp) ?_
    refine AllReadyH.cons rfl (fun K hK => ?_) AllReadyH.nil
    go_simp
    refine (HI.out _ _ _ HRy.out).mono ?_
    rintro e wx ⟨Ah, caph, rfl, hown, hbx⟩
    have HH := Lib.hid (rowC_own hown)
    clear hown
    go_wp2_with fail
    refine hK.out _ _ (HSe.out _ ⟨hHeld.1.1.on hbx, hHeld.1.2.1.on hbx, hHeld.1.2.2.on hbx⟩) (fun hHeld => ?_)
    clear hK K
    try simp only [Act.put, List.getElem_toArray, List.getElem_cons_succ, List.getElem_cons_zero, List.setIfInBounds_toArray, List.set_cons_zero, List.set_cons_succ]
    refine wpAnyH_take (i := 5) (v := ?_) rfl (by kernel_rfl) (by kernel_rfl) (by kernel_rfl) (fun _ _ _ h => h) (Or.inl ⟨by rfl, ?_⟩) (by assumption) ?_
    rotate_left
    · (intro w' hS; (try dsimp only at hS); go_simp; try with_reducible rfl)
    try simp only [Act.put, List.getElem_toArray, List.getElem_cons_succ, List.getElem_cons_zero, List.setIfInBounds_toArray, List.set_cons_zero, List.set_cons_succ]
    refine wpAnyH_done (by kernel_rfl) ?_ _
    refine NoPanic.normal ?_
    obtain ⟨T11, HW11, HG11⟩ := hHeld.1
    clear hHeld S7 HG7 HSe HRx HRy
    go_wp2_with fail
    refine (HE.out _ _ _ _ _ HH.out (rowC_own HW11.1)).mono ?_
    rintro e w13 ⟨rfl, hb13⟩
    have HG13 := HG11.on hb13
    have hb := (T11.on hb13).1
    clear T11 HW11 HG11 hb13 HH
    go_wp2_with fail
    refine (HHg.out _ _ _ (rowC_own HG13.1)).mono ?_
    rintro e w14 ⟨rfl, rfl⟩
    go_wp2
    go_ret
    exact ⟨rfl, hb⟩
  · rw [szR_no hs] at HZ
    clear hs hx hn h
    go_enter Try.func6, Try.ntmps6
    go_wp2_with fail
    have T1 := T0.out 40 45
    clear T0
    refine (HZ.out _).mono ?_
    rintro e w1 ⟨rfl, hb1⟩
    have hb := (T1.on hb1).1
    clear T1 hb1 HZ
    go_wp2
    go_ret
    exact ⟨rfl, hb⟩
end Go.Proofs.Ytocjnplbjdpieaa.Reg
