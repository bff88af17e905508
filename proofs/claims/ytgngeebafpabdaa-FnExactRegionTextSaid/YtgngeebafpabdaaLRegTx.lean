/- The law FnExactRegionText returns true: the program's RegionText and the model's write the same texts for every region; the region is left as it was, and the program's answers own their memory. -/
import Derived.Test.YtgngeebafpabdaaRegL2
import Derived.Test.YtgngeebafpabdaaRegTs
import Derived.Test.YtgngeebafpabdaaMark
namespace Go.Proofs.Ytgngeebafpabdaa.Reg
set_option linter.unusedVariables false
open Go.RowKit Go.Proofs.Ytgngeebafpabdaa.Base Go.Proofs.Ytgngeebafpabdaa.Pure Go.Proofs.Ytgngeebafpabdaa.Cell Go.Joins

theorem textR_length (xs : List Int) : (textR xs).length ≤ 8 := by
  unfold textR; split
  · rename_i h; rw [List.length_map]; exact h.1
  · simp
theorem eqT (w : World) (A A' : Option Addr) (n cap cap' : Nat) (ss : List ByteArray) (hn : ss.length = n) (hl : n ≤ 1048576) (h1 : Mark.RowAt w A (ss.map Value.string)) (h2 : Mark.RowAt w A' (ss.map Value.string)) :
    Calls Try.prog 42 #[.slice A n cap, .slice A' n cap'] w (Bol true w) := by
  refine (Mark.eqRows w A A' n cap cap' ss hn hl h1 h2).mono ?_
  rintro e w' ⟨rfl, q, rfl⟩
  exact ⟨rfl, drewN_below (Below.refl _ _) q⟩

set_option maxRecDepth 100000 in
set_option maxHeartbeats 4000000 in
theorem lawRegionText (w : World) (A : Option Addr) (n cap : Nat) (xs : List Int) (hx : xs.length = n) (hn : (n : Int) ≤ 9223372036854775807) (h : RowB w w.heap.size A xs) :
    Calls Try.prog 11 #[.agg #[.slice A n cap]] w (Yes w) := by
  have T0 := Lib.hid (fun T => rb_start (T := T) (.slice A n cap) w)
  have HZ := Lib.hid (fun W => szRegion A n cap 1048576 (by omega) (by omega) hn W)
  by_cases hs : (n : Int) ≤ 1048576
  · have HTo := Lib.hid (fun W (hb : Below w.heap.size w W) => toRegion W A n cap w.heap.size xs hx hs (h.below hb (Nat.le_refl _)) hb.size)
    have HEq := Lib.hid (fun W A A' c c' (h1 : RowB W W.heap.size A xs) (h2 : RowB W W.heap.size A' xs) => eqRegion W A A' n c c' _ _ xs hx hn h1 h2 (Nat.le_refl _) (Nat.le_refl _))
    have HS := Lib.hid (fun W A c (h1 : RowB W W.heap.size A xs) => sRegionText W A n c W.heap.size xs hx hn h1 (Nat.le_refl _))
    have HI := Lib.hid (fun W A c (h1 : RowB W W.heap.size A xs) => iRegionText W A n c W.heap.size xs hx hn h1 (Nat.le_refl _))
    have hz := szR_yes hs
    generalize szR 1048576 n = z at HZ hz
    obtain ⟨z0, z1⟩ := hz
    have z2 : ¬ z < 0 := by omega
    have HL := textR_length xs
    generalize textR xs = L at HS HI HL
    obtain ⟨m, hm⟩ : ∃ m, m = L.length := ⟨_, rfl⟩
    unfold StrPost at HS HI
    rw [← hm] at HS HI HL
    have HE := Lib.hid (fun (W : World) (B B' : Option Addr) (c c' : Nat) (h1 : Mark.RowAt W B (L.map Value.string)) (h2 : Mark.RowAt W B' (L.map Value.string)) => eqT W B B' m c c' L hm.symm (by omega) h1 h2)
    obtain ⟨k1, hk1⟩ : ∃ k1 : Int, k1 = ((1 + n : Nat) : Int) := ⟨_, rfl⟩
    have hk0 : ¬ k1 < 0 := by omega
    have HMx := Lib.hid (fun W lo hi A c (hr : RowIn W lo hi 3 1 (.slice A n c) n (ints xs)) => markReg1 W lo hi n c A xs k1 hk1 (by omega) hr)
    obtain ⟨g1, hg1⟩ : ∃ g1 : Int, g1 = ((1 + m : Nat) : Int) := ⟨_, rfl⟩
    have hg0 : ¬ g1 < 0 := by omega
    have hgg : (g1 != g1) = false := by simp
    have HMg := Lib.hid (fun W lo A c (hr : W.ownsRow lo 9 1 (.slice A m c) m (L.map Value.string)) hlo => Mark.mark1 W lo m c A _ g1 hg1 (by omega) hr hlo)
    have HHg := Lib.hid (fun W A c (hr : Mark.RowAt W A (Mark.marks 1 m)) => Mark.held1 W m c A g1 hg1 (by omega) hr)
    clear hs hx hn h hm hk1 hg1 HL
    go_enter Try.func11, Try.ntmps11
    go_wp2_with fail
    have T1 := T0.out 45
    clear T0
    refine (HZ.out _).mono ?_
    rintro e w1 ⟨rfl, hb1⟩
    have T2 := T1.on hb1
    clear T1 hb1 HZ
    obtain ⟨_, _, c0⟩ := id T2
    go_wp2_with fail
    refine (HTo.out _ T2.1).mono ?_
    rintro e w2 ⟨A1, cap1, rfl, hown, hb2⟩
    have T3 := T2.on hb2
    have HR1 := Lib.hid (rowB_own hown)
    clear T2 hown hb2 c0
    go_wp2_with fail
    refine (HS.out _ _ _ HR1.out).mono ?_
    rintro e w3 ⟨Aw, capw, rfl, hown, hb3⟩
    have hl2 := T3.2.1
    have T4 := T3.on hb3
    have HW := Lib.hid (rowIn_new hown)
    have hw3 := hb3.size
    clear T3 hb3 HS HR1 hown
    obtain ⟨_, _, c0⟩ := id T4
    go_wp2_with fail
    refine (HTo.out _ T4.1).mono ?_
    rintro e w4 ⟨A2, cap2, rfl, hown, hb4⟩
    have T5 := T4.on hb4
    have hw4 := hb4.size
    have S0 := Lib.hid (fun T => ls_start (T := T) T5 (rowIn_new hown) (HW.out.on hb4))
    clear T4 hown hb4 c0 T5 HW
    go_wp2_with fail
    have S1 := S0.out 26
    clear S0
    have hlg : w4.heap.size + 1 = (w4.alloc (.cells #[.slice A2 n cap2] 26)).heap.size := by simp
    refine (HI.out _ _ _ (rowB_own S1.x.1)).mono ?_
    rintro e w5 ⟨Ag, capg, rfl, hown, hb5⟩
    rw [← hlg] at hown
    have HG := Lib.hid (rowIn_new hown)
    have hw5 := hb5.size
    rw [← hlg] at hw5
    have S2 := S1.on hb5
    clear S1 hb5 hown hlg
    generalize hp : w4.heap.size = p at S2 HG hw4 hw5 ⊢
    clear hp
    go_wp2_with fail
    refine (HE.out _ _ _ _ _ (Mark.rowAt_own HG.out.1) (Mark.rowAt_own S2.ans.1)).mono ?_
    rintro e w6 ⟨rfl, hb6⟩
    have S3 := S2.on hb6
    have HG3 := Lib.hid (HG.out.on hb6)
    have hw6 := hb6.size
    clear S2 HG hb6
    go_wp2_with fail
    go_region_held3 (fun w' => Below w.heap.size w w' ∧ w.heap.size + 1 ≤ w'.heap.size ∧ w'.cell? ⟨w.heap.size, 0, none⟩ = some (.slice A n cap) ∧ w'.cell? ⟨p, 0, none⟩ = some (.slice A2 n cap2) ∧ (p < w'.heap.size ∧ RowIn w' w3.heap.size p 3 1 (.slice A2 n cap2) n (ints xs) ∧ RowIn w' w2.heap.size w3.heap.size 9 1 (.slice Aw m capw) m (L.map Value.string)))
      (first | assumption | exact LS.drew (by assumption) | exact LS.on (by assumption) (by assumption))
      (first | (go_at_call 27; refine (HTo.out _ (LS.rb (by assumption)).1).mono ?_; rintro e wx ⟨A3, cap3, rfl, hown, hbx⟩; (have HRx := Lib.hid (rowB_own hown)); clear hown) | (go_at_call 28; refine (HEq.out _ _ _ _ _ (rowB_own (LS.x (by assumption)).1) HRx.out).mono ?_; rintro e wy ⟨rfl, hby⟩))
    all_goals
      have S4 : LS w (.slice A n cap) p (.slice A2 n cap2) w3.heap.size p n (ints xs) w2.heap.size w3.heap.size 9 1 (.slice Aw m capw) m (L.map Value.string) wy := by assumption
      have HG4 := Lib.hid (show RowIn wy (p + 1) w5.heap.size 9 1 (.slice Ag m capg) m (L.map Value.string) from ((RowIn.drew HG3.out).on hbx).on hby)
      have hw7 : w5.heap.size ≤ wy.heap.size := by have h1 := hbx.size; have h2 := hby.size; have h3 : w6.drew.heap.size = w6.heap.size := rfl; omega
      clear S3 HG3 HRx hbx hby HEq hw6
      obtain ⟨_, _, _, c1, _⟩ := id S4
      go_wp2_with fail
      refine (HMx.out _ _ _ _ _ S4.x).mono ?_
      rintro e w7 ⟨rfl, hx7, ha7⟩
      have S5 := S4.marked hx7 ha7 (by omega) (Nat.le_refl _) (Nat.le_refl _)
      have HG5 := Lib.hid (HG4.out.apart ha7 (.inr (by omega)))
      have hw8 := ha7.size
      clear S4 HG4 hx7 ha7 HMx c1
      go_wp2_with fail
      refine (HE.out _ _ _ _ _ (Mark.rowAt_own HG5.out.1) (Mark.rowAt_own S5.ans.1)).mono ?_
      rintro e w8 ⟨rfl, hb8⟩
      have S6 := S5.on hb8
      have HG6 := Lib.hid (HG5.out.on hb8)
      have hw9 := hb8.size
      clear S5 HG5 hb8
      go_wp2_with fail
      refine (HMg.out _ _ _ _ HG6.out.1 (by omega)).mono ?_
      rintro e w9 ⟨rfl, hg9, hb9⟩
      have S7 := S6.onB hb9 (by omega) (by omega) (by omega) (by omega)
      have HG7 := Lib.hid (show RowIn w9 (p + 1) w5.heap.size 9 1 (.slice Ag m capg) m (Mark.marks 1 m) from ⟨hg9, HG6.out.2⟩)
      have hw10 := hb9.size
      clear S6 HG6 hg9 hb9 HMg
      go_wp2_with fail
      refine (HHg.out _ _ _ (Mark.rowAt_own HG7.out.1)).mono ?_
      rintro e w10 ⟨rfl, hb10⟩
      have S7 := S7.on hb10
      have HG7 := Lib.hid (HG7.out.on hb10)
      clear hb10
      obtain ⟨_, _, c0, _⟩ := id S7
      go_wp2_with fail
      refine (HTo.out _ S7.1).mono ?_
      rintro e w11 ⟨A5, cap5, rfl, hown, hb11⟩
      have S8 := S7.on hb11
      have HG8 := Lib.hid (HG7.out.on hb11)
      have HR5 := Lib.hid (rowB_own hown)
      clear S7 HG7 hown hb11 c0
      go_wp2_with fail
      refine (HI.out _ _ _ HR5.out).mono ?_
      rintro e w12 ⟨Ah, caph, rfl, hown, hb12⟩
      have S9 := S8.on hb12
      have HG9 := Lib.hid (HG8.out.on hb12)
      have HH := Lib.hid hown
      clear S8 HG8 hown hb12 HR5
      go_wp2_with fail
      refine (HE.out _ _ _ _ _ (Mark.rowAt_own HH.out) (Mark.rowAt_own S9.ans.1)).mono ?_
      rintro e w13 ⟨rfl, hb13⟩
      have HG10 := Lib.hid (HG9.out.on hb13)
      have hb := (S9.on hb13).1
      clear S9 HG9 hb13 HH
      go_wp2_with fail
      refine (HHg.out _ _ _ (Mark.rowAt_own HG10.out.1)).mono ?_
      rintro e w14 ⟨rfl, hb14⟩
      have hb := hb.trans (hb14.mono hb.size)
      clear hb14
      go_wp2
      go_ret
      exact ⟨rfl, hb⟩
  · rw [szR_no hs] at HZ
    clear hs hx hn h
    go_enter Try.func11, Try.ntmps11
    go_wp2_with fail
    have T1 := T0.out 45
    clear T0
    refine (HZ.out _).mono ?_
    rintro e w1 ⟨rfl, hb1⟩
    have hb := (T1.on hb1).1
    clear T1 hb1 HZ
    go_wp2
    go_ret
    exact ⟨rfl, hb⟩
end Go.Proofs.Ytgngeebafpabdaa.Reg
