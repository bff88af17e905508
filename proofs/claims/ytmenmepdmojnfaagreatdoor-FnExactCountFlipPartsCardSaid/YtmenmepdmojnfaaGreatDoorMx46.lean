/- LPrt, EWp in one text. -/
import Derived.Test.YtmenmepdmojnfaaGreatDoorMx06
import Derived.Test.YtmenmepdmojnfaaGreatDoorMx45
import Derived.Test.YtmenmepdmojnfaaGreatDoorMx10

namespace Go.Proofs.YtmenmepdmojnfaaGreatDoor.Wg
set_option linter.unusedVariables false
set_option linter.unusedSimpArgs false
open Go.RowKit Go.Proofs.YtmenmepdmojnfaaGreatDoor.Dom Go.Proofs.YtmenmepdmojnfaaGreatDoor.Sets Go.Joins
open Go.Proofs.YtmenmepdmojnfaaGreatDoor.Reg hiding Yes add_none RC rc_start
open Go.Proofs.YtmenmepdmojnfaaGreatDoor.Lst (listR)

set_option maxRecDepth 100000 in
set_option maxHeartbeats 2000000 in
theorem lawCountFlipParts (iCountFlipParts : ∀ (W : World) (A : Option Addr) (n c B : Nat) (xs : List Int), xs.length = n → (n : Int) ≤ 9223372036854775807 → RowB W B A xs → B ≤ W.heap.size → Tab W → Calls Tryz.prog 12 #[.agg #[.slice A n c]] W (PrtP (listR xs) W))
  (w : World) (A : Option Addr) (n cap : Nat) (xs : List Int) (hx : xs.length = n) (hn : (n : Int) ≤ 9223372036854775807) (h : RowB w w.heap.size A xs) (hT : Tab w) :
  Calls Tryz.prog 7 #[.agg #[.slice A n cap]] w (Dom.Yes w) := by
 have T0 := Lib.hid (fun T => rb_start (T := T) (.slice A n cap) w)
 have HZ := Lib.hid (fun W => szRegion A n cap 1048576 (by omega) (by omega) hn W)
 by_cases hs : (n : Int) ≤ 1048576
 ·have HTo := Lib.hid (fun W (hb : Below w.heap.size w W) => toRegion W A n cap w.heap.size xs hx hs (h.below hb (Nat.le_refl _)) hb.size)
  have HEq := Lib.hid (fun W A A' c c' (h1 : RowB W W.heap.size A xs) (h2 : RowB W W.heap.size A' xs) => eqRegion W A A' n c c' _ _ xs hx hn h1 h2 (Nat.le_refl _) (Nat.le_refl _))
  have HS := Lib.hid (fun W A c (h1 : RowB W W.heap.size A xs) => sCountFlipParts W A n c W.heap.size xs hx hn h1 (Nat.le_refl _))
  have HI := Lib.hid (fun W (hb : Below w.heap.size w W) A c (h1 : RowB W W.heap.size A xs) => iCountFlipParts W A n c W.heap.size xs hx hn h1 (Nat.le_refl _) (hT.on hb (Nat.le_refl _)))
  have hz := szR_yes hs
  generalize szR 1048576 n = z at HZ hz
  obtain ⟨z0, z1⟩ := hz
  have z2 : ¬ z < 0 := by omega
  unfold PrtP at HS HI
  generalize listR xs = TT at HS HI
  clear hs hx hn h hT
  go_enter Tryz.func7, Tryz.ntmps7
  go_wp2_with fail
  have T1 := T0.out 42
  clear T0
  refine (HZ.out _).mono ?_
  rintro e w1 ⟨rfl, hb1⟩
  have T2 := T1.on hb1
  clear T1 hb1 HZ
  obtain ⟨_, _, c0⟩ := id T2
  go_wp2_with fail
  refine (HTo.out _ T2.1).mono ?_
  rintro e w2 ⟨A1, cap1, rfl, hown, hb2⟩
  have T3 := T2.on hb2
  have HR1 := Lib.hid (rowB_own hown)
  clear T2 hown hb2 c0
  go_wp2_with fail
  refine (HS.out _ _ _ HR1.out).mono ?_
  rintro e w3 ⟨b, rfl, hp1, hb3⟩
  have HP1 := Lib.hid hp1
  clear hp1
  have T4 := T3.on hb3
  clear T3 hb3 HS HR1
  obtain ⟨_, _, c0⟩ := id T4
  go_wp2_with fail
  refine (HTo.out _ T4.1).mono ?_
  rintro e w4 ⟨A2, cap2, rfl, hown, hb4⟩
  have T5 := T4.on hb4
  have HO := Lib.hid (own_base hown T4.2.1)
  clear T4 hown hb4 c0
  go_wp2_with fail
  refine (HI.out _ (T5.1.alloc T5.1.size _) _ _ ((rowB_own HO.out).below (below_alloc1 _ _) (Nat.le_refl _) |>.mono (by simp))).mono ?_
  rintro e w5 ⟨b', rfl, hp2, hb5⟩
  obtain rfl := isP_uniq hp2 HP1.out
  have hq : ((b' : Int) != (b' : Int)) = false := by simp
  clear hp2 HP1
  have T6 := rx_start T5 (Nat.le_refl _) HO.out hb5
  clear T5 HO hb5 HI
  generalize w4.heap.size = p at T6 ⊢
  obtain ⟨_, _, c0, c1, _⟩ := id T6
  go_wp2_with fail
  clear c0 c1
  go_region_held3 (fun w' => Below w.heap.size w w' ∧ w.heap.size + 1 ≤ w'.heap.size ∧ w'.cell? ⟨w.heap.size, 0, none⟩ = some (.slice A n cap) ∧ w'.cell? ⟨p, 0, none⟩ = some (.slice A2 n cap2) ∧ (w.heap.size ≤ p ∧ p < w'.heap.size ∧ w'.ownsRow (w.heap.size + 1) 3 1 (.slice A2 n cap2) n (ints xs)))
   (first | assumption | exact RX.drew (by assumption) | exact RX.on (by assumption) (by assumption))
   (first | (go_at_call 23; refine (HTo.out _ (RX.rb (by assumption)).1).mono ?_; rintro e wx ⟨A3, cap3, rfl, hown, hbx⟩; (have HRx := Lib.hid (rowB_own hown)); clear hown) | (go_at_call 26; refine (HEq.out _ _ _ _ _ (RX.row (by assumption)) HRx.out).mono ?_; rintro e wy ⟨rfl, hby⟩))
  all_goals
   have T9 : RX w (.slice A n cap) p A2 n cap2 xs wy := by assumption
   have hb := T9.1
   clear T9 T6
   go_wp2
   go_ret
   exact ⟨rfl, hb⟩
 ·rw [szR_no hs] at HZ
  clear hs hx hn h hT
  go_enter Tryz.func7, Tryz.ntmps7
  go_wp2_with fail
  have T1 := T0.out 42
  clear T0
  refine (HZ.out _).mono ?_
  rintro e w1 ⟨rfl, hb1⟩
  have hb := (T1.on hb1).1
  clear T1 hb1 HZ
  go_wp2
  go_ret
  exact ⟨rfl, hb⟩
end Go.Proofs.YtmenmepdmojnfaaGreatDoor.Wg

namespace Go.Proofs.YtmenmepdmojnfaaGreatDoor.Wg
open Go.RowKit Go.Proofs.YtmenmepdmojnfaaGreatDoor.Sets Go.Proofs.YtmenmepdmojnfaaGreatDoor.Reg
theorem exCountFlipParts (w : World) (A : Option Addr) (n cap : Nat) (xs : List Int) (hx : xs.length = n) (hn : (n : Int) ≤ 9223372036854775807) (h : RowB w w.heap.size A xs) (hT : Tab w) :
  Calls Tryz.prog 7 #[.agg #[.slice A n cap]] w (Dom.Yes w) :=
 lawCountFlipParts iCountFlipParts w A n cap xs hx hn h hT
end Go.Proofs.YtmenmepdmojnfaaGreatDoor.Wg
