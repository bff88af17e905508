/- LSum in one text. -/
import Derived.Test.YtieophdbhnpncaaMp20
import Derived.Test.YtieophdbhnpncaaMp41
import Derived.Test.YtieophdbhnpncaaMp21

/- HeightSum, the program's and the model's: the same sum; the laws FnExactHeightSum and FnExactEdgeStep return true. -/
namespace Go.Proofs.Ytieophdbhnpncaa.Hgt
set_option linter.unusedVariables false
set_option linter.unusedSimpArgs false
set_option maxRecDepth 100000
open Go.RowKit Go.Proofs.Ytieophdbhnpncaa.Base Go.Proofs.Ytieophdbhnpncaa.Cell Go.Joins
open Go.Proofs.Ytieophdbhnpncaa.Reg hiding Yes

theorem sumH_no {hs : List Int} {k : Nat} (hk : k < hs.length) (h : hs[k] = -1000) : sumH hs (k + 1) = sumH hs k := by rw [sumH_step hk, if_pos h]
theorem sumH_yes {hs : List Int} {k : Nat} (hk : k < hs.length) (h : hs[k] ≠ -1000) : sumH hs (k + 1) = wrap64 (sumH hs k + hs[k]) := by rw [sumH_step hk, if_neg h]
set_option maxHeartbeats 1000000 in
theorem iSum (w : World) (A : Option Addr) (n cap B : Nat) (xs : List Int) (hx : xs.length = n) (hn : (n : Int) ≤ 9223372036854775807) (h : RowB w B A xs) (hB : B ≤ w.heap.size) :
    Calls Try.prog 23 #[.slice A n cap] w (Num (sumH xs n) w) := by
  obtain ⟨b, off, hA, hc⟩ := h
  have HA := Lib.hid hA
  have HC := Lib.hid hc
  have HL := Lib.hid hx
  have HS0 := Lib.hid (show sumH xs 0 = 0 from rfl)
  clear hA hc hx
  go_enter Try.func23, Try.ntmps23
  go_wp2_with fail
  go_loopw [3, 8] (fun s i wr => ∃ (k : Nat) (S : Int), k ≤ n ∧ s = .int .i64 S ∧ i = .int .i64 k ∧ Below w.heap.size w wr ∧ Hid (S = sumH xs k)) (fun _ i _ => n - (intOf i).toNat)
  case atStart => exact ⟨0, 0, Nat.zero_le _, rfl, rfl, Below.refl _ _, Lib.hid HS0.out.symm⟩
  case round =>
    clear HS0
    obtain ⟨k, S, hk, rfl, rfl, hb, HS⟩ := hrel
    by_cases hlt : k < n
    · have hkL : k < xs.length := by rw [HL.out]; exact hlt
      obtain ⟨rfl, hbB⟩ := HA.out (by omega)
      have c0 := (hb.cell (p := ⟨b, off + k, none⟩) (by show b < _; omega)).trans (HC.out k xs[k] (List.getElem?_eq_getElem hkL))
      have HNo := Lib.hid (fun h => sumH_no hkL h)
      have HYe := Lib.hid (fun h => sumH_yes hkL h)
      generalize xs[k] = t at c0 HNo HYe
      have HB := Lib.hid hb
      clear hb
      by_cases ht : t = -1000
      · subst ht
        have htb : ((-1000 : Int) != -1000) = false := rfl
        have HS2 := Lib.hid (show S = sumH xs (k + 1) by rw [HNo.out rfl]; exact HS.out)
        clear HNo HYe HS
        go_wp2
        go_roundw
        case rel => exact ⟨k + 1, S, by omega, rfl, by go_num, HB.out, HS2⟩
        case measure => (simp [intOf] <;> omega)
      · have htb : (t != -1000) = true := by simpa using ht
        obtain ⟨S2, hS2⟩ : ∃ S2, IntKind.i64.wrap (S + t) = S2 := ⟨_, rfl⟩
        have hS3 : wrap64 (S + t) = S2 := by rw [← hS2, IntKind.wrap_i64]; unfold wrap64; omega
        have HS2 := Lib.hid (show S2 = sumH xs (k + 1) by rw [HYe.out ht, ← HS.out]; exact hS3.symm)
        clear HNo HYe HS ht
        go_wp2
        go_roundw
        case rel => exact ⟨k + 1, S2, by omega, rfl, by go_num, HB.out, HS2⟩
        case measure => (simp [intOf] <;> omega)
    · obtain rfl : k = n := by omega
      have HB := Lib.hid hb
      have HE := Lib.hid HS.out
      clear HS hb
      go_wp2
      go_ret
      exact ⟨by rw [HE.out]; rfl, HB.out⟩
set_option maxHeartbeats 1000000 in
theorem sSum (w : World) (A : Option Addr) (n cap B : Nat) (xs : List Int) (hx : xs.length = n) (hn : (n : Int) ≤ 9223372036854775807) (h : RowB w B A xs) (hB : B ≤ w.heap.size) :
    Calls Try.prog 21 #[.slice A n cap] w (Num (sumH xs n) w) := by
  obtain ⟨b, off, hA, hc⟩ := h
  have HA := Lib.hid hA
  have HC := Lib.hid hc
  have HL := Lib.hid hx
  have HS0 := Lib.hid (show sumH xs 0 = 0 from rfl)
  clear hA hc hx
  go_enter Try.func21, Try.ntmps21
  go_wp2_with fail
  go_loopw [3, 4] (fun s i wr => ∃ (k : Nat) (S : Int), k ≤ n ∧ s = .int .i64 S ∧ i = .int .i64 k ∧ Below w.heap.size w wr ∧ Hid (S = sumH xs k)) (fun _ i _ => n - (intOf i).toNat)
  case atStart => exact ⟨0, 0, Nat.zero_le _, rfl, rfl, Below.refl _ _, Lib.hid HS0.out.symm⟩
  case round =>
    clear HS0
    obtain ⟨k, S, hk, rfl, rfl, hb, HS⟩ := hrel
    by_cases hlt : k < n
    · have hkL : k < xs.length := by rw [HL.out]; exact hlt
      obtain ⟨rfl, hbB⟩ := HA.out (by omega)
      have c0 := (hb.cell (p := ⟨b, off + k, none⟩) (by show b < _; omega)).trans (HC.out k xs[k] (List.getElem?_eq_getElem hkL))
      have HNo := Lib.hid (fun h => sumH_no hkL h)
      have HYe := Lib.hid (fun h => sumH_yes hkL h)
      generalize xs[k] = t at c0 HNo HYe
      have HB := Lib.hid hb
      clear hb
      by_cases ht : t = -1000
      · subst ht
        have htb : ((-1000 : Int) != -1000) = false := rfl
        have HS2 := Lib.hid (show S = sumH xs (k + 1) by rw [HNo.out rfl]; exact HS.out)
        clear HNo HYe HS
        go_wp2
        go_roundw
        case rel => exact ⟨k + 1, S, by omega, rfl, by go_num, HB.out, HS2⟩
        case measure => (simp [intOf] <;> omega)
      · have htb : (t != -1000) = true := by simpa using ht
        obtain ⟨S2, hS2⟩ : ∃ S2, IntKind.i64.wrap (S + t) = S2 := ⟨_, rfl⟩
        have hS3 : wrap64 (S + t) = S2 := by rw [← hS2, IntKind.wrap_i64]; unfold wrap64; omega
        have HS2 := Lib.hid (show S2 = sumH xs (k + 1) by rw [HYe.out ht, ← HS.out]; exact hS3.symm)
        clear HNo HYe HS ht
        go_wp2
        go_roundw
        case rel => exact ⟨k + 1, S2, by omega, rfl, by go_num, HB.out, HS2⟩
        case measure => (simp [intOf] <;> omega)
    · obtain rfl : k = n := by omega
      have HB := Lib.hid hb
      have HE := Lib.hid HS.out
      clear HS hb
      go_wp2
      go_ret
      exact ⟨by rw [HE.out]; rfl, HB.out⟩
set_option maxHeartbeats 1000000 in
theorem exHeightSum (w : World) (A : Option Addr) (n cap : Nat) (xs : List Int) (hx : xs.length = n) (hn : (n : Int) ≤ 9223372036854775807) (h : RowB w w.heap.size A xs) :
    Calls Try.prog 5 #[.slice A n cap] w (Dom.Yes w) := by
  by_cases hs : (n : Int) ≤ 1048576
  · have HTo := Lib.hid (fun W (hb : Below w.heap.size w W) => toIntS W A n cap w.heap.size xs hx hs (h.below hb (Nat.le_refl _)) hb.size)
    have HSp := Lib.hid (fun W A c (hr : RowB W W.heap.size A xs) => sSum W A n c W.heap.size xs hx hn hr (Nat.le_refl _))
    have HIm := Lib.hid (fun W A c (hr : RowB W W.heap.size A xs) => iSum W A n c W.heap.size xs hx hn hr (Nat.le_refl _))
    have HE := Lib.hid (fun (W : World) (B B' : Option Addr) (c c' : Nat) (h1 : RowB W W.heap.size B xs) (h2 : RowB W W.heap.size B' xs) => show Calls _ _ _ W (Bol true W) from (eqIntS W B B' n c c' W.heap.size W.heap.size xs hx (by omega) h1 h2).mono fun e w' ⟨q1, q, q2⟩ => ⟨q1, q2 ▸ drewBelow (Below.refl _ _) q⟩)
    have hbig : ¬ (1048576 : Int) < (n : Int) := by omega
    generalize sumH xs n = S at HSp HIm
    have hss : (S != S) = false := by simp
    clear hx hn h hs
    go_enter Try.func5, Try.ntmps5
    go_wp2_with fail
    refine (HTo.out _ (Below.refl _ _)).mono ?_
    rintro e w1 ⟨A1, rfl, hown, hb1⟩
    go_wp2_with fail
    refine (HSp.out _ _ _ (rowB_own hown)).mono ?_
    rintro e w2 ⟨rfl, hb2⟩
    have B2 := hb1.trans (hb2.mono hb1.size)
    clear hown hb1 hb2
    go_wp2_with fail
    refine (HTo.out _ B2).mono ?_
    rintro e w3 ⟨A3, rfl, hown, hb3⟩
    have B3 := B2.trans (hb3.mono B2.size)
    have R3 := rowB_own hown
    clear B2 hb3 hown
    go_wp2_with fail
    refine (HIm.out _ _ _ R3).mono ?_
    rintro e w4 ⟨rfl, hb4⟩
    have B4 := B3.trans (hb4.mono B3.size)
    have R4 := (R3.below hb4 (Nat.le_refl _)).mono hb4.size
    clear B3 hb4 R3
    go_wp2_with fail
    refine (HTo.out _ B4).mono ?_
    rintro e w5 ⟨A5, rfl, hown, hb5⟩
    have B5 := B4.trans (hb5.mono B4.size)
    have R5 := (R4.below hb5 (Nat.le_refl _)).mono hb5.size
    have R6 := rowB_own hown
    clear B4 hb5 hown R4
    go_wp2_with fail
    refine (HE.out _ _ _ _ _ R5 R6).mono ?_
    rintro e w6 ⟨rfl, hb6⟩
    have B6 := B5.trans (hb6.mono B5.size)
    clear B5 hb6 R5 R6
    go_wp2
    go_ret
    exact ⟨rfl, B6⟩
  · have hbig : (1048576 : Int) < (n : Int) := by omega
    clear hx hn h hs
    go_enter Try.func5, Try.ntmps5
    go_wp2
    go_ret
    exact ⟨rfl, Below.refl _ _⟩
set_option maxHeartbeats 1000000 in
theorem exEdgeStep (w : World) (ax ay bx by' : Int) :
    Calls Try.prog 3 #[.int .i64 ax, .int .i64 ay, .int .i64 bx, .int .i64 by'] w (Dom.Yes w) := by
  have HS := Lib.hid (fun W => sEdge ax ay bx by' W)
  have HI := Lib.hid (fun W => Cor.iEdge ax ay bx by' W)
  generalize stepE ax ay bx by' = S at HS HI
  have hss : (S != S) = false := by simp
  go_enter Try.func3, Try.ntmps3
  go_wp2_with fail
  refine (HS.out _).mono ?_
  rintro e w1 ⟨rfl, rfl⟩
  go_wp2_with fail
  refine (HI.out _).mono ?_
  rintro e w2 ⟨rfl, hb⟩
  go_wp2
  go_ret
  exact ⟨rfl, hb⟩
end Go.Proofs.Ytieophdbhnpncaa.Hgt
