/- Does a region touch itself at a corner: the program's function and the model's. -/
import Derived.Test.YtocjnplbjdpieaaBalT
import Derived.Test.YtocjnplbjdpieaaRegCel
import Derived.Test.YtocjnplbjdpieaaRegL
import Derived.Deep.RegionHeld3
namespace Go.Proofs.Ytocjnplbjdpieaa.Flo
set_option linter.unusedVariables false
set_option linter.unusedSimpArgs false
open Go.RowKit Go.Proofs.Ytocjnplbjdpieaa.Base Go.Proofs.Ytocjnplbjdpieaa.Pure Go.Proofs.Ytocjnplbjdpieaa.Euler Go.Proofs.Ytocjnplbjdpieaa.Bal Go.Proofs.Ytocjnplbjdpieaa.Cell Go.Proofs.Ytocjnplbjdpieaa.Reg Go.Joins

def touchB (xs : List Int) : Bool := (List.range 64).any fun i => decide (i % 8 < 7) && decide (i / 8 < 7) && touchAt xs i
theorem touchB_iff {xs : List Int} : touchB xs = true ↔ Bal.Touch xs := by
  unfold touchB Bal.Touch
  rw [List.any_eq_true]
  constructor
  · rintro ⟨i, hi, h⟩
    simp only [Bool.and_eq_true, decide_eq_true_eq] at h
    exact ⟨i, List.mem_range.1 hi, h.1.1, h.1.2, h.2⟩
  · rintro ⟨i, hi, h1, h2, h3⟩
    exact ⟨i, List.mem_range.2 hi, by rw [h3, decide_eq_true h1, decide_eq_true h2]; rfl⟩
/-- no corner so far. -/
def NoT (xs : List Int) (y x : Nat) : Prop := ∀ i, i % 8 < 7 → i / 8 < 7 → (i / 8 < y ∨ (i / 8 = y ∧ i % 8 < x)) → touchAt xs i = false
theorem NoT.start (xs : List Int) : NoT xs 0 0 := fun i _ _ h => by omega
theorem NoT.next {xs : List Int} {y x : Nat} (h : NoT xs y x) (hx : x < 7) (ht : touchAt xs (8 * y + x) = false) : NoT xs y (x + 1) := by
  intro i h1 h2 h3
  by_cases e : i = 8 * y + x
  · subst e; exact ht
  · exact h i h1 h2 (by omega)
theorem NoT.row {xs : List Int} {y : Nat} (h : NoT xs y 7) : NoT xs (y + 1) 0 := fun i h1 h2 h3 => h i h1 h2 (by omega)
theorem NoT.done {xs : List Int} (h : NoT xs 7 0) : touchB xs = false := by
  cases q : touchB xs
  · rfl
  · obtain ⟨i, _, h1, h2, h3⟩ := touchB_iff.1 q
    rw [h i h1 h2 (by omega)] at h3; cases h3
theorem touch_yes {xs : List Int} {y x : Nat} (hx : x < 7) (hy : y < 7) (ht : touchAt xs (8 * y + x) = true) : touchB xs = true := touchB_iff.2 ⟨8 * y + x, by omega, by omega, by omega, ht⟩
/-- the four bits. -/
theorem four {xs : List Int} (ho : okR xs) {y x : Nat} (hx : x < 7) (hy : y < 7) : touchAt xs (8 * y + x) = ((bitB (rowD xs y) x == bitB (rowD xs (y + 1)) (x + 1)) && (bitB (rowD xs y) (x + 1) == bitB (rowD xs (y + 1)) x) && (bitB (rowD xs y) x != bitB (rowD xs y) (x + 1))) := by
  unfold touchAt bitI
  rw [show (8 * y + x) / 8 = y by omega, show (8 * y + x) % 8 = x by omega, show (8 * y + x + 9) / 8 = y + 1 by omega, show (8 * y + x + 9) % 8 = x + 1 by omega, show (8 * y + x + 1) / 8 = y by omega, show (8 * y + x + 1) % 8 = x + 1 by omega, show (8 * y + x + 8) / 8 = y + 1 by omega, show (8 * y + x + 8) % 8 = x by omega]

set_option maxRecDepth 100000 in
set_option maxHeartbeats 4000000 in
theorem sTouches (w : World) (A : Option Addr) (n cap B : Nat) (xs : List Int) (hx : xs.length = n) (hn : (n : Int) ≤ 9223372036854775807) (ho : okR xs) (h : RowB w B A xs) (hB : B ≤ w.heap.size) :
    Calls Try.prog 64 #[.agg #[.slice A n cap]] w (Bol (touchB xs) w) := by
  have HH := Lib.hid (fun W (x y : Nat) (X Y : Int) (hX : X = (x : Int)) (hY : Y = (y : Int)) (hb : Below w.heap.size w W) hx8 hy8 => show Calls Try.prog 48 #[.agg #[.slice A n cap], .agg #[.int .i64 X, .int .i64 Y]] W (Bol (bitB (rowD xs y) x) W) by
    rw [hX, hY]; exact sHas W A n cap B xs hx ho (h.below hb hB) (by have := hb.size; omega) x y hx8 hy8)
  have T0 := Lib.hid (fun T => rb_start (T := T) (.slice A n cap) w)
  have HF := Lib.hid (fun (y x : Nat) hx hy => four (y := y) (x := x) ho hx hy)
  clear hx hn h ho
  go_enter Try.func64, Try.ntmps64
  go_wp2_with fail
  have T1 := T0.out 26
  clear T0
  generalize w.alloc (.cells #[.slice A n cap] 26) = W1 at T1 ⊢
  go_loopw [3] (fun i wr => ∃ y : Nat, y ≤ 7 ∧ i = .int .i64 y ∧ NoT xs y 0 ∧ RB w (.slice A n cap) wr) (fun i _ => 7 - (intOf i).toNat)
  case atStart => exact ⟨0, by omega, rfl, NoT.start xs, T1⟩
  case round =>
    clear T1
    obtain ⟨y, hy, rfl, hno, T⟩ := hrel
    have HNo := Lib.hid hno
    have HT := Lib.hid T
    by_cases hlt : y < 7
    · clear hno T
      go_wp2_with fail
      have hdy : decide ((y : Int) + 1 < 8) = true := decide_eq_true (by omega)
      go_loopw [4] (fun i wr => ∃ x : Nat, x ≤ 7 ∧ i = .int .i64 x ∧ NoT xs y x ∧ RB w (.slice A n cap) wr) (fun i _ => 7 - (intOf i).toNat)
      case atStart => exact ⟨0, by omega, rfl, HNo.out, HT.out⟩
      case round =>
        clear HNo HT
        obtain ⟨x, hx, rfl, hno, T⟩ := hrel
        have HNo := Lib.hid hno
        clear hno
        by_cases hlx : x < 7
        · have hf := HF.out y x hlx hlt
          have H1 := Lib.hid (fun W hb => HH.out W x y (x : Int) (y : Int) rfl rfl hb (by omega) (by omega))
          have H2 := Lib.hid (fun W hb => HH.out W (x + 1) y ((x : Int) + 1) (y : Int) rfl rfl hb (by omega) (by omega))
          have H3 := Lib.hid (fun W hb => HH.out W x (y + 1) (x : Int) ((y : Int) + 1) rfl rfl hb (by omega) (by omega))
          have H4 := Lib.hid (fun W hb => HH.out W (x + 1) (y + 1) ((x : Int) + 1) ((y : Int) + 1) rfl rfl hb (by omega) (by omega))
          have HFf := Lib.hid hf
          clear hf
          generalize bitB (rowD xs y) x = b1 at H1 HFf
          generalize bitB (rowD xs y) (x + 1) = b2 at H2 HFf
          generalize bitB (rowD xs (y + 1)) x = b3 at H3 HFf
          generalize bitB (rowD xs (y + 1)) (x + 1) = b4 at H4 HFf
          obtain ⟨_, _, c0⟩ := id T
          go_wp2_with fail
          refine (H1.out _ T.1).mono ?_
          rintro e w2 ⟨rfl, hb2⟩
          have T2 := T.on hb2
          obtain ⟨_, _, c2⟩ := id T2
          clear T c0 hb2
          go_wp2_with fail
          refine (H2.out _ T2.1).mono ?_
          rintro e w3 ⟨rfl, hb3⟩
          have T3 := T2.on hb3
          obtain ⟨_, _, c3⟩ := id T3
          clear T2 c2 hb3
          go_wp2_with fail
          refine (H3.out _ T3.1).mono ?_
          rintro e w4 ⟨rfl, hb4⟩
          have T4 := T3.on hb4
          obtain ⟨_, _, c4⟩ := id T4
          clear T3 c3 hb4
          go_wp2_with fail
          refine (H4.out _ T4.1).mono ?_
          rintro e w5 ⟨rfl, hb5⟩
          have T5 := Lib.hid (T4.on hb5)
          clear T4 c4 hb5 H1 H2 H3 H4
          cases ht : touchAt xs (8 * y + x) with
          | true =>
            have HR := Lib.hid (touch_yes hlx hlt ht)
            have hb := T5.out.1
            rw [ht] at HFf
            clear ht
            have hff := HFf.out
            cases b1 <;> cases b2 <;> cases b3 <;> cases b4 <;> first
              | (exact absurd hff (by decide))
              | (clear hff HFf
                 go_wp2
                 go_ret
                 exact mkBol HR.out.symm hb)
          | false =>
            have HNx := Lib.hid (HNo.out.next hlx ht)
            rw [ht] at HFf
            clear ht
            have hff := HFf.out
            cases b1 <;> cases b2 <;> cases b3 <;> cases b4 <;> first
              | (exact absurd hff (by decide))
              | (clear hff HFf
                 go_wp2
                 go_roundw
                 case rel =>
                   repeat apply Exists.intro
                   refine ⟨⟨x + 1, by omega, ?_, HNx.out, T5.out⟩, ?_⟩
                   rotate_left
                   · rw [hdy]
                   · go_num
                 case measure => (simp [intOf] <;> omega))
        · obtain rfl : x = 7 := by omega
          have HNx := Lib.hid HNo.out.row
          go_wp2
          go_roundw
          case rel => exact ⟨y + 1, by omega, by go_num, HNx.out, T⟩
          case measure => (simp [intOf] <;> omega)
    · obtain rfl : y = 7 := by omega
      have HR := Lib.hid HNo.out.done
      have hb := T.1
      clear hno T
      go_wp2
      go_ret
      exact mkBol HR.out.symm hb
end Go.Proofs.Ytocjnplbjdpieaa.Flo
