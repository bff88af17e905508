/- RegL, Tch, RegL2 in one text. -/
import Derived.Test.YtmajllgfmclcoaaMb10
import Derived.Test.YtmajllgfmclcoaaMb00
import Derived.Deep.RegionHeld3
import Derived.Test.YtmajllgfmclcoaaMb07
import Derived.Test.YtmajllgfmclcoaaMb12

namespace Go.Proofs.Ytmajllgfmclcoaa.Reg
set_option linter.unusedVariables false
open Go.RowKit Go.Joins

def Yes (w : World) (e : Ending) (w' : World) : Prop := e = .returned (.bool true) ∧ Below w.heap.size w w'
def RB (w : World) (v : Value) (W : World) : Prop :=
 Below w.heap.size w W ∧ w.heap.size + 1 ≤ W.heap.size ∧ W.cell? ⟨w.heap.size, 0, none⟩ = some v
theorem rb_start {T : TypeId} (v : Value) (w : World) : RB w v (w.alloc (.cells #[v] T)) :=
 ⟨below_alloc1 w _, by simp, (cell_of_row _ _ 0 _ _ _ (heap_alloc_new w _)).trans rfl⟩
theorem RB.onB {w W W' : World} {v : Value} {B : Nat} (h : RB w v W) (hb : Below B W W') (hB : w.heap.size + 1 ≤ B) : RB w v W' := by
 obtain ⟨h0, h1, h2⟩ := h
 have hz := hb.size
 refine ⟨h0.trans (hb.mono (by omega)), by omega, ?_⟩
 rw [hb.cell (by show w.heap.size < _; omega)]; exact h2
theorem RB.on {w W W' : World} {v : Value} (h : RB w v W) (hb : Below W.heap.size W W') : RB w v W' := h.onB hb h.2.1
theorem RB.drew {w W : World} {v : Value} (h : RB w v W) : RB w v W.drew := ⟨h.1.drew, h.2⟩
def RX (w : World) (v : Value) (p : Nat) (A : Option Addr) (n cap : Nat) (xs : List Int) (W : World) : Prop :=
 Below w.heap.size w W ∧ w.heap.size + 1 ≤ W.heap.size ∧ W.cell? ⟨w.heap.size, 0, none⟩ = some v ∧ W.cell? ⟨p, 0, none⟩ = some (.slice A n cap) ∧ (w.heap.size ≤ p ∧ p < W.heap.size ∧ W.ownsRow (w.heap.size + 1) 3 1 (.slice A n cap) n (ints xs))
theorem rx_start {w W W1 : World} {v : Value} {A : Option Addr} {n cap : Nat} {xs : List Int} {B : Nat} (h : RB w v W) (hB : w.heap.size + 1 ≤ B) (ho : W.ownsRow B 3 1 (.slice A n cap) n (ints xs)) {T : TypeId}
  (h1 : Below (W.alloc (.cells #[.slice A n cap] T)).heap.size (W.alloc (.cells #[.slice A n cap] T)) W1) : RX w v W.heap.size A n cap xs W1 := by
 have hb : Below W.heap.size W W1 := (below_alloc1 W _).trans (h1.mono (by simp))
 obtain ⟨a, b, c⟩ := h.on hb
 refine ⟨a, b, c, ?_, by have := h.1.size; omega, by have := h1.size; simp at this; omega, own_base (own_below ho hb (Nat.le_refl _)) hB⟩
 rw [h1.cell (by simp)]
 exact (cell_of_row _ _ 0 _ _ _ (heap_alloc_new W _)).trans rfl
theorem RX.on {w W W' : World} {v : Value} {p : Nat} {A : Option Addr} {n cap : Nat} {xs : List Int} (h : RX w v p A n cap xs W) (hb : Below W.heap.size W W') : RX w v p A n cap xs W' := by
 obtain ⟨h0, h1, h2, h3, h4, h5, h6⟩ := h
 have hz := hb.size
 refine ⟨h0.trans (hb.mono (by omega)), by omega, ?_, ?_, h4, by omega, own_below h6 hb (Nat.le_refl _)⟩
 ·rw [hb.cell (by show w.heap.size < _; omega)]; exact h2
 ·rw [hb.cell (by show p < _; omega)]; exact h3
theorem RX.drew {w W : World} {v : Value} {p : Nat} {A : Option Addr} {n cap : Nat} {xs : List Int} (h : RX w v p A n cap xs W) : RX w v p A n cap xs W.drew := ⟨h.1.drew, h.2⟩
theorem RX.row {w W : World} {v : Value} {p : Nat} {A : Option Addr} {n cap : Nat} {xs : List Int} (h : RX w v p A n cap xs W) : RowB W W.heap.size A xs := rowB_own h.2.2.2.2.2.2
theorem szR_no {n : Nat} (h : ¬ (n : Int) ≤ 1048576) : szR 1048576 n = -1 := by unfold szR; rw [if_neg h]
theorem szR_yes {n : Nat} (h : (n : Int) ≤ 1048576) : 0 ≤ szR 1048576 n ∧ szR 1048576 n ≤ 1048576 := by unfold szR; rw [if_pos h]; omega
end Go.Proofs.Ytmajllgfmclcoaa.Reg

namespace Go.Proofs.Ytmajllgfmclcoaa.Flo
set_option linter.unusedVariables false
set_option linter.unusedSimpArgs false
open Go.RowKit Go.Proofs.Ytmajllgfmclcoaa.Pure Go.Proofs.Ytmajllgfmclcoaa.Euler Go.Proofs.Ytmajllgfmclcoaa.Bal Go.Proofs.Ytmajllgfmclcoaa.Cell Go.Proofs.Ytmajllgfmclcoaa.Reg Go.Joins

def touchB (xs : List Int) : Bool := (List.range 64).any fun i => decide (i % 8 < 7) && decide (i / 8 < 7) && touchAt xs i
theorem touchB_iff {xs : List Int} : touchB xs = true ↔ Bal.Touch xs := by
  unfold touchB Bal.Touch
  rw [List.any_eq_true]
  constructor
  · rintro ⟨i, hi, h⟩
    simp only [Bool.and_eq_true, decide_eq_true_eq] at h
    exact ⟨i, List.mem_range.1 hi, h.1.1, h.1.2, h.2⟩
  · rintro ⟨i, hi, h1, h2, h3⟩
    exact ⟨i, List.mem_range.2 hi, by rw [h3, decide_eq_true h1, decide_eq_true h2]; rfl⟩
def NoT (xs : List Int) (y x : Nat) : Prop := ∀ i, i % 8 < 7 → i / 8 < 7 → (i / 8 < y ∨ (i / 8 = y ∧ i % 8 < x)) → touchAt xs i = false
theorem NoT.start (xs : List Int) : NoT xs 0 0 := fun i _ _ h => by omega
theorem NoT.next {xs : List Int} {y x : Nat} (h : NoT xs y x) (hx : x < 7) (ht : touchAt xs (8 * y + x) = false) : NoT xs y (x + 1) := by
  intro i h1 h2 h3
  by_cases e : i = 8 * y + x
  · subst e; exact ht
  · exact h i h1 h2 (by omega)
theorem NoT.row {xs : List Int} {y : Nat} (h : NoT xs y 7) : NoT xs (y + 1) 0 := fun i h1 h2 h3 => h i h1 h2 (by omega)
theorem NoT.done {xs : List Int} (h : NoT xs 7 0) : touchB xs = false := by
  cases q : touchB xs
  · rfl
  · obtain ⟨i, _, h1, h2, h3⟩ := touchB_iff.1 q
    rw [h i h1 h2 (by omega)] at h3; cases h3
theorem touch_yes {xs : List Int} {y x : Nat} (hx : x < 7) (hy : y < 7) (ht : touchAt xs (8 * y + x) = true) : touchB xs = true := touchB_iff.2 ⟨8 * y + x, by omega, by omega, by omega, ht⟩
theorem four {xs : List Int} (ho : okR xs) {y x : Nat} (hx : x < 7) (hy : y < 7) : touchAt xs (8 * y + x) = ((bitB (rowD xs y) x == bitB (rowD xs (y + 1)) (x + 1)) && (bitB (rowD xs y) (x + 1) == bitB (rowD xs (y + 1)) x) && (bitB (rowD xs y) x != bitB (rowD xs y) (x + 1))) := by
  unfold touchAt bitI
  rw [show (8 * y + x) / 8 = y by omega, show (8 * y + x) % 8 = x by omega, show (8 * y + x + 9) / 8 = y + 1 by omega, show (8 * y + x + 9) % 8 = x + 1 by omega, show (8 * y + x + 1) / 8 = y by omega, show (8 * y + x + 1) % 8 = x + 1 by omega, show (8 * y + x + 8) / 8 = y + 1 by omega, show (8 * y + x + 8) % 8 = x by omega]

set_option maxRecDepth 100000 in
set_option maxHeartbeats 4000000 in
theorem sTouches (w : World) (A : Option Addr) (n cap B : Nat) (xs : List Int) (hx : xs.length = n) (hn : (n : Int) ≤ 9223372036854775807) (ho : okR xs) (h : RowB w B A xs) (hB : B ≤ w.heap.size) :
    Calls Try.prog 39 #[.agg #[.slice A n cap]] w (Bol (touchB xs) w) := by
  have HH := Lib.hid (fun W (x y : Nat) (X Y : Int) (hX : X = (x : Int)) (hY : Y = (y : Int)) (hb : Below w.heap.size w W) hx8 hy8 => show Calls Try.prog 43 #[.agg #[.slice A n cap], .agg #[.int .i64 X, .int .i64 Y]] W (Bol (bitB (rowD xs y) x) W) by
    rw [hX, hY]; exact sHas W A n cap B xs hx ho (h.below hb hB) (by have := hb.size; omega) x y hx8 hy8)
  have T0 := Lib.hid (fun T => rb_start (T := T) (.slice A n cap) w)
  have HF := Lib.hid (fun (y x : Nat) hx hy => four (y := y) (x := x) ho hx hy)
  clear hx hn h ho
  go_enter Try.func39, Try.ntmps39
  go_wp2_with fail
  have T1 := T0.out 29
  clear T0
  generalize w.alloc (.cells #[.slice A n cap] 29) = W1 at T1 ⊢
  go_loopw [3] (fun i wr => ∃ y : Nat, y ≤ 7 ∧ i = .int .i64 y ∧ NoT xs y 0 ∧ RB w (.slice A n cap) wr) (fun i _ => 7 - (intOf i).toNat)
  case atStart => exact ⟨0, by omega, rfl, NoT.start xs, T1⟩
  case round =>
    clear T1
    obtain ⟨y, hy, rfl, hno, T⟩ := hrel
    have HNo := Lib.hid hno
    have HT := Lib.hid T
    by_cases hlt : y < 7
    · clear hno T
      go_wp2_with fail
      have hdy : decide ((y : Int) + 1 < 8) = true := decide_eq_true (by omega)
      go_loopw [4] (fun i wr => ∃ x : Nat, x ≤ 7 ∧ i = .int .i64 x ∧ NoT xs y x ∧ RB w (.slice A n cap) wr) (fun i _ => 7 - (intOf i).toNat)
      case atStart => exact ⟨0, by omega, rfl, HNo.out, HT.out⟩
      case round =>
        clear HNo HT
        obtain ⟨x, hx, rfl, hno, T⟩ := hrel
        have HNo := Lib.hid hno
        clear hno
        by_cases hlx : x < 7
        · have hf := HF.out y x hlx hlt
          have H1 := Lib.hid (fun W hb => HH.out W x y (x : Int) (y : Int) rfl rfl hb (by omega) (by omega))
          have H2 := Lib.hid (fun W hb => HH.out W (x + 1) y ((x : Int) + 1) (y : Int) rfl rfl hb (by omega) (by omega))
          have H3 := Lib.hid (fun W hb => HH.out W x (y + 1) (x : Int) ((y : Int) + 1) rfl rfl hb (by omega) (by omega))
          have H4 := Lib.hid (fun W hb => HH.out W (x + 1) (y + 1) ((x : Int) + 1) ((y : Int) + 1) rfl rfl hb (by omega) (by omega))
          have HFf := Lib.hid hf
          clear hf
          generalize bitB (rowD xs y) x = b1 at H1 HFf
          generalize bitB (rowD xs y) (x + 1) = b2 at H2 HFf
          generalize bitB (rowD xs (y + 1)) x = b3 at H3 HFf
          generalize bitB (rowD xs (y + 1)) (x + 1) = b4 at H4 HFf
          obtain ⟨_, _, c0⟩ := id T
          go_wp2_with fail
          refine (H1.out _ T.1).mono ?_
          rintro e w2 ⟨rfl, hb2⟩
          have T2 := T.on hb2
          obtain ⟨_, _, c2⟩ := id T2
          clear T c0 hb2
          go_wp2_with fail
          refine (H2.out _ T2.1).mono ?_
          rintro e w3 ⟨rfl, hb3⟩
          have T3 := T2.on hb3
          obtain ⟨_, _, c3⟩ := id T3
          clear T2 c2 hb3
          go_wp2_with fail
          refine (H3.out _ T3.1).mono ?_
          rintro e w4 ⟨rfl, hb4⟩
          have T4 := T3.on hb4
          obtain ⟨_, _, c4⟩ := id T4
          clear T3 c3 hb4
          go_wp2_with fail
          refine (H4.out _ T4.1).mono ?_
          rintro e w5 ⟨rfl, hb5⟩
          have T5 := Lib.hid (T4.on hb5)
          clear T4 c4 hb5 H1 H2 H3 H4
          cases ht : touchAt xs (8 * y + x) with
          | true =>
            have HR := Lib.hid (touch_yes hlx hlt ht)
            have hb := T5.out.1
            rw [ht] at HFf
            clear ht
            have hff := HFf.out
            cases b1 <;> cases b2 <;> cases b3 <;> cases b4 <;> first
              | (exact absurd hff (by decide))
              | (clear hff HFf
                 go_wp2
                 go_ret
                 exact mkBol HR.out.symm hb)
          | false =>
            have HNx := Lib.hid (HNo.out.next hlx ht)
            rw [ht] at HFf
            clear ht
            have hff := HFf.out
            cases b1 <;> cases b2 <;> cases b3 <;> cases b4 <;> first
              | (exact absurd hff (by decide))
              | (clear hff HFf
                 go_wp2
                 go_roundw
                 case rel =>
                   repeat apply Exists.intro
                   refine ⟨⟨x + 1, by omega, ?_, HNx.out, T5.out⟩, ?_⟩
                   rotate_left
                   · rw [hdy]
                   · go_num
                 case measure => (simp [intOf] <;> omega))
        · obtain rfl : x = 7 := by omega
          have HNx := Lib.hid HNo.out.row
          go_wp2
          go_roundw
          case rel => exact ⟨y + 1, by omega, by go_num, HNx.out, T⟩
          case measure => (simp [intOf] <;> omega)
    · obtain rfl : y = 7 := by omega
      have HR := Lib.hid HNo.out.done
      have hb := T.1
      clear hno T
      go_wp2
      go_ret
      exact mkBol HR.out.symm hb
end Go.Proofs.Ytmajllgfmclcoaa.Flo

namespace Go.Proofs.Ytmajllgfmclcoaa.Reg
set_option linter.unusedVariables false
open Go.RowKit Go.Joins

theorem RowIn.belowB {W W' : World} {lo hi B e size n : Nat} {v : Value} {xs : List Value} (h : RowIn W lo hi e size v n xs) (hb : Below B W W') (hB : hi ≤ B) : RowIn W' lo hi e size v n xs := by
 refine ⟨⟨h.1.1, ?_⟩, h.2⟩
 rcases h.1.2 with hn | ⟨g, cap, cur, rfl, hg, hgg, rest⟩
 ·exact .inl hn
 ·refine .inr ⟨g, cap, cur, rfl, hg, ?_, rest⟩
  have h2 := h.2 g rfl
  rw [hb.block g (by omega)]
  exact hgg
section
variable {w : World} {v : Value} {p : Nat} {va : Value} {lx hx n : Nat} {xs : List Value} {lw hw e size : Nat} {vw : Value} {m : Nat} {cs : List Value} {W W' : World}
end
end Go.Proofs.Ytmajllgfmclcoaa.Reg
