/- FnClamped: whatever three numbers the code draws, the clamped number is in the range, is not changed again, and equals the number if this is in the range. -/
import Derived.Test.YtbfmodoofkgicaaDraw
namespace Go.Proofs.Ytbfmodoofkgicaa.Clamped
set_option linter.unusedVariables false
open Go.RowKit Go.Proofs.Ytbfmodoofkgicaa.Base Go.Proofs.Ytbfmodoofkgicaa.Draw

/-- what Clamp returns. -/
def cl (n low high : Int) : Int := if high < low then low else if n < low then low else if high < n then high else n

set_option maxHeartbeats 400000 in
theorem clamp (n low high : Int) (w : World) :
    Calls Try.prog 9 #[.int .i64 n, .int .i64 low, .int .i64 high] w fun e w' => e = .returned (.int .i64 (cl n low high)) ∧ w = w' := by
  have H : ∀ v : Int, v = cl n low high → Ending.returned (.int .i64 v) = .returned (.int .i64 (cl n low high)) := fun v h => by rw [h]
  have HH := Lib.hid H
  clear H
  go_enter Try.func9, Try.ntmps9
  go_wp2
  all_goals
    go_ret
    refine ⟨HH.out _ ?_, rfl⟩
    unfold cl
    (repeat' split) <;> omega

/-- three numbers are drawn. -/
def Three (w : World) (e : Ending) (w' : World) : Prop := ∃ n a b : Int, e = .returned (.tuple #[.int .i64 n, .int .i64 a, .int .i64 b]) ∧ Below w.heap.size w w'

theorem below_of {w w1 w2 : World} {g : Nat} (h : Below w.heap.size w w1) (hg : w.heap.size ≤ g) (k : w1.grownBy w2 (some g)) : Below w.heap.size w w2 :=
  h.grown k h.size (fun j hj => by injection hj; omega)

set_option maxHeartbeats 400000 in
theorem drawClamp (w : World) (A : Option Addr) (len cap : Nat) (h0 : Coded w w.heap.size A len) :
    Calls Try.prog 8 #[.slice A len cap] w (Three w) := by
  have HC := Lib.hid h0
  clear h0
  go_enter Try.func8, Try.ntmps8
  go_wp2_with fail
  refine (new w A len cap HC.out).mono ?_
  rintro e w1 ⟨g, rfl, hc, hb1⟩
  have HC1 := Lib.hid hc
  have hg := hc.lt.1
  clear hc
  go_wp2_with fail
  refine (once w1 _ g A len cap 4 HC1.out).mono ?_
  rintro e w2 ⟨x, rfl, hc, hg2⟩
  have HC2 := Lib.hid hc
  have hb2 := below_of hb1 hg hg2
  clear hc
  cases x
  · go_wp2_with fail
    refine (below w2 _ g A len cap 40 HC2.out).mono ?_
    rintro e w3 ⟨y, hy, rfl, hc, hg3⟩
    obtain ⟨y0, y1⟩ := hy.2 (by omega)
    have HC3 := Lib.hid hc
    have hb3 := below_of hb2 hg hg3
    clear hc hy
    go_wp2_with fail
    refine (below w3 _ g A len cap 80 HC3.out).mono ?_
    rintro e w4 ⟨z, hz, rfl, hc, hg4⟩
    obtain ⟨z0, z1⟩ := hz.2 (by omega)
    have HC4 := Lib.hid hc
    have hb4 := below_of hb3 hg hg4
    clear hc hz
    go_wp2_with fail
    refine (below w4 _ g A len cap 30 HC4.out).mono ?_
    rintro e w5 ⟨v, hv, rfl, hc, hg5⟩
    obtain ⟨v0, v1⟩ := hv.2 (by omega)
    have hb5 := below_of hb4 hg hg5
    clear hc hv
    go_wp2
    go_ret3
    exact ⟨_, _, _, rfl, hb5⟩
  · go_wp2_with fail
    refine (number w2 _ g A len cap HC2.out).mono ?_
    rintro e w3 ⟨y, _, rfl, hc, hg3⟩
    have HC3 := Lib.hid hc
    have hb3 := below_of hb2 hg hg3
    clear hc
    go_wp2_with fail
    refine (number w3 _ g A len cap HC3.out).mono ?_
    rintro e w4 ⟨z, _, rfl, hc, hg4⟩
    have HC4 := Lib.hid hc
    have hb4 := below_of hb3 hg hg4
    clear hc
    go_wp2_with fail
    refine (number w4 _ g A len cap HC4.out).mono ?_
    rintro e w5 ⟨v, _, rfl, hc, hg5⟩
    have hb5 := below_of hb4 hg hg5
    clear hc
    go_wp2
    go_ret3
    exact ⟨_, _, _, rfl, hb5⟩

theorem cl_low (n a b : Int) (h : b < a) : cl n a b = a := by unfold cl; rw [if_pos h]
theorem cl_in (n a b : Int) (h : a ≤ b) : a ≤ cl n a b ∧ cl n a b ≤ b ∧ cl (cl n a b) a b = cl n a b ∧ (n < a ∨ b < n ∨ cl n a b = n) := by
  unfold cl
  (repeat' split) <;> omega

set_option maxHeartbeats 400000 in
theorem clamped_law (A : Option Addr) (len cap : Nat) (zs : List Int) (w : World) (h0 : IsRow .u8 w A len cap zs) :
    Calls Try.prog 3 #[.slice A len cap] w fun e w' => e = .returned (.bool true) ∧ Below w.heap.size w w' := by
  have hlen := row_len h0
  by_cases hbig : (1048576 : Int) < (len : Int)
  · go_enter Try.func3, Try.ntmps3
    go_wp2_with fail
    refine (big w A len cap hlen).mono ?_
    rintro e w' ⟨rfl, rfl⟩
    go_wp2
    go_ret
    exact ⟨rfl, Below.refl _ _⟩
  · have HC := Lib.hid (coded_of_row h0 (by omega))
    clear h0
    go_enter Try.func3, Try.ntmps3
    go_wp2_with fail
    refine (big w A len cap hlen).mono ?_
    rintro e w' ⟨rfl, rfl⟩
    go_wp2_with fail
    refine (drawClamp w A len cap HC.out).mono ?_
    rintro e w1 ⟨n, a, b, rfl, hb1⟩
    go_wp2_with fail
    refine (clamp n a b w1).mono ?_
    rintro e w' ⟨rfl, rfl⟩
    by_cases hab : b < a
    · rw [cl_low n a b hab]
      have haa : (a == a) = true := by simp
      go_wp2_with fail
      refine (clamp 7 3 5 w1).mono ?_
      rintro e w' ⟨rfl, rfl⟩
      rw [show cl 7 3 5 = 5 from rfl]
      go_wp2
      go_ret
      exact ⟨rfl, hb1⟩
    · obtain ⟨h1, h2, h3, h4⟩ := cl_in n a b (by omega)
      have H3 := Lib.hid h3
      clear h3
      generalize cl n a b = x at h1 h2 h4 H3 ⊢
      have H4 := Lib.hid h4
      clear h4
      have hxx : (x == x) = true := by simp
      go_wp2_with fail
      refine (clamp x a b w1).mono ?_
      rintro e w' ⟨rfl, rfl⟩
      rw [H3.out]
      by_cases n1 : n < a
      · go_wp2_with fail
        refine (clamp 7 3 5 w1).mono ?_
        rintro e w' ⟨rfl, rfl⟩
        rw [show cl 7 3 5 = 5 from rfl]
        go_wp2
        go_ret
        exact ⟨rfl, hb1⟩
      · by_cases n2 : b < n
        · go_wp2_with fail
          refine (clamp 7 3 5 w1).mono ?_
          rintro e w' ⟨rfl, rfl⟩
          rw [show cl 7 3 5 = 5 from rfl]
          go_wp2
          go_ret
          exact ⟨rfl, hb1⟩
        · have hxn : (x == n) = true := by have := H4.out; simp; omega
          go_wp2_with fail
          refine (clamp 7 3 5 w1).mono ?_
          rintro e w' ⟨rfl, rfl⟩
          rw [show cl 7 3 5 = 5 from rfl]
          go_wp2
          go_ret
          exact ⟨rfl, hb1⟩
end Go.Proofs.Ytbfmodoofkgicaa.Clamped
