/- The laws' comparison of two lists of texts. -/
import Derived.Test.YtbfmodoofkgicaaDoorMark
namespace Go.Proofs.YtbfmodoofkgicaaDoor.Mark
set_option linter.unusedVariables false
open Go.RowKit Go.Proofs.YtbfmodoofkgicaaDoor.Base

set_option maxRecDepth 100000 in
set_option maxHeartbeats 400000 in
theorem sameTexts (w : World) (A A' : Option Addr) (cap cap' : Nat) (ss : List ByteArray) (hl : ss.length ≤ 1048576) (h1 : RowAt w A (ss.map Value.string)) (h2 : RowAt w A' (ss.map Value.string)) :
    Calls Tryd.prog 19 #[.slice A ss.length cap, .slice A' ss.length cap'] w fun e w' => e = .returned (.bool true) ∧ ∃ q, w' = w.drewN q := by
  obtain ⟨b, off, hA, hc⟩ := h1
  obtain ⟨b', off', hA', hc'⟩ := h2
  have H1 := Lib.hid hA
  have H2 := Lib.hid hA'
  have H3 := Lib.hid hc
  have H4 := Lib.hid hc'
  clear hA hA' hc hc'
  have hnn : (((ss.length : Nat) : Int) != ((ss.length : Nat) : Int)) = false := by simp
  go_enter Tryd.func19, Tryd.ntmps19
  go_wp2_with fail
  go_loopw [5] (fun i wr => ∃ k : Nat, k ≤ ss.length ∧ i = .int .i64 k ∧ ∃ q, wr = w.drewN q) (fun i _ => ss.length - (intOf i).toNat)
  case atStart => exact ⟨0, Nat.zero_le _, rfl, 0, rfl⟩
  case round =>
    obtain ⟨k, hk, rfl, q, rfl⟩ := hrel
    by_cases hlt : k < ss.length
    · obtain ⟨rfl, _⟩ := H1.out (by simpa using (by omega : 0 < ss.length))
      obtain ⟨rfl, _⟩ := H2.out (by simpa using (by omega : 0 < ss.length))
      have hx := H3.out k (.string ss[k]) (by simp [List.getElem?_eq_getElem hlt])
      have hy := H4.out k (.string ss[k]) (by simp [List.getElem?_eq_getElem hlt])
      generalize ss[k] = t at hx hy
      have hq := str_same t
      go_wp2_with fail
      go_quiet (fail)
      go_wp2
      go_roundw
      case rel => exact ⟨k + 1, by omega, by go_num, _, by first | rfl | rw [World.drewN_drewN]⟩
      case measure => (simp [intOf] <;> omega)
    · go_wp2
      go_ret
      exact ⟨rfl, q, rfl⟩

theorem sameRows (w : World) (A A' : Option Addr) (n cap cap' : Nat) (ss : List ByteArray) (hn : ss.length = n) (hl : n ≤ 1048576) (h1 : RowAt w A (ss.map Value.string)) (h2 : RowAt w A' (ss.map Value.string)) :
    Calls Tryd.prog 19 #[.slice A n cap, .slice A' n cap'] w fun e w' => e = .returned (.bool true) ∧ ∃ q, w' = w.drewN q := by
  subst hn
  exact sameTexts w A A' cap cap' ss hl h1 h2
end Go.Proofs.YtbfmodoofkgicaaDoor.Mark
