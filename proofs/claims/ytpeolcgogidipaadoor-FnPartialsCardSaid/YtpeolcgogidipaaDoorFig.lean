/- The model's figure of a digit. -/
import Derived.Test.YtpeolcgogidipaaDoorHexM
namespace Go.Proofs.YtpeolcgogidipaaDoor.Hex
set_option linter.unusedVariables false
open Go.RowKit Go.Proofs.YtpeolcgogidipaaDoor.Base
theorem figure (x : Int) (w : World) (h0 : 0 ≤ x) (h1 : x < 16) :
    Calls Tryd.prog 68 #[.int .i64 x] w fun e w' => e = .returned (.int .u8 (fig x)) ∧ w = w' := by
  unfold fig
  by_cases h : x < 10
  · rw [if_pos h]
    go_enter Tryd.func68, Tryd.ntmps68
    go_wp2
    go_ret
    exact ⟨by go_num, rfl⟩
  · rw [if_neg h]
    go_enter Tryd.func68, Tryd.ntmps68
    go_wp2
    go_ret
    exact ⟨by go_num, rfl⟩

end Go.Proofs.YtpeolcgogidipaaDoor.Hex
