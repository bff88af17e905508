/- Numbers out of a code, as the laws take them; bools as numbers. -/
import Derived.Test.YtocjnplbjdpieaaDraw0
import Derived.Test.YtocjnplbjdpieaaCellB
namespace Go.Proofs.Ytocjnplbjdpieaa.Draw
set_option linter.unusedVariables false
open Go.RowKit Go.Proofs.Ytocjnplbjdpieaa.Base Go.Proofs.Ytocjnplbjdpieaa.Cell

set_option maxHeartbeats 400000 in
theorem btoi (b : Bool) (w : World) :
    Calls Try.prog 18 #[.bool b] w fun e w' => e = .returned (.int .i64 (if b then 1 else 0)) ∧ w' = w := by
  cases b
  all_goals
    go_enter Try.func18, Try.ntmps18
    go_wp2
    go_ret
    exact ⟨rfl, rfl⟩
end Go.Proofs.Ytocjnplbjdpieaa.Draw
