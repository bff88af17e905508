/- Numbers out of a code, as the laws take them; bools as numbers. -/
import Derived.Test.YtpeolcgogidipaaDoorDraw0
import Derived.Test.YtpeolcgogidipaaDoorCellB
namespace Go.Proofs.YtpeolcgogidipaaDoor.Draw
set_option linter.unusedVariables false
open Go.RowKit Go.Proofs.YtpeolcgogidipaaDoor.Base Go.Proofs.YtpeolcgogidipaaDoor.Cell

end Go.Proofs.YtpeolcgogidipaaDoor.Draw
