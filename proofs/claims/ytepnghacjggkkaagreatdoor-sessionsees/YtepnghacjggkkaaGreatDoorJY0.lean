/- All that SessionSees and SessionKeeps stand on of the packages below. -/
import Derived.Test.YtepnghacjggkkaaGreatDoorJRE
import Derived.Test.YtepnghacjggkkaaGreatDoorJECode
import Derived.Test.YtepnghacjggkkaaGreatDoorJLT
namespace Go.Proofs.YtepnghacjggkkaaGreatDoor
set_option linter.unusedSectionVars false
variable [Inhabited ComV] [DecidableEq D3] [Inhabited D3] [Inhabited Dd] [Inhabited Dn] [Inhabited OpV]
end Go.Proofs.YtepnghacjggkkaaGreatDoor
