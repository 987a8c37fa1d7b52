/- All that SessionSees and SessionKeeps stand on of the packages below. -/
import Derived.Test.YtepnghacjggkkaaGreatDoorJRE
import Derived.Test.YtepnghacjggkkaaGreatDoorJVCode
import Derived.Test.YtepnghacjggkkaaGreatDoorJLT
namespace Go.Proofs.YtepnghacjggkkaaGreatDoor
end Go.Proofs.YtepnghacjggkkaaGreatDoor
