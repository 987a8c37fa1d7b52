/- All that SessionKeeps calls, by its contracts. -/
import Derived.Test.YtepnghacjggkkaaGreatDoorJKU
import Derived.Test.YtepnghacjggkkaaGreatDoorJKV
import Derived.Test.YtepnghacjggkkaaGreatDoorJKY
import Derived.Test.YtepnghacjggkkaaGreatDoorJVAsFacts
import Derived.Test.YtepnghacjggkkaaGreatDoorJVLaid2
namespace Go.Proofs.YtepnghacjggkkaaGreatDoor
end Go.Proofs.YtepnghacjggkkaaGreatDoor
