/- All that the five laws of package values rest on. -/
import Derived.Test.YtilonnkohcocoaaGreatDoorJVAddsW
import Derived.Test.YtilonnkohcocoaaGreatDoorJVOfSM
import Derived.Test.YtilonnkohcocoaaGreatDoorJVView2
import Derived.Test.YtilonnkohcocoaaGreatDoorJVOfL
import Derived.Test.YtilonnkohcocoaaGreatDoorJVSetsW
import Derived.Test.YtilonnkohcocoaaGreatDoorJVTurnW
namespace Go.Proofs.YtilonnkohcocoaaGreatDoor
end Go.Proofs.YtilonnkohcocoaaGreatDoor
