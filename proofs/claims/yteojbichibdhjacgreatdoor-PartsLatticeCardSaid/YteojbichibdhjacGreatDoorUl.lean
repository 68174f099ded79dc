/- Lists of numbers in memory: as in the texts about partitions. -/
import Derived.Test.YteojbichibdhjacGreatDoorUa
import Derived.Test.YteojbichibdhjacGreatDoorJo
import Derived.Test.YteojbichibdhjacGreatDoorLr
namespace Go.Proofs.YteojbichibdhjacGreatDoor
end Go.Proofs.YteojbichibdhjacGreatDoor
