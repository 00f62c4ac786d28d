/- The reference's may: the contract. -/
import Derived.Test.YtanfolfopalbeabDoorCheck
namespace Go.Proofs.YtanfolfopalbeabDoor
open Go.RowKit

end Go.Proofs.YtanfolfopalbeabDoor
