/- Contracts of the drawing of bags, third part: l2DrawIn, DrawTimesIn, DrawWith: new memory; nothing that lay has turned; and of the laws' likeBag. -/
import Derived.Test.YtdpokfjempdchaaGreatDoorDrawBag2
import Derived.Test.YtdpokfjempdchaaGreatDoorLike1
namespace Go.Proofs.YtdpokfjempdchaaGreatDoor
open Go.RowKit

end Go.Proofs.YtdpokfjempdchaaGreatDoor
