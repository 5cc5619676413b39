import Derived.Test.YthhakekbffembaaGreatDoorKNcmp

namespace Go.Proofs.YthhakekbffembaaGreatDoor.Ck
open Go.RowKit
def par (k : Nat) : Nat := (k - 1) / 2
end Go.Proofs.YthhakekbffembaaGreatDoor.Ck
