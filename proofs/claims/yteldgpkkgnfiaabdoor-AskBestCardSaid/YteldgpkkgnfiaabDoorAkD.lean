/- What a challenge is. -/
import Derived.Test.YteldgpkkgnfiaabDoorTk
namespace Go.Proofs.YteldgpkkgnfiaabDoor

abbrev Par := ByteArray × ByteArray
structure Chal where
  scheme : ByteArray
  token : ByteArray
  params : List Par
end Go.Proofs.YteldgpkkgnfiaabDoor
