/- What a challenge is. -/
import Derived.Test.YteldgpkkgnfiaaaGreatDoorTk
namespace Go.Proofs.YteldgpkkgnfiaaaGreatDoor

abbrev Par := ByteArray × ByteArray
structure Chal where
  scheme : ByteArray
  token : ByteArray
  params : List Par
end Go.Proofs.YteldgpkkgnfiaaaGreatDoor
