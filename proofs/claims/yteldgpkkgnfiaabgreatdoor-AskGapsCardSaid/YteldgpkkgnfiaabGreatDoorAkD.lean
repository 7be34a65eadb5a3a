/- What a challenge is. -/
import Derived.Test.YteldgpkkgnfiaabGreatDoorTk
namespace Go.Proofs.YteldgpkkgnfiaabGreatDoor

abbrev Par := ByteArray × ByteArray
structure Chal where
  scheme : ByteArray
  token : ByteArray
  params : List Par
end Go.Proofs.YteldgpkkgnfiaabGreatDoor
