/- What a challenge is. -/
import Derived.Test.YtooaiamfbmjmnaaGreatDoorTk
namespace Go.Proofs.YtooaiamfbmjmnaaGreatDoor

abbrev Par := ByteArray × ByteArray
structure Chal where
  scheme : ByteArray
  token : ByteArray
  params : List Par
end Go.Proofs.YtooaiamfbmjmnaaGreatDoor
