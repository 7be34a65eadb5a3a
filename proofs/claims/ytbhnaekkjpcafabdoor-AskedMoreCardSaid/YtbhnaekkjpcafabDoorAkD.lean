/- What a challenge is. -/
import Derived.Test.YtbhnaekkjpcafabDoorTk
namespace Go.Proofs.YtbhnaekkjpcafabDoor

abbrev Par := ByteArray × ByteArray
structure Chal where
  scheme : ByteArray
  token : ByteArray
  params : List Par
end Go.Proofs.YtbhnaekkjpcafabDoor
