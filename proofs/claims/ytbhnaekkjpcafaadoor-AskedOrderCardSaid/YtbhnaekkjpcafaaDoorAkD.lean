/- What a challenge is. -/
import Derived.Test.YtbhnaekkjpcafaaDoorTk
namespace Go.Proofs.YtbhnaekkjpcafaaDoor

abbrev Par := ByteArray × ByteArray
structure Chal where
  scheme : ByteArray
  token : ByteArray
  params : List Par
end Go.Proofs.YtbhnaekkjpcafaaDoor
