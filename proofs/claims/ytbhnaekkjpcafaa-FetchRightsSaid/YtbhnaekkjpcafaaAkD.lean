/- What a challenge is. -/
import Derived.Test.YtbhnaekkjpcafaaTk
namespace Go.Proofs.Ytbhnaekkjpcafaa

abbrev Par := ByteArray × ByteArray
structure Chal where
  scheme : ByteArray
  token : ByteArray
  params : List Par
end Go.Proofs.Ytbhnaekkjpcafaa
