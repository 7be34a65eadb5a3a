/- What a challenge is. -/
import Derived.Test.YteldgpkkgnfiaaaDoorTk
namespace Go.Proofs.YteldgpkkgnfiaaaDoor

abbrev Par := ByteArray × ByteArray
structure Chal where
  scheme : ByteArray
  token : ByteArray
  params : List Par
end Go.Proofs.YteldgpkkgnfiaaaDoor
