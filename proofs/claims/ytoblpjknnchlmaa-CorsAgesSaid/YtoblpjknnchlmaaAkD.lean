/- What a challenge is. -/
import Derived.Test.YtoblpjknnchlmaaTk
namespace Go.Proofs.Ytoblpjknnchlmaa

abbrev Par := ByteArray × ByteArray
structure Chal where
  scheme : ByteArray
  token : ByteArray
  params : List Par
end Go.Proofs.Ytoblpjknnchlmaa
