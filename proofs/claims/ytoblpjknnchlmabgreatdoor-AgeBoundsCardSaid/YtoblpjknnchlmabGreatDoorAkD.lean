/- What a challenge is. -/
import Derived.Test.YtoblpjknnchlmabGreatDoorTk
namespace Go.Proofs.YtoblpjknnchlmabGreatDoor

abbrev Par := ByteArray × ByteArray
structure Chal where
  scheme : ByteArray
  token : ByteArray
  params : List Par
end Go.Proofs.YtoblpjknnchlmabGreatDoor
