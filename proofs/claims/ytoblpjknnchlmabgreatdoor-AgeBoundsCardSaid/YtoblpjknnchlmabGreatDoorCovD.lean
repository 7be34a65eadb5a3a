/- What passes allow. -/
import Derived.Test.YtoblpjknnchlmabGreatDoorPsD
import Derived.Test.YtoblpjknnchlmabGreatDoorSmp8
import Derived.Test.YtoblpjknnchlmabGreatDoorMth8
import Derived.Test.YtoblpjknnchlmabGreatDoorAsk8
namespace Go.Proofs.YtoblpjknnchlmabGreatDoor

def authB : List UInt8 := [97, 117, 116, 104, 111, 114, 105, 122, 97, 116, 105, 111, 110]
def okM (wi : Bool) (m : ByteArray) (p : PsV) : Bool := p.me.toList == m.toList || (p.me.toList == [42] && !wi)
def okH (wi : Bool) (n : ByteArray) (p : PsV) : Bool := p.he.toList == n.toList || (p.he.toList == [42] && !wi && !(n.toList == [97, 117, 116, 104, 111, 114, 105, 122, 97, 116, 105, 111, 110]))
def coversL (wi : Bool) (m : ByteArray) (xs : List ByteArray) (l : List PsV) : Bool := (simpleL m.toList || l.any (okM wi m)) && xs.all fun n => l.any (okH wi n)
end Go.Proofs.YtoblpjknnchlmabGreatDoor
