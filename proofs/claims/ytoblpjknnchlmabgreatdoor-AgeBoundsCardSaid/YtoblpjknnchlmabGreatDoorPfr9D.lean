/- The passes for a request, each once. -/
import Derived.Test.YtoblpjknnchlmabGreatDoorAdd9
import Derived.Test.YtoblpjknnchlmabGreatDoorLw
namespace Go.Proofs.YtoblpjknnchlmabGreatDoor

theorem addX_len (l : List (ByteArray × ByteArray)) (x : ByteArray × ByteArray) : (addX l x).length ≤ l.length + 1 := by
  unfold addX
  split <;> simp
theorem foldX_len (s : List (ByteArray × ByteArray)) : ∀ (l : List (ByteArray × ByteArray)), (l.foldl addX s).length ≤ s.length + l.length := by
  intro l
  induction l generalizing s with
  | nil => simp
  | cons x r ih =>
    have h1 := ih (addX s x)
    have h2 := addX_len s x
    simp only [List.foldl_cons, List.length_cons]
    omega
theorem foldX_snoc {α : Type} (f : α → ByteArray × ByteArray) (s : List (ByteArray × ByteArray)) {xs : List α} {k : Nat} {x : α} (h : xs[k]? = some x) : ((xs.take (k + 1)).map f).foldl addX s = addX (((xs.take k).map f).foldl addX s) (f x) := by
  obtain ⟨hk, e⟩ := List.getElem?_eq_some_iff.1 h
  rw [List.take_succ_eq_append_getElem hk, List.map_append, List.foldl_append, e]
  rfl
def mX (m : ByteArray) : ByteArray × ByteArray := (m, ⟨#[]⟩)
def hX (h : ByteArray) : ByteArray × ByteArray := (⟨#[]⟩, bs (h.data.toList.map low))
def passM (ms : List ByteArray) : List (ByteArray × ByteArray) := (ms.map mX).foldl addX []
def passL (ms hs : List ByteArray) : List (ByteArray × ByteArray) := (hs.map hX).foldl addX (passM ms)
theorem passM_len (ms : List ByteArray) : (passM ms).length ≤ ms.length := by
  have := foldX_len [] (ms.map mX)
  simpa [passM] using this
theorem passL_len (ms hs : List ByteArray) : (passL ms hs).length ≤ ms.length + hs.length := by
  have h1 := foldX_len (passM ms) (hs.map hX)
  have h2 := passM_len ms
  unfold passL
  rw [List.length_map] at h1
  omega
end Go.Proofs.YtoblpjknnchlmabGreatDoor
