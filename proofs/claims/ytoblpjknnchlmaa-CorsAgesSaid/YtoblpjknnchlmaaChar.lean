/- One byte as a text, by the document's own answer. -/
import Derived.Test.YtoblpjknnchlmaaBase
namespace Go.Proofs.Ytoblpjknnchlmaa
open Go.RowKit

set_option maxHeartbeats 400000 in
theorem char_any (n : Int) (h0 : 0 ≤ n) (h1 : n < 256) (w : World) :
    Calls Try.prog 22 #[.int .i64 n] w fun e w' => e = .returned (.string (bs [UInt8.ofNat n.toNat])) ∧ Below w.heap.size w w' := by
  have hback := run_convert_bytes_back (P := Try.prog) (w.alloc (.cells #[.int .u8 n] 5)) 39 9 5 ⟨w.heap.size, 0, none⟩ 1 [UInt8.ofNat n.toNat] Try.underlying39 Try.underlying5 Try.underlying9 (fun j hj => by
    have : j = 0 := by simpa using hj
    subst this
    simp only [List.getElem_cons_zero, ofNat_back n h0 h1]
    simp [Addr.add])
  have hb : (convert 39 9 (.slice (some ⟨w.heap.size, 0, none⟩) 1 1)).run Try.prog (w.alloc (.cells #[.int .u8 n] 5)) = .ok (.string (bs [UInt8.ofNat n.toNat])) (w.alloc (.cells #[.int .u8 n] 5)) := hback
  clear hback
  go_enter Try.func22, Try.ntmps22
  go_wp2
  go_ret
  exact ⟨rfl, (Below.refl _ _).alloc (Nat.le_refl _) _⟩
/-- The one-byte text, kept from the walk. -/
theorem char_o (n : Int) (h0 : 0 ≤ n) (h1 : n < 256) (w : World) :
    Calls Try.prog 22 #[.int .i64 n] w fun e w' => ∃ o : ByteArray, e = .returned (.string o) ∧ o.size = 1 ∧ Hid (o = bs [UInt8.ofNat n.toNat]) ∧ Below w.heap.size w w' := by
  refine (char_any n h0 h1 w).mono ?_
  rintro e w' ⟨rfl, hb⟩
  exact ⟨_, rfl, by simp [bs_size], rfl, hb⟩
end Go.Proofs.Ytoblpjknnchlmaa
