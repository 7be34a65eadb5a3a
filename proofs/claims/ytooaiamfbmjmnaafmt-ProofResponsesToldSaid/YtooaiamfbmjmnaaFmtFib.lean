/- A number's hexadecimal digits, by the library's own functions. -/
import Derived.Test.YtooaiamfbmjmnaaFmtHxN
import Derived.Deep.QuietTactic
import Derived.BigQuiet
import Derived.Deep.LoopGhost
namespace Go.Proofs.YtooaiamfbmjmnaaFmt
open Go.RowKit

/-- What the table of the library holds at the place that is read. -/
def Bruijn (w : World) : Prop := w.cell? ⟨7, 15, none⟩ = some (.int .u8 4) ∧ 7 < w.heap.size
theorem Bruijn.below {w w' : World} {B : Nat} (h : Bruijn w) (hb : Below B w w') (hB : w.heap.size ≤ B) : Bruijn w' :=
  ⟨by rw [hb.cell (p := ⟨7, 15, none⟩) (Nat.lt_of_lt_of_le h.2 hB)]; exact h.1, by have := h.2; have := hb.size; omega⟩
theorem isPow_16 (w : World) : Calls Tryf.prog 57 #[.int .i64 16] w fun e w' => e = .returned (.bool true) ∧ w' = w := by
  go_enter Tryf.func57, Tryf.ntmps57
  go_wp2
  go_ret
  exact ⟨rfl, rfl⟩
theorem tz64_16 (w : World) (h : Bruijn w) : Calls Tryf.prog 60 #[.int .u64 16] w fun e w' => e = .returned (.int .i64 4) ∧ w' = w := by
  have hi : IntKind.u64.wrap (bits .and .u64 16 (IntKind.u64.wrap (-16)) * 285870213051353865) / 288230376151711744 = 15 := by decide
  have hc := h.1
  go_enter Tryf.func60, Tryf.ntmps60
  go_wp2
  go_ret
  exact ⟨rfl, rfl⟩
theorem tz_16 (w : World) (h : Bruijn w) : Calls Tryf.prog 58 #[.int .u64 16] w fun e w' => e = .returned (.int .i64 4) ∧ w' = w := by
  go_enter Tryf.func58, Tryf.ntmps58
  go_wp2_with fail
  refine (tz64_16 _ h).mono ?_
  rintro e w2 ⟨rfl, rfl⟩
  go_wp2
  go_ret
  exact ⟨rfl, rfl⟩
/-- The cells of the array: noughts, and the digits that are written. -/
theorem row_step {w : World} {B k : Nat} {S : List UInt8} (c : UInt8) (n : Int) (hn : n = c.toNat) (hk : k ≤ 64) (h : Row w B (List.replicate (65 - k) 0 ++ S)) : Row (w.setCell ⟨B, 64 - k, none⟩ (.int .u8 n)) B (List.replicate (65 - (k + 1)) 0 ++ c :: S) := by
  have h1 := h.set (64 - k) c n hn
  have e : (List.replicate (65 - k) 0 ++ S).set (64 - k) c = List.replicate (65 - (k + 1)) 0 ++ c :: S := by
    have e1 : 65 - k = (64 - k) + 1 := by omega
    have e2 : 65 - (k + 1) = 64 - k := by omega
    rw [e1, e2, List.replicate_succ', List.append_assoc, List.set_append_right _ _ (by simp)]
    simp
  rw [e] at h1
  exact h1
theorem dig36 (p : Nat) (h : p < 16) (h2 : p < ({ data := #[48, 49, 50, 51, 52, 53, 54, 55, 56, 57, 97, 98, 99, 100, 101, 102, 103, 104, 105, 106, 107, 108, 109, 110, 111, 112, 113, 114, 115, 116, 117, 118, 119, 120, 121, 122] } : ByteArray).size) : ({ data := #[48, 49, 50, 51, 52, 53, 54, 55, 56, 57, 97, 98, 99, 100, 101, 102, 103, 104, 105, 106, 107, 108, 109, 110, 111, 112, 113, 114, 115, 116, 117, 118, 119, 120, 121, 122] } : ByteArray)[p]'h2 = dig p := by
  have : ∀ p : Fin 16, ({ data := #[48, 49, 50, 51, 52, 53, 54, 55, 56, 57, 97, 98, 99, 100, 101, 102, 103, 104, 105, 106, 107, 108, 109, 110, 111, 112, 113, 114, 115, 116, 117, 118, 119, 120, 121, 122] } : ByteArray)[p.val]'(Nat.lt_trans p.isLt (by decide)) = dig p.val := by decide
  exact this ⟨p, h⟩
theorem conv_from {w : World} {B k : Nat} {S : List UInt8} (h : Row w B (List.replicate (65 - k) 0 ++ S)) (hk : S.length = k) (hk2 : k ≤ 65) (n cap : Nat) (hn : n = k) : (convert 38 9 (.slice (some ⟨B, 65 - k, none⟩) n cap)).run Tryf.prog w = .ok (.string (bs S)) w := by
  subst hn hk
  refine run_convert_bytes_back (P := Tryf.prog) w 38 9 5 ⟨B, 65 - S.length, none⟩ cap S Tryf.underlying38 Tryf.underlying5 Tryf.underlying9 (fun j hj => ?_)
  have := (h (65 - S.length + j) (by simp; omega)).1
  rw [WideShapes.add_plain, this]
  simp
theorem slice65 (W : World) (B m k : Nat) (hm : m + k = 65) (hk : 0 < k) : (Instr.sliceAt 94 (.pointer (some ⟨B, 0, none⟩)) (some (.int .i64 (m : Int))) none none).run Tryf.prog W = .ok (.slice (some ⟨B, m, none⟩) k k) W := by
  have ht : Tryf.prog.underlying 94 = some (.array (Tryf.prog.arrayLen 94) (Tryf.prog.elem 94)) := by kernel_rfl
  have hl : Tryf.prog.arrayLen 94 = 65 := by kernel_rfl
  have he : Tryf.prog.elem 94 = 5 := by kernel_rfl
  have hs : (sizeOf 5).run Tryf.prog W = .ok 1 W := by kernel_rfl
  rw [run_sliceAt_array_l W 94 _ ht .i64 (m : Int) (by omega) (by rw [hl]; omega), he, hs, hl]
  simp only [Result.andThen, slicedAt, Int.toNat_natCast, Nat.mul_one]
  have e : 65 - m = k := by omega
  rw [if_neg (by omega), WideShapes.add_plain, Nat.zero_add, e]
theorem and15 (u : Nat) (hu : u < 9223372036854775808) : bits .and .u64 (u : Int) 15 = ((u % 16 : Nat) : Int) := by
  have := bits_mask .u64 63 (by decide) (fun n h0 h1 => by rw [IntKind.wrap_u64]; omega) 4 (by omega) u (by omega) (by exact_mod_cast hu)
  simpa using this
set_option maxRecDepth 100000 in
set_option maxHeartbeats 2000000 in
theorem fib_any (n : Nat) (hn : n < 9223372036854775808) (w : World) (HD : Hid (Bruijn w)) :
    Calls Tryf.prog 47 #[.slice none 0 0, .int .u64 (n : Int), .int .i64 16, .bool false, .bool false] w fun e w' => e = .returned (.tuple #[.slice none 0 0, .string (bs (hexD n))]) ∧ Below w.heap.size w w' := by
  go_enter Tryf.func47, Tryf.ntmps47
  go_wp2_with fail
  refine (isPow_16 _).mono ?_
  rintro e w1 ⟨rfl, rfl⟩
  have hB0 : Below w.heap.size w (w.alloc (.cells Tryf.zeroCells94 94)) := (Below.refl _ _).alloc (Nat.le_refl _) _
  have hR0 : Row (w.alloc (.cells Tryf.zeroCells94 94)) w.heap.size (List.replicate (65 - 0) 0 ++ []) := by
    have hz : Tryf.zeroCells94 = Array.replicate 65 (.int .u8 0) := by kernel_rfl
    rw [hz]
    intro j hj
    have hj' : j < 65 := by simpa using hj
    refine ⟨?_, ?_⟩
    · rw [World.cell?_alloc_mark]
      have e : (List.replicate (65 - 0) (0 : UInt8) ++ [])[j] = 0 := by
        simp only [List.append_nil]
        exact List.getElem_replicate ..
      rw [e, Array.getElem?_replicate, if_pos hj']
      rfl
    · rw [World.frozen?_alloc_mark]
      simp
  have HB0 : Hid (Below w.heap.size w (w.alloc (.cells Tryf.zeroCells94 94))) := hB0
  have HD0 : Hid (Bruijn (w.alloc (.cells Tryf.zeroCells94 94))) := HD.out.below hB0 (Nat.le_refl _)
  have HR0 : Hid (Row (w.alloc (.cells Tryf.zeroCells94 94)) w.heap.size (List.replicate (65 - 0) 0 ++ [])) := hR0
  clear hB0 hR0
  generalize w.alloc (.cells Tryf.zeroCells94 94) = w0 at HB0 HD0 HR0
  go_wp2_with fail
  refine (tz_16 _ HD0.out).mono ?_
  rintro e w1 ⟨rfl, rfl⟩
  go_wp2
  go_loopw [1, 13] (fun u i wr => ∃ (k uN : Nat) (S : List UInt8), u = .int .u64 (uN : Int) ∧ i = .int .i64 ((65 - k : Nat) : Int) ∧ uN < 9223372036854775808 ∧ k ≤ 15 ∧ Hid (HexAt n k uN S ∧ Row wr w.heap.size (List.replicate (65 - k) 0 ++ S) ∧ Below w.heap.size w wr)) (fun u _ _ => (intOf u).toNat)
  case atStart => exact ⟨0, n, [], rfl, rfl, hn, by omega, ⟨hexAt_start n (by omega), HR0.out, HB0.out⟩⟩
  case round =>
    obtain ⟨k, uN, S, rfl, rfl, hu, hk, HI⟩ := hrel
    obtain ⟨m, hm⟩ : ∃ m : Nat, 65 - k = m + 1 := ⟨64 - k, by omega⟩
    have hm2 : 64 - k = m := by omega
    have hm64 : m ≤ 64 := by omega
    by_cases h16 : 16 ≤ uN
    · have hg : (16 : Int) ≤ (uN : Int) := by omega
      have ha := and15 uN hu
      have hlt : uN % 16 < 16 := Nat.mod_lt _ (by omega)
      have hd := dig36 (uN % 16) hlt (Nat.lt_trans hlt (by decide))
      have hrow := row_step (dig (uN % 16)) ((dig (uN % 16)).toNat : Int) rfl (by omega) HI.out.2.1
      rw [hm2] at hrow
      have hfr := (HI.out.2.1 m (by simp; omega))
      rw [hm]
      go_wp2
      go_roundw
      case rel =>
        exact ⟨k + 1, uN / 16, dig (uN % 16) :: S, by simp, by congr 2; omega, by omega, by have := (hexAt_step HI.out.1 h16).2.2.2; omega, ⟨hexAt_step HI.out.1 h16, hrow, HI.out.2.2.setCell (p := ⟨w.heap.size, m, none⟩) (Nat.le_refl _) _⟩⟩
      case measure => simp [intOf]; omega
    · have hg : ¬ (16 : Int) ≤ (uN : Int) := by omega
      have hlt : uN < 16 := by omega
      have hd := dig36 uN hlt (Nat.lt_trans hlt (by decide))
      have hrow := row_step (dig uN) ((dig uN).toNat : Int) rfl (by omega) HI.out.2.1
      have hN := hexAt_end HI.out.1 hlt
      have hS := HI.out.1.2.1
      have hconv := conv_from hrow (by simp [hS]) (by omega) (k + 1) (k + 1) rfl
      rw [← hN] at hconv
      have e1 : 65 - (k + 1) = m := by omega
      rw [e1, hm2] at hconv
      have hfr := (HI.out.2.1 m (by simp; omega))
      have hz : (65 : Int) - (m : Int) = ((k + 1 : Nat) : Int) := by omega
      have HB : Hid (Below w.heap.size w (wr.setCell ⟨w.heap.size, m, none⟩ (.int .u8 ((dig uN).toNat : Int)))) := HI.out.2.2.setCell (p := ⟨w.heap.size, m, none⟩) (Nat.le_refl _) _
      have hsl := slice65 (wr.setCell ⟨w.heap.size, m, none⟩ (.int .u8 ((dig uN).toNat : Int))) w.heap.size m (k + 1) (by omega) (by omega)
      rw [hm]
      go_wp2
      go_ret2
      exact ⟨rfl, HB.out⟩
end Go.Proofs.YtooaiamfbmjmnaaFmt
