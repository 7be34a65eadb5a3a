/- A text in small letters by the program, told as a list of bytes. -/
import Derived.Test.YtoblpjknnchlmabGreatDoorBase
namespace Go.Proofs.YtoblpjknnchlmabGreatDoor
open Go.RowKit

def low (c : UInt8) : UInt8 := if 65 ≤ c ∧ c ≤ 90 then c + 32 else c
theorem low_in (c : UInt8) (h : 65 ≤ (c.toNat : Int) ∧ (c.toNat : Int) ≤ 90) : UInt8.ofNat ((c.toNat : Int) + 32).toNat = low c := by
  have h1 : 65 ≤ c := by rw [UInt8.le_iff_toNat_le]; have : (65 : UInt8).toNat = 65 := rfl; omega
  have h2 : c ≤ 90 := by rw [UInt8.le_iff_toNat_le]; have : (90 : UInt8).toNat = 90 := rfl; omega
  unfold low
  rw [if_pos ⟨h1, h2⟩]
  apply UInt8.toNat_inj.1
  have := c.toNat_lt
  simp only [UInt8.toNat_ofNat', UInt8.toNat_add]
  have : (32 : UInt8).toNat = 32 := rfl
  omega
theorem low_out (c : UInt8) (h : ¬ (65 ≤ (c.toNat : Int) ∧ (c.toNat : Int) ≤ 90)) : low c = c := by
  unfold low
  rw [if_neg]
  rintro ⟨h1, h2⟩
  rw [UInt8.le_iff_toNat_le] at h1 h2
  have : (65 : UInt8).toNat = 65 := rfl
  have : (90 : UInt8).toNat = 90 := rfl
  omega
theorem step_set (f : UInt8 → UInt8) (l : List UInt8) (k : Nat) (c : UInt8) (h : k < l.length) (hc : l[k] = c) : ((l.take k).map f ++ l.drop k).set k (f c) = (l.take (k + 1)).map f ++ l.drop (k + 1) := by
  subst hc
  have e1 : ((l.take k).map f).length = k := by simp; omega
  rw [List.drop_eq_getElem_cons h, List.set_append_right _ _ (by omega), e1, Nat.sub_self, List.set_cons_zero, List.take_succ_eq_append_getElem h, List.map_append, List.append_assoc]
  rfl
theorem step_at (f : UInt8 → UInt8) (l : List UInt8) (k : Nat) (h : k < l.length) (h2 : k < ((l.take k).map f ++ l.drop k).length) : ((l.take k).map f ++ l.drop k)[k] = l[k] := by
  have e1 : ((l.take k).map f).length = k := by simp; omega
  rw [List.getElem_append_right (by omega)]
  simp only [List.getElem_drop, e1, Nat.sub_self, Nat.add_zero]
theorem step_same (f : UInt8 → UInt8) (l : List UInt8) (k : Nat) (c : UInt8) (h : k < l.length) (hc : l[k] = c) (hf : f c = c) : (l.take k).map f ++ l.drop k = (l.take (k + 1)).map f ++ l.drop (k + 1) := by
  subst hc
  rw [List.drop_eq_getElem_cons h, List.take_succ_eq_append_getElem h, List.map_append, List.append_assoc, List.map_cons, hf]
  rfl
theorem low_num (c : UInt8) (h : 65 ≤ (c.toNat : Int) ∧ (c.toNat : Int) ≤ 90) : (c.toNat : Int) + 32 = (low c).toNat := by
  rw [← low_in c h, ofNat_back _ (by omega) (by omega)]

set_option maxHeartbeats 400000 in
theorem lower_any (s : ByteArray) (w : World) (hs : s.size ≤ 20000) :
    Calls Tryz.prog 66 #[.string s] w fun e w' => e = .returned (.string (bs (s.data.toList.map low))) ∧ Below w.heap.size w w' := by
  obtain ⟨cap, W1, hconv, hrow, hbel, hsz⟩ := conv_bytes s w
  have HR : Hid (Row W1 w.heap.size s.data.toList) := hrow
  clear hrow
  go_enter Tryz.func66, Tryz.ntmps66
  go_wp2
  go_loopw [9] (fun i wr => ∃ (k : Nat), k ≤ s.size ∧ i = .int .i64 k ∧ Hid (Row wr w.heap.size ((s.data.toList.take k).map low ++ s.data.toList.drop k)) ∧ Below w.heap.size w wr ∧ wr.heap.size = w.heap.size + 1) (fun i _ => s.size - (intOf i).toNat)
  case atStart => exact ⟨0, Nat.zero_le _, rfl, HR, hbel, hsz⟩
  case round =>
    obtain ⟨k, hk, rfl, HW, hb, hz⟩ := hrel
    by_cases hlt : k < s.size
    · have hlt' : k < s.data.toList.length := by simpa using hlt
      obtain ⟨c, hcd⟩ : ∃ c : UInt8, s.data.toList[k] = c := ⟨_, rfl⟩
      have HC : Hid (s.data.toList[k] = c) := hcd
      have hcl : (c.toNat : Int) < 256 := by have := c.toNat_lt; omega
      have hlen : k < ((s.data.toList.take k).map low ++ s.data.toList.drop k).length := by simp; omega
      have hcell : wr.cell? ⟨w.heap.size, k, none⟩ = some (.int .u8 c.toNat) := by
        rw [← hcd, ← step_at low s.data.toList k hlt' hlen]; exact (HW.out k hlen).1
      have hfro : wr.frozen? ⟨w.heap.size, k, none⟩ = false := (HW.out k hlen).2
      clear hconv HR hbel hsz hcd hlen
      by_cases h1 : 65 ≤ (c.toNat : Int)
      · by_cases h2 : (c.toNat : Int) ≤ 90
        · go_wp2
          go_roundw
          case rel => exact ⟨k + 1, by omega, by go_num, by rw [← step_set low _ k c hlt' HC.out]; exact HW.out.set k _ _ (low_num c ⟨h1, h2⟩), hb.setCell (Nat.le_refl _) _, by simp [World.setCell, hz]⟩
          case measure => simp [intOf]; omega
        · go_wp2
          go_roundw
          case rel => exact ⟨k + 1, by omega, by go_num, by rw [← step_same low _ k c hlt' HC.out (low_out c (by omega))]; exact HW, hb, hz⟩
          case measure => simp [intOf]; omega
      · go_wp2
        go_roundw
        case rel => exact ⟨k + 1, by omega, by go_num, by rw [← step_same low _ k c hlt' HC.out (low_out c (by omega))]; exact HW, hb, hz⟩
        case measure => simp [intOf]; omega
    · have hke : k = s.size := by omega
      have hend : (s.data.toList.take k).map low ++ s.data.toList.drop k = s.data.toList.map low := by
        rw [List.take_of_length_le (by simp; omega), List.drop_of_length_le (by simp; omega), List.append_nil]
      have hrow : Row wr w.heap.size (s.data.toList.map low) := by rw [← hend]; exact HW.out
      have hback := conv_back hrow s.size cap (by simp)
      clear hend hrow HW hke hconv HR hbel hsz
      go_wp2
      go_ret
      exact ⟨rfl, hb⟩
end Go.Proofs.YtoblpjknnchlmabGreatDoor
