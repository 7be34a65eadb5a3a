/- A number of few bits, as the library reads it: strconv.ParseInt at base 2. -/
import Derived.Test.YthhbfnfgbonakaaFmtBase
namespace Go.Proofs.YthhbfnfgbonakaaFmt
open Go.RowKit

def bval (l : List UInt8) : Nat := l.foldl (fun n c => n * 2 + (c.toNat - 48)) 0
theorem bval_snoc (l : List UInt8) (c : UInt8) : bval (l ++ [c]) = bval l * 2 + (c.toNat - 48) := by simp [bval]
theorem bval_lt : ∀ (l : List UInt8), (∀ c ∈ l, c = 48 ∨ c = 49) → ∀ m, m = l.length → bval l < 2 ^ m := by
  intro l
  suffices h : ∀ r : List UInt8, (∀ c ∈ r, c = 48 ∨ c = 49) → ∀ m, m = r.length → bval r.reverse < 2 ^ m by
    intro hl m hm
    have := h l.reverse (by simpa using hl) m (by simpa using hm)
    simpa using this
  intro r
  induction r with
  | nil => intro _ m hm; subst hm; decide
  | cons c r ih =>
    intro hl m hm
    subst hm
    have h1 := ih (fun x hx => hl x (by simp [hx])) r.length rfl
    rw [List.reverse_cons, bval_snoc, List.length_cons, Nat.pow_succ]
    have h2 : c.toNat - 48 ≤ 1 := by
      rcases hl c (by simp) with rfl | rfl <;> decide
    omega

set_option maxRecDepth 100000 in
set_option maxHeartbeats 800000 in
theorem parseUint_bits (s : ByteArray) (w : World) (h1 : 1 ≤ s.size) (h8 : s.size ≤ 8) (hb : ∀ c ∈ s.data.toList, c = 48 ∨ c = 49) :
    Calls Tryf.prog 58 #[.string s, .int .i64 2, .int .i64 64] w fun e w' => e = .returned (.tuple #[.int .u64 (bval s.data.toList), .nilIface]) ∧ Below w.heap.size w w' := by
  have HB : Hid (∀ c ∈ s.data.toList, c = 48 ∨ c = 49) := hb
  clear hb
  obtain ⟨cap, W1, hconv, hrow, hbel, hsz⟩ := conv_bytes s w
  have HR : Hid (Row W1 w.heap.size s.data.toList) := hrow
  clear hrow
  have hne : s.toList.isEmpty = false := by
    rw [ByteArray.toList_eq]
    cases h : s.data.toList with
    | nil => have : s.data.toList.length = s.size := by simp
             rw [h] at this; simp at this; omega
    | cons a r => rfl
  go_enter Tryf.func58, Tryf.ntmps58
  go_wp2
  obtain ⟨M, hM, hMl⟩ : ∃ M : Int, IntKind.u64.wrap (IntKind.u64.wrap 18446744073709551616 - 1) = M ∧ 1000 ≤ M := ⟨_, rfl, by decide⟩
  rw [hM]
  clear hM
  obtain ⟨C, hC, hCl⟩ : ∃ C : Int, (9223372036854775808 : Int) = C ∧ 1000 ≤ C := ⟨_, rfl, by decide⟩
  rw [hC]
  clear hC hconv hne
  go_loopw [12, 13, 101] (fun u n i wr => ∃ (k : Nat) (x : Int), k ≤ s.size ∧ i = .int .i64 k ∧ u = .bool false ∧ n = .int .u64 x ∧ Hid (x = bval (s.data.toList.take k)) ∧ Hid (Row wr w.heap.size s.data.toList) ∧ Below w.heap.size w wr) (fun _ _ i _ => s.size - (intOf i).toNat)
  case atStart => exact ⟨0, 0, Nat.zero_le _, rfl, rfl, rfl, rfl, HR, hbel⟩
  case round =>
    obtain ⟨k, x, hk, rfl, rfl, rfl, HX, HW, hb⟩ := hrel
    clear HR hbel hsz
    by_cases hlt : k < s.size
    · have hlt' : k < s.data.toList.length := by simpa using hlt
      have hx0 : 0 ≤ x := by have := HX.out; omega
      have hx2 : x < 256 := by
        have e := HX.out
        have := bval_lt (s.data.toList.take k) (fun c hc => HB.out c (List.mem_of_mem_take hc)) k (by simp; omega)
        have h4 : (2 : Nat) ^ k ≤ 2 ^ 8 := Nat.pow_le_pow_right (by decide) (by omega)
        omega
      have hc := HB.out s.data.toList[k] (List.getElem_mem hlt')
      have hcell0 := (HW.out k hlt').1
      have hsn : Hid (s.data.toList.take (k + 1) = s.data.toList.take k ++ [s.data.toList[k]]) := List.take_succ_eq_append_getElem hlt'
      rcases hc with hc | hc
      · have hcell : wr.cell? ⟨w.heap.size, k, none⟩ = some (.int .u8 48) := by rw [hcell0, hc]; rfl
        have HV : Hid (x * 2 = bval (s.data.toList.take (k + 1))) := by
          show _ = _
          rw [hsn.out, bval_snoc, hc, HX.out]; simp
        clear hcell0 hc hsn hlt'
        go_wp2
        go_roundw
        case rel => exact ⟨k + 1, _, by omega, by go_num, rfl, rfl, HV, HW, hb⟩
        case measure => simp [intOf]; omega
      · have hcell : wr.cell? ⟨w.heap.size, k, none⟩ = some (.int .u8 49) := by rw [hcell0, hc]; rfl
        have HV : Hid (x * 2 + 1 = bval (s.data.toList.take (k + 1))) := by
          show _ = _
          rw [hsn.out, bval_snoc, hc, HX.out]; simp
        clear hcell0 hc hsn hlt'
        go_wp2
        go_roundw
        case rel => exact ⟨k + 1, _, by omega, by go_num, rfl, rfl, HV, HW, hb⟩
        case measure => simp [intOf]; omega
    · have hke : s.data.toList.take k = s.data.toList := List.take_of_length_le (by simp; omega)
      have hX2 : x = bval s.data.toList := by rw [← hke]; exact HX
      subst hX2
      clear hke HX
      go_wp2
      go_ret2
      exact ⟨rfl, hb⟩

theorem ret2_int {k : IntKind} {a b : Int} {v : Value} (h : a = b) : Ending.returned (.tuple #[.int k a, v]) = .returned (.tuple #[.int k b, v]) := by rw [h]
theorem wrap_small (y : Int) (h0 : 0 ≤ y) (h1 : y < 256) : wrap64 y = y := by
  unfold wrap64
  omega

set_option maxRecDepth 100000 in
set_option maxHeartbeats 800000 in
theorem iparse_bits (s : ByteArray) (w : World) (h1 : 1 ≤ s.size) (h8 : s.size ≤ 8) (hb : ∀ c ∈ s.data.toList, c = 48 ∨ c = 49) :
    Calls Tryf.prog 35 #[.string s, .int .i64 2, .int .i64 64] w fun e w' => e = .returned (.tuple #[.int .i64 (bval s.data.toList), .nilIface]) ∧ Below w.heap.size w w' := by
  have hne : s.toList.isEmpty = false := by
    rw [ByteArray.toList_eq]
    cases h : s.data.toList with
    | nil => have : s.data.toList.length = s.size := by simp
             rw [h] at this; simp at this; omega
    | cons a r => rfl
  obtain ⟨y, hy⟩ : ∃ y : Int, (bval s.data.toList : Int) = y := ⟨_, rfl⟩
  have hy0 : 0 ≤ y := by omega
  have hyl : y < 256 := by
    have := bval_lt s.data.toList hb s.size (by simp)
    have h4 : (2 : Nat) ^ s.size ≤ 2 ^ 8 := Nat.pow_le_pow_right (by decide) h8
    omega
  have HP : Hid (∀ w : World, Calls Tryf.prog 58 #[.string s, .int .i64 2, .int .i64 64] w fun e w' => e = .returned (.tuple #[.int .u64 y, .nilIface]) ∧ Below w.heap.size w w') := by
    intro w
    have := parseUint_bits s w h1 h8 hb
    rwa [hy] at this
  obtain ⟨c, hc⟩ : ∃ c : UInt8, s[0]'h1 = c := ⟨_, rfl⟩
  have hc2 : c = 48 ∨ c = 49 := by rw [← hc]; exact hb _ (List.getElem_mem _)
  have hy2 : Hid (y = (bval s.data.toList : Int)) := hy.symm
  clear hy hb
  have HY : Hid (0 ≤ y ∧ y < 256) := ⟨hy0, hyl⟩
  clear hy0 hyl
  rcases hc2 with rfl | rfl
  all_goals
    go_enter Tryf.func35, Tryf.ntmps35
    go_wp2_with (go_at_call 58; refine (HP.out _).mono ?_; rintro e w1 ⟨rfl, hb1⟩)
    · have h9 : 9223372036854775808 ≤ y := by assumption
      have := HY.out.2
      omega
    · go_ret2
      exact ⟨ret2_int (by rw [← hy2.out]; exact wrap_small _ HY.out.1 HY.out.2), hb1⟩

set_option maxHeartbeats 400000 in
theorem parse_bits (s : ByteArray) (w : World) (h1 : 1 ≤ s.size) (h8 : s.size ≤ 8) (hb : ∀ c ∈ s.data.toList, c = 48 ∨ c = 49) :
    Calls Tryf.prog 23 #[.string s, .int .i64 2, .int .i64 64] w fun e w' => e = .returned (.tuple #[.int .i64 (bval s.data.toList), .nilIface]) ∧ Below w.heap.size w w' := by
  go_enter Tryf.func23, Tryf.ntmps23
  go_wp2_with fail
  refine (iparse_bits s _ h1 h8 hb).mono ?_
  rintro e w1 ⟨rfl, hb1⟩
  clear hb
  go_wp2
  go_ret2
  exact ⟨rfl, hb1⟩
end Go.Proofs.YthhbfnfgbonakaaFmt
