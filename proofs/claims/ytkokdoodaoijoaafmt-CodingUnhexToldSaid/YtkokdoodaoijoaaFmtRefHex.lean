/- The digits of a text by the document's own answer, which asks fmt for two digits of each byte. -/
import Derived.Test.YtkokdoodaoijoaaFmtFmt
import Derived.Test.YtkokdoodaoijoaaFmtHex
namespace Go.Proofs.YtkokdoodaoijoaaFmt
open Go.RowKit
open Go.Extern.Stop Go.Stop Go.Extern
attribute [local go_sem] call16 fguard fm02x fm02x' op5x

set_option maxRecDepth 100000 in
set_option maxHeartbeats 800000 in
theorem refHex_any (F : Interp) (s : ByteArray) (w : World) (hF : F.told.answers w.tape) (hs : s.size ≤ 300) :
    Calls Tryf.prog 8 #[.string s] w fun e w' => e = .returned (.string (bs (hexL s.data.toList))) ∧ Below w.heap.size w w' := by
  go_enter Tryf.func8, Tryf.ntmps8
  go_wp2
  go_loopw [3, 7] (fun v i wr => ∃ (k : Nat) (o : ByteArray), k ≤ s.size ∧ i = .int .i64 k ∧ v = .string o ∧ o.size = 2 * k ∧ Hid (o = bs (hexL (s.data.toList.take k))) ∧ Below w.heap.size w wr) (fun _ i _ => s.size - (intOf i).toNat)
  case atStart => exact ⟨0, _, Nat.zero_le _, rfl, rfl, rfl, rfl, Below.refl _ _⟩
  case round =>
    obtain ⟨k, o, hk, rfl, rfl, ho, HO, hb⟩ := hrel
    by_cases hlt : k < s.size
    · obtain ⟨c, hcd⟩ : ∃ c : UInt8, s[k] = c := ⟨_, rfl⟩
      have hcl : (c.toNat : Int) < 256 := by have := c.toNat_lt; omega
      have HS : Hid (s.data.toList.take (k + 1) = s.data.toList.take k ++ [c]) := by rw [← hcd]; exact take_snoc s k hlt
      have ht := congrArg FmtStop.textOf (answers_open (show F.told.answers wr.tape by rw [hb.tape]; exact hF) wr.drawn "fmt.Sprintf" [[37, 48, 50, 120], shape5, digits 8 c.toNat] 0 0)
      rw [told02x F _ c.toNat_lt] at ht
      obtain ⟨t, hT⟩ : ∃ t : ByteArray, bs (hex2 c.toNat) = t := ⟨_, rfl⟩
      have HT : Hid (t = bs (hex2 c.toNat)) := hT.symm
      rw [hT] at ht
      clear hT
      have htz : t.size = 2 := by rw [HT.out]; rfl
      go_wp2
      go_roundw
      case rel => exact ⟨k + 1, o ++ t, by omega, by go_num, rfl, by simp [ho, htz]; omega, by show o ++ t = _; rw [HS.out, hexL_append, bs_append, HO.out, HT.out]; rfl, (hb.alloc hb.size _).drew⟩
      case measure => simp [intOf]; omega
    · go_wp2
      go_ret
      exact ⟨ret_str (by rw [HO.out, List.take_of_length_le (by simp; omega)]), hb⟩
end Go.Proofs.YtkokdoodaoijoaaFmt
