/- The letters of a text by the document's own answer, which goes by way of bits. -/
import Derived.Test.YthhbfnfgbonakaaFmtBits
namespace Go.Proofs.YthhbfnfgbonakaaFmt
open Go.RowKit
open Go.Extern.Stop Go.Stop Go.Extern
attribute [local go_sem] call16 fguard fm08b fm08b' op5b

def lenOf : Value → Nat
  | .string o => o.size
  | _ => 0

theorem one48 : ({ data := #[48] } : ByteArray).size = 1 := rfl
theorem one61 : ({ data := #[61] } : ByteArray).size = 1 := rfl
theorem letter_cut (n : Nat) (h : n < 64) : ((#[65, 66, 67, 68, 69, 70, 71, 72, 73, 74, 75, 76, 77, 78, 79, 80, 81, 82, 83, 84, 85, 86, 87, 88, 89, 90, 97, 98, 99, 100, 101, 102, 103, 104, 105, 106, 107, 108, 109, 110, 111, 112, 113, 114, 115, 116, 117, 118, 119, 120, 121, 122, 48, 49, 50, 51, 52, 53, 54, 55, 56, 57, 43, 47] : Array UInt8).toList.drop n).take (n + 1 - n) = [let64 n] := by
  have : ∀ n : Fin 64, ((#[65, 66, 67, 68, 69, 70, 71, 72, 73, 74, 75, 76, 77, 78, 79, 80, 81, 82, 83, 84, 85, 86, 87, 88, 89, 90, 97, 98, 99, 100, 101, 102, 103, 104, 105, 106, 107, 108, 109, 110, 111, 112, 113, 114, 115, 116, 117, 118, 119, 120, 121, 122, 48, 49, 50, 51, 52, 53, 54, 55, 56, 57, 43, 47] : Array UInt8).toList.drop n.val).take (n.val + 1 - n.val) = [let64 n.val] := by decide +kernel
  exact this ⟨n, h⟩

set_option maxRecDepth 100000 in
set_option maxHeartbeats 1600000 in
theorem refBase_any (F : Interp) (s : ByteArray) (w : World) (hF : F.told.answers w.tape) (hs : s.size ≤ 301) :
    Calls Tryf.prog 12 #[.string s] w fun e w' => e = .returned (.string (bs (enc s.data.toList))) ∧ Below w.heap.size w w' := by
  go_enter Tryf.func12, Tryf.ntmps12
  go_wp2
  go_loopw [3, 10] (fun v i wr => ∃ (k : Nat) (o : ByteArray), k ≤ s.size ∧ i = .int .i64 k ∧ v = .string o ∧ o.size = 8 * k ∧ Hid (o = bs (bitsL (s.data.toList.take k))) ∧ Below w.heap.size w wr) (fun _ i _ => s.size - (intOf i).toNat)
  case atStart => exact ⟨0, _, Nat.zero_le _, rfl, rfl, rfl, rfl, Below.refl _ _⟩
  case round =>
    obtain ⟨k, o, hk, rfl, rfl, ho, HO, hb⟩ := hrel
    by_cases hlt : k < s.size
    · obtain ⟨c, hcd⟩ : ∃ c : UInt8, s[k] = c := ⟨_, rfl⟩
      have hcl : (c.toNat : Int) < 256 := by have := c.toNat_lt; omega
      have HS : Hid (s.data.toList.take (k + 1) = s.data.toList.take k ++ [c]) := by rw [← hcd]; exact take_snoc s k hlt
      have ht := congrArg FmtStop.textOf (answers_open (show F.told.answers wr.tape by rw [hb.tape]; exact hF) wr.drawn "fmt.Sprintf" [[37, 48, 56, 98], shape5, digits 8 c.toNat] 0 0)
      rw [told08b F _ c.toNat_lt] at ht
      obtain ⟨t, hT⟩ : ∃ t : ByteArray, bs (bits8 c.toNat) = t := ⟨_, rfl⟩
      have HT : Hid (t = bs (bits8 c.toNat)) := hT.symm
      rw [hT] at ht
      clear hT
      have htz : t.size = 8 := by rw [HT.out]; rfl
      go_wp2
      go_roundw
      case rel => exact ⟨k + 1, o ++ t, by omega, by go_num, rfl, by simp [ho, htz]; omega, by show o ++ t = _; rw [HS.out, bitsL_snoc, bs_append, HO.out, HT.out], (hb.alloc hb.size _).drew⟩
      case measure => simp [intOf]; omega
    · have hke : s.data.toList.take k = s.data.toList := List.take_of_length_le (by simp; omega)
      have HO2 : Hid (o = bs (bitsL s.data.toList ++ List.replicate 0 48)) := by rw [List.replicate_zero, List.append_nil, ← hke]; exact HO
      have hoz : o.size ≤ 2408 := by omega
      clear hke HO ho
      have HF : Hid (F.told.answers wr.tape) := by rw [hb.tape]; exact hF
      go_wp2
      go_loop [3] (fun v => ∃ (o : ByteArray) (j : Nat), v = .string o ∧ o.size ≤ 2413 ∧ Hid (o = bs (bitsL s.data.toList ++ List.replicate j 48) ∧ j ≤ zN s.data.toList)) (fun v => 3000 - lenOf v)
      case atStart => exact ⟨o, 0, rfl, by omega, HO2, Nat.zero_le _⟩
      case round =>
        obtain ⟨o1, j, rfl, ho1, H1⟩ := hrel
        have hz := zN_mod s.data.toList
        have hlen : o1.size = 8 * s.size + j := by rw [H1.out.1, bs_size, List.length_append, bitsL_length]; simp
        have hsl : s.data.toList.length = s.size := by simp
        clear HO2
        by_cases hm : o1.size % 6 = 0
        · have hj : j = zN s.data.toList := by have := H1.out.2; omega
          have H2 : Hid (o1.data.toList = bitsL s.data.toList ++ List.replicate (zN s.data.toList) 48) := by
            show _ = _
            rw [H1.out.1, bs_data, hj]
          have H3 : Hid (o1.size % 6 = 0 ∧ ∀ c ∈ o1.data.toList, c = 48 ∨ c = 49) := by
            refine ⟨hm, ?_⟩
            rw [H2.out]
            intro c hc
            rcases List.mem_append.1 hc with hc | hc
            · exact bitsL_01 _ c hc
            · exact .inl (List.eq_of_mem_replicate hc)
          clear hj H1 hlen hsl hz
          go_wp2
          go_loopw [3, 5] (fun v3 v5 wr => ∃ (b o : ByteArray), v3 = .string b ∧ v5 = .string o ∧ b.size ≤ 2413 ∧ o.size ≤ 500 ∧ Hid (o.data.toList ++ six b.data.toList = core s.data.toList ∧ b.size % 6 = 0 ∧ ∀ c ∈ b.data.toList, c = 48 ∨ c = 49) ∧ Below w.heap.size w wr) (fun v _ _ => lenOf v)
          case atStart => exact ⟨o1, _, rfl, rfl, ho1, by decide, ⟨by rw [H2.out]; exact six_core _, H3.out.1, H3.out.2⟩, hb⟩
          case round =>
            clear H2 H3 ho1 hm hb
            obtain ⟨b, o2, rfl, rfl, hbz, hoz2, HI, hb⟩ := hrel
            by_cases hbe : b.size = 0
            · have hbn : b.toList.isEmpty = true := by
                rw [ByteArray.toList_eq, List.isEmpty_iff, ← List.length_eq_zero_iff]
                simpa using hbe
              have hdat : b.data.toList = [] := by rw [← List.length_eq_zero_iff]; simpa using hbe
              have H4 : Hid (o2.data.toList = core s.data.toList) := by
                have := HI.out.1
                rw [hdat] at this
                show _ = _
                simpa [six] using this
              obtain ⟨pn, hp1, hp2, hp3⟩ := pad_rep s.data.toList
              have HPd : Hid (pad s.data.toList = List.replicate pn 61 ∧ pn ≤ 2 ∧ ((core s.data.toList).length + pn) % 4 = 0) := ⟨hp1, hp2, hp3⟩
              clear hdat HI hp1 hp2 hp3
              go_wp2
              go_loop [5] (fun v => ∃ (o : ByteArray) (j : Nat), v = .string o ∧ o.size ≤ 505 ∧ Hid (o.data.toList = core s.data.toList ++ List.replicate j 61 ∧ j ≤ pn)) (fun v => 3000 - lenOf v)
              case atStart => exact ⟨o2, 0, rfl, by omega, by rw [List.replicate_zero, List.append_nil]; exact H4, Nat.zero_le _⟩
              case round =>
                obtain ⟨o3, j, rfl, ho3, H5⟩ := hrel
                have hlen : o3.size = (core s.data.toList).length + j := by rw [Lib.size_eq, H5.out.1]; simp
                have hpz := HPd.out.2
                have hj := H5.out.2
                have hcl := core_len s.data.toList
                have hsl : s.data.toList.length = s.size := by simp
                by_cases hm : o3.size % 4 = 0
                · have H6 : Hid (o3 = bs (enc s.data.toList)) := by
                    show _ = _
                    rw [enc_core, HPd.out.1, show pn = j by omega, ← H5.out.1, bs_self]
                  clear hlen hpz hj hcl hsl H5
                  go_wp2
                  go_ret
                  exact ⟨ret_str H6.out, hb⟩
                · have HJ : Hid (j + 1 ≤ pn ∧ o3.size ≤ 504) := ⟨by omega, by omega⟩
                  have ho4 : o3.size ≤ 504 := HJ.out.2
                  clear hlen hpz hj hcl hsl
                  go_wp2
                  go_round
                  case rel => exact ⟨o3 ++ { data := #[61] }, j + 1, rfl, by rw [ByteArray.size_append, one61]; omega, by
                    show _ ∧ _
                    refine ⟨?_, HJ.out.1⟩
                    rw [ByteArray.data_append, Array.toList_append, H5.out.1, List.replicate_succ', List.append_assoc]⟩
                  case measure => show 3000 - (o3 ++ { data := #[61] }).size < 3000 - o3.size; rw [ByteArray.size_append, one61]; omega
            · have hbn : b.toList.isEmpty = false := by
                rw [ByteArray.toList_eq]
                cases h : b.data.toList with
                | nil => have : b.data.toList.length = b.size := by simp
                         rw [h] at this; simp at this; omega
                | cons a r => rfl
              have hb6 : 6 ≤ b.size := by have := HI.out.2.1; omega
              obtain ⟨p, hp⟩ : ∃ p : ByteArray, b.extract 0 6 = p := ⟨_, rfl⟩
              obtain ⟨r, hr⟩ : ∃ r : ByteArray, b.extract 6 b.size = r := ⟨_, rfl⟩
              have hpl : p.data.toList = b.data.toList.take 6 := by rw [← hp, Lib.extract_data]; rfl
              have hrl : r.data.toList = b.data.toList.drop 6 := by rw [← hr, Lib.extract_data]; exact List.take_of_length_le (by simp)
              have hbl : b.data.toList.length = b.size := by simp
              have hp6 : p.size = 6 := by rw [Lib.size_eq, hpl]; simp; omega
              have hrz : r.size = b.size - 6 := by rw [Lib.size_eq, hrl]; simp
              have hp01 : ∀ c ∈ p.data.toList, c = 48 ∨ c = 49 := by rw [hpl]; exact fun c hc => HI.out.2.2 c (List.mem_of_mem_take hc)
              obtain ⟨y, hy⟩ : ∃ y : Int, (bval p.data.toList : Int) = y := ⟨_, rfl⟩
              have hyl := bval_lt p.data.toList hp01 6 (by rw [hpl]; simp; omega)
              have hy0 : 0 ≤ y := by omega
              have hy1 : y < 64 := by omega
              have HP : Hid (∀ w : World, Calls Tryf.prog 23 #[.string p, .int .i64 2, .int .i64 64] w fun e w' => e = .returned (.tuple #[.int .i64 y, .nilIface]) ∧ Below w.heap.size w w') := by
                intro w
                have := parse_bits p w (by omega) (by omega) hp01
                rwa [hy] at this
              obtain ⟨t, ht⟩ : ∃ t : ByteArray, ({ data := #[65, 66, 67, 68, 69, 70, 71, 72, 73, 74, 75, 76, 77, 78, 79, 80, 81, 82, 83, 84, 85, 86, 87, 88, 89, 90, 97, 98, 99, 100, 101, 102, 103, 104, 105, 106, 107, 108, 109, 110, 111, 112, 113, 114, 115, 116, 117, 118, 119, 120, 121, 122, 48, 49, 50, 51, 52, 53, 54, 55, 56, 57, 43, 47] } : ByteArray).extract y.toNat (y + 1).toNat = t := ⟨_, rfl⟩
              have HT : Hid (t.data.toList = [let64 (bval (b.data.toList.take 6))]) := by
                show _ = _
                have e : y.toNat = bval (b.data.toList.take 6) := by rw [← hpl]; omega
                have e2 : (y + 1).toNat = y.toNat + 1 := by omega
                rw [← ht, Lib.extract_data, e2, ← e]
                exact letter_cut y.toNat (by omega)
              have htz : t.size = 1 := by rw [Lib.size_eq, HT.out]; rfl
              have HN : Hid ((o2 ++ t).data.toList ++ six r.data.toList = core s.data.toList ∧ r.size % 6 = 0 ∧ ∀ c ∈ r.data.toList, c = 48 ∨ c = 49) := by
                refine ⟨?_, by have := HI.out.2.1; omega, ?_⟩
                · rw [← HI.out.1, six_step b.data.toList (by omega), hrl]
                  simp [HT.out]
                · rw [hrl]; exact fun c hc => HI.out.2.2 c (List.mem_of_mem_drop hc)
              have ho3 : (o2 ++ t).size ≤ 500 := by
                have e := congrArg List.length HN.out.1
                have e2 := core_len s.data.toList
                have e3 : (o2 ++ t).data.toList.length = (o2 ++ t).size := by simp
                have e4 : s.data.toList.length = s.size := by simp
                rw [List.length_append] at e
                omega
              clear hpl hrl hbl hp01 hy hyl HI
              go_wp2_with (go_at_call 23; refine (HP.out _).mono ?_; rintro e w2 ⟨rfl, hb2⟩)
              go_roundw
              case rel => exact ⟨r, o2 ++ t, rfl, rfl, by omega, ho3, HN, hb.trans (hb2.mono hb.size)⟩
              case measure => show r.size < b.size; omega
        · have hj : j < zN s.data.toList := by
            rcases Nat.lt_or_ge j (zN s.data.toList) with h | h
            · exact h
            · have := H1.out.2
              have : j = zN s.data.toList := by omega
              omega
          have HJ : Hid (j < zN s.data.toList) := hj
          have ho2 : o1.size ≤ 2412 := by omega
          clear hj hlen hsl hz
          go_wp2
          go_round
          case rel => exact ⟨o1 ++ { data := #[48] }, j + 1, rfl, by rw [ByteArray.size_append, one48]; omega, by
            show _ ∧ _
            rw [H1.out.1, show ({ data := #[48] } : ByteArray) = bs [48] from rfl, ← bs_append, List.append_assoc, List.replicate_succ']
            exact ⟨rfl, HJ⟩⟩
          case measure => show 3000 - (o1 ++ { data := #[48] }).size < 3000 - o1.size; rw [ByteArray.size_append, one48]; omega
end Go.Proofs.YthhbfnfgbonakaaFmt
