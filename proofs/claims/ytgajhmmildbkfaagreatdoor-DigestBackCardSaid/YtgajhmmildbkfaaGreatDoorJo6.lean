/- Texts of one claim, joined: each begins with what it proves. -/
import Derived.Test.YtgajhmmildbkfaaGreatDoorJo5
import Derived.Test.YtgajhmmildbkfaaGreatDoorJo3
import Derived.Test.YtgajhmmildbkfaaGreatDoorJo4
import Derived.Deep.Cut
import Derived.Deep.QuietTactic
import Derived.BigQuiet
import Derived.Deep.Draws
import Derived.Deep.LoopGhost
import Derived.Deep.DeepCutAuto
/- The header by user and password, by the program. -/
namespace Go.Proofs.YtgajhmmildbkfaaGreatDoor
open Go.RowKit Go.Shelf

/-- A byte that may not stand in a name or a password. -/
def ctlB (c : UInt8) : Bool := decide (c.toNat < 32) || c == 127
/-- Such a byte stands in a text. -/
def ctlL (l : List UInt8) : Bool := l.any ctlB
theorem ctlL_append (a b : List UInt8) : ctlL (a ++ b) = (ctlL a || ctlL b) := List.any_append ..
def basW : List UInt8 := [66, 97, 115, 105, 99, 32]
def credL (u p : List UInt8) : List UInt8 := u ++ 58 :: p
/-- The header, or the error's number. -/
def basO (u p : List UInt8) : Except Nat (List UInt8) :=
  if 58 ∈ u then .error 1 else if ctlL (u ++ p) then .error 3 else .ok (basW ++ enc (credL u p))
set_option maxRecDepth 100000 in
set_option maxHeartbeats 1000000 in
theorem ctl_any (s : ByteArray) (hs : s.size ≤ 5000) (w : World) :
    Calls Tryz.prog 40 #[.string s] w fun e w' => e = .returned (.bool (ctlL s.data.toList)) ∧ w' = w := by
  have hsl : s.data.toList.length = s.size := Array.length_toList
  go_enter Tryz.func40, Tryz.ntmps40
  go_wp2
  go_loop [6] (fun i => ∃ (k : Nat), k ≤ s.size ∧ i = .int .i64 k ∧ Hid (ctlL (s.data.toList.take k) = false)) (fun i => s.size - (intOf i).toNat)
  case atStart => exact ⟨0, Nat.zero_le _, rfl, rfl⟩
  case round =>
    obtain ⟨k, hk, rfl, HK⟩ := hrel
    by_cases hlt : k < s.size
    · obtain ⟨c, hcd⟩ : ∃ c : UInt8, s[k] = c := ⟨_, rfl⟩
      have hcl : (c.toNat : Int) < 256 := by have := c.toNat_lt; omega
      have HS : Hid (s.data.toList.take (k + 1) = s.data.toList.take k ++ [c]) := by rw [← hcd]; exact take_snoc s k hlt
      have HM : Hid (c ∈ s.data.toList) := by rw [← hcd]; exact List.getElem_mem (l := s.data.toList) (by omega)
      by_cases h1 : (c.toNat : Int) < 32
      · have HY : Hid (ctlL s.data.toList = true) := List.any_eq_true.2 ⟨c, HM.out, by simp [ctlB]; omega⟩
        go_wp2
        go_ret
        exact ⟨by rw [HY.out]; rfl, rfl⟩
      · by_cases h2 : (c.toNat : Int) = 127
        · have HY : Hid (ctlL s.data.toList = true) := List.any_eq_true.2 ⟨c, HM.out, by
            have : c = 127 := by
              rw [← UInt8.toNat_inj]
              show c.toNat = 127
              omega
            subst this
            decide⟩
          go_wp2
          go_ret
          exact ⟨by rw [HY.out]; rfl, rfl⟩
        · have HN : Hid (ctlL (s.data.toList.take (k + 1)) = false) := by
            show _ = _
            rw [HS.out, ctlL_append, HK.out]
            have h3 : c ≠ 127 := fun e => h2 (by rw [e]; rfl)
            simp [ctlL, ctlB, h3]
            omega
          have h2' : ((c.toNat : Int) == 127) = false := by simp [h2]
          go_wp2
          go_round
          case rel => exact ⟨k + 1, by omega, by go_num, HN⟩
          case measure => simp [intOf]; omega
    · have HN : Hid (ctlL s.data.toList = false) := by
        show _ = _
        have := HK.out
        rw [List.take_of_length_le (by omega)] at this
        exact this
      go_wp2
      go_ret
      exact ⟨by rw [HN.out]; rfl, rfl⟩
theorem index_one (s : ByteArray) (c : UInt8) (w : World) :
    Calls Tryz.prog 69 #[.string s, .string ⟨#[c]⟩] w fun e w' => e = .returned (.int .i64 (ixOf s.data.toList c)) ∧ w' = w := by
  go_enter Tryz.func69, Tryz.ntmps69
  go_wp2_with fail
  refine (index_at s c _).mono ?_
  rintro e w' ⟨rfl, rfl⟩
  go_wp2
  go_ret
  exact ⟨rfl, rfl⟩
theorem has_one (s : ByteArray) (c : UInt8) (w : World) :
    Calls Tryz.prog 39 #[.string s, .string ⟨#[c]⟩] w fun e w' => e = .returned (.bool (decide (c ∈ s.data.toList))) ∧ w' = w := by
  have hx := index_one s c
  rcases ixOf_first s.data.toList c with ⟨hi, hno⟩ | ⟨k, hk, hi, hno, hsp⟩
  · have HN : Hid (decide (c ∈ s.data.toList) = false) := decide_eq_false hno
    rw [hi] at hx
    clear hno
    go_enter Tryz.func39, Tryz.ntmps39
    go_wp2_with fail
    refine (hx _).mono ?_
    rintro e w' ⟨rfl, rfl⟩
    go_wp2
    go_ret
    exact ⟨by rw [HN.out]; rfl, rfl⟩
  · have HN : Hid (decide (c ∈ s.data.toList) = true) := decide_eq_true (by rw [hsp]; simp)
    rw [hi] at hx
    clear hno hsp
    have hk0 : (0 : Int) ≤ (k : Int) := by omega
    go_enter Tryz.func39, Tryz.ntmps39
    go_wp2_with fail
    refine (hx _).mono ?_
    rintro e w' ⟨rfl, rfl⟩
    go_wp2
    go_ret
    exact ⟨by rw [HN.out]; simp, rfl⟩
/-- What Basic answers. -/
def BasAns (u p : List UInt8) (e : Ending) : Prop :=
  match basO u p with
  | .ok t => e = .returned (.tuple #[.string (bs t), .nilIface])
  | .error n => e = .returned (.tuple #[.string ⟨#[]⟩, .iface 64 (.int .i64 (n : Int))])
theorem basAns_one {u p : List UInt8} {e : Ending} (h : 58 ∈ u) (he : e = .returned (.tuple #[.string ⟨#[]⟩, .iface 64 (.int .i64 1)])) : BasAns u p e := by
  unfold BasAns basO
  rw [if_pos h]
  exact he
theorem basAns_three {u p : List UInt8} {e : Ending} (h : 58 ∉ u) (hc : ctlL (u ++ p) = true) (he : e = .returned (.tuple #[.string ⟨#[]⟩, .iface 64 (.int .i64 3)])) : BasAns u p e := by
  unfold BasAns basO
  rw [if_neg h, if_pos hc]
  exact he
theorem basAns_ok {u p : List UInt8} {e : Ending} (h : 58 ∉ u) (hc : ctlL (u ++ p) = false) (he : e = .returned (.tuple #[.string (bs (basW ++ enc (credL u p))), .nilIface])) : BasAns u p e := by
  unfold BasAns basO
  rw [if_neg h, if_neg (by rw [hc]; simp)]
  exact he
set_option maxRecDepth 100000 in
set_option maxHeartbeats 2000000 in
theorem basic_any (u p : ByteArray) (hz : u.size + p.size ≤ 900) (w : World) :
    Calls Tryz.prog 15 #[.agg #[.string u, .string p]] w fun e w' => BasAns u.data.toList p.data.toList e ∧ Below w.heap.size w w' := by
  have hA : Below w.heap.size w (w.alloc (.cells #[.string u, .string p] 26)) := (Below.refl _ _).alloc (Nat.le_refl _) _
  have hin := fun w => has_one u 58 w
  have hc1 := fun w => ctl_any u (by omega) w
  have hc2 := fun w => ctl_any p (by omega) w
  by_cases h58 : 58 ∈ u.data.toList
  · rw [decide_eq_true h58] at hin
    have H58 : Hid (58 ∈ u.data.toList) := h58
    clear h58
    go_enter Tryz.func15, Tryz.ntmps15
    go_wp2_with fail
    refine (hin _).mono ?_
    rintro e w' ⟨rfl, rfl⟩
    go_wp2
    go_ret2
    exact ⟨basAns_one H58.out rfl, hA⟩
  · rw [decide_eq_false h58] at hin
    have H58 : Hid (58 ∉ u.data.toList) := h58
    clear h58
    obtain ⟨q1, HQ1⟩ : ∃ q, Hid (ctlL u.data.toList = q) := ⟨_, rfl⟩
    obtain ⟨q2, HQ2⟩ : ∃ q, Hid (ctlL p.data.toList = q) := ⟨_, rfl⟩
    rw [HQ1.out] at hc1
    rw [HQ2.out] at hc2
    cases q1
    · cases q2
      · have HQ : Hid (ctlL (u.data.toList ++ p.data.toList) = false) := by show _ = _; rw [ctlL_append, HQ1.out, HQ2.out]; rfl
        have hz2 : (u ++ ⟨#[58]⟩ ++ p).size ≤ 1000 := by rw [ByteArray.size_append, ByteArray.size_append]; show u.size + 1 + p.size ≤ 1000; omega
        have hcr : (u ++ ⟨#[58]⟩ ++ p).data.toList = credL u.data.toList p.data.toList := by simp [credL]
        have hb := fun w => base_any (u ++ ⟨#[58]⟩ ++ p) w hz2
        rw [hcr] at hb
        have HE : Hid ((⟨#[66, 97, 115, 105, 99, 32]⟩ : ByteArray) ++ bs (enc (credL u.data.toList p.data.toList)) = bs (basW ++ enc (credL u.data.toList p.data.toList))) := by
          show _ = _
          rw [bs_append]; rfl
        have hsz : (bs (enc (credL u.data.toList p.data.toList))).size ≤ 4000 := by
          rw [bs_size, enc_length]
          have e1 : u.data.toList.length = u.size := Array.length_toList
          have e2 : p.data.toList.length = p.size := Array.length_toList
          unfold credL
          rw [List.length_append, List.length_cons]
          omega
        generalize bs (enc (credL u.data.toList p.data.toList)) = X at hb HE hsz
        go_enter Tryz.func15, Tryz.ntmps15
        go_wp2_with fail
        refine (hin _).mono ?_
        rintro e w' ⟨rfl, rfl⟩
        go_wp2_with fail
        refine (hc1 _).mono ?_
        rintro e w' ⟨rfl, rfl⟩
        go_wp2_with fail
        refine (hc2 _).mono ?_
        rintro e w' ⟨rfl, rfl⟩
        go_wp2_with fail
        refine (hb _).mono ?_
        rintro e w2 ⟨rfl, hb2⟩
        go_wp2
        go_ret2
        exact ⟨basAns_ok H58.out HQ.out (by rw [← HE.out]; rfl), hA.trans (hb2.mono (by simp))⟩
      · have HQ : Hid (ctlL (u.data.toList ++ p.data.toList) = true) := by show _ = _; rw [ctlL_append, HQ1.out, HQ2.out]; rfl
        go_enter Tryz.func15, Tryz.ntmps15
        go_wp2_with fail
        refine (hin _).mono ?_
        rintro e w' ⟨rfl, rfl⟩
        go_wp2_with fail
        refine (hc1 _).mono ?_
        rintro e w' ⟨rfl, rfl⟩
        go_wp2_with fail
        refine (hc2 _).mono ?_
        rintro e w' ⟨rfl, rfl⟩
        go_wp2
        go_ret2
        exact ⟨basAns_three H58.out HQ.out rfl, hA⟩
    · have HQ : Hid (ctlL (u.data.toList ++ p.data.toList) = true) := by show _ = _; rw [ctlL_append, HQ1.out]; rfl
      go_enter Tryz.func15, Tryz.ntmps15
      go_wp2_with fail
      refine (hin _).mono ?_
      rintro e w' ⟨rfl, rfl⟩
      go_wp2_with fail
      refine (hc1 _).mono ?_
      rintro e w' ⟨rfl, rfl⟩
      go_wp2
      go_ret2
      exact ⟨basAns_three H58.out HQ.out rfl, hA⟩
end Go.Proofs.YtgajhmmildbkfaaGreatDoor

/- The fact that proofs are made: RFC 2617's own example, and one by user and password. -/
namespace Go.Proofs.YtgajhmmildbkfaaGreatDoor
open Go.RowKit

def mufA : PfA := ⟨2, ⟨#[116, 101, 115, 116, 114, 101, 97, 108, 109, 64, 104, 111, 115, 116, 46, 99, 111, 109]⟩, ⟨#[100, 99, 100, 57, 56, 98, 55, 49, 48, 50, 100, 100, 50, 102, 48, 101, 56, 98, 49, 49, 100, 48, 102, 54, 48, 48, 98, 102, 98, 48, 99, 48, 57, 51]⟩, ⟨#[]⟩, false, ⟨#[97, 117, 116, 104]⟩⟩
def mufR : PfR := ⟨⟨#[77, 117, 102, 97, 115, 97]⟩, ⟨#[67, 105, 114, 99, 108, 101, 32, 79, 102, 32, 76, 105, 102, 101]⟩, ⟨#[71, 69, 84]⟩, ⟨#[47, 100, 105, 114, 47, 105, 110, 100, 101, 120, 46, 104, 116, 109, 108]⟩, ⟨#[]⟩, ⟨#[48, 97, 52, 102, 49, 49, 51, 98]⟩⟩
set_option maxRecDepth 100000 in
theorem muf_resp : bs (respL mufA mufR 1) = ⟨#[54, 54, 50, 57, 102, 97, 101, 52, 57, 51, 57, 51, 97, 48, 53, 51, 57, 55, 52, 53, 48, 57, 55, 56, 53, 48, 55, 99, 52, 101, 102, 49]⟩ := by
  have e1 : whoL mufA mufR = [57, 51, 57, 101, 55, 53, 55, 56, 101, 100, 57, 101, 51, 99, 53, 49, 56, 97, 52, 53, 50, 97, 99, 101, 101, 55, 54, 51, 98, 99, 101, 57] := by decide +kernel
  have e2 : twoL mufA mufR = [51, 57, 97, 102, 102, 51, 97, 50, 98, 97, 98, 54, 49, 50, 54, 102, 51, 51, 50, 98, 57, 52, 50, 97, 102, 57, 54, 100, 51, 51, 54, 54] := by decide +kernel
  have e3 : respL mufA mufR 1 = sumT 2 [whoL mufA mufR, mufA.nonce.data.toList, countL 1, mufR.cnonce.data.toList, mufA.qop.data.toList, twoL mufA mufR] := rfl
  rw [e3, e1, e2]
  have e4 : sumT 2 [[57, 51, 57, 101, 55, 53, 55, 56, 101, 100, 57, 101, 51, 99, 53, 49, 56, 97, 52, 53, 50, 97, 99, 101, 101, 55, 54, 51, 98, 99, 101, 57], mufA.nonce.data.toList, countL 1, mufR.cnonce.data.toList, mufA.qop.data.toList, [51, 57, 97, 102, 102, 51, 97, 50, 98, 97, 98, 54, 49, 50, 54, 102, 51, 51, 50, 98, 57, 52, 50, 97, 102, 57, 54, 100, 51, 51, 54, 54]] = [54, 54, 50, 57, 102, 97, 101, 52, 57, 51, 57, 51, 97, 48, 53, 51, 57, 55, 52, 53, 48, 57, 55, 56, 53, 48, 55, 99, 52, 101, 102, 49] := by decide +kernel
  rw [e4]
  rfl
set_option maxRecDepth 100000 in
theorem ala_bas : basO [65, 108, 97, 100, 100, 105, 110] [111, 112, 101, 110, 32, 115, 101, 115, 97, 109, 101] = .ok [66, 97, 115, 105, 99, 32, 81, 87, 120, 104, 90, 71, 82, 112, 98, 106, 112, 118, 99, 71, 86, 117, 73, 72, 78, 108, 99, 50, 70, 116, 90, 81, 61, 61] := by kernel_rfl
theorem cnt_255 : bs (countL 255) = ⟨#[48, 48, 48, 48, 48, 48, 102, 102]⟩ := by kernel_rfl
set_option maxRecDepth 100000 in
set_option maxHeartbeats 2000000 in
theorem proved_any (w : World) (HT : Hid (Tabs w)) : Calls Tryz.prog 5 #[] w fun e w' => e = .returned (.bool true) ∧ Below w.heap.size w w' := by
  have h1 : ∀ w, Calls Tryz.prog 15 #[.agg #[.string ⟨#[65, 108, 97, 100, 100, 105, 110]⟩, .string ⟨#[111, 112, 101, 110, 32, 115, 101, 115, 97, 109, 101]⟩]] w fun e w' => e = .returned (.tuple #[.string ⟨#[66, 97, 115, 105, 99, 32, 81, 87, 120, 104, 90, 71, 82, 112, 98, 106, 112, 118, 99, 71, 86, 117, 73, 72, 78, 108, 99, 50, 70, 116, 90, 81, 61, 61]⟩, .nilIface]) ∧ Below w.heap.size w w' := fun w => by
    refine (basic_any ⟨#[65, 108, 97, 100, 100, 105, 110]⟩ ⟨#[111, 112, 101, 110, 32, 115, 101, 115, 97, 109, 101]⟩ (by decide) w).mono ?_
    rintro e w' ⟨ha, hb⟩
    refine ⟨?_, hb⟩
    have e1 : BasAns [65, 108, 97, 100, 100, 105, 110] [111, 112, 101, 110, 32, 115, 101, 115, 97, 109, 101] e := ha
    unfold BasAns at e1
    rw [ala_bas] at e1
    exact e1
  have h2 : ∀ w, Hid (Bruijn w) → Calls Tryz.prog 12 #[.int .i64 255] w fun e w' => e = .returned (.string ⟨#[48, 48, 48, 48, 48, 48, 102, 102]⟩) ∧ Below w.heap.size w w' := fun w HD => by
    rw [← cnt_255]
    exact count_any 255 (by omega) w HD
  have h3 : ∀ w, Hid (Tabs w) → Calls Tryz.prog 11 #[.agg #[.int .i64 2, .string ⟨#[116, 101, 115, 116, 114, 101, 97, 108, 109, 64, 104, 111, 115, 116, 46, 99, 111, 109]⟩, .string ⟨#[100, 99, 100, 57, 56, 98, 55, 49, 48, 50, 100, 100, 50, 102, 48, 101, 56, 98, 49, 49, 100, 48, 102, 54, 48, 48, 98, 102, 98, 48, 99, 48, 57, 51]⟩, .string ⟨#[]⟩, .bool false, .string ⟨#[97, 117, 116, 104]⟩, .bool false, .slice none 0 0], .agg #[.string ⟨#[77, 117, 102, 97, 115, 97]⟩, .string ⟨#[67, 105, 114, 99, 108, 101, 32, 79, 102, 32, 76, 105, 102, 101]⟩], .string ⟨#[71, 69, 84]⟩, .string ⟨#[47, 100, 105, 114, 47, 105, 110, 100, 101, 120, 46, 104, 116, 109, 108]⟩, .string ⟨#[]⟩, .string ⟨#[48, 97, 52, 102, 49, 49, 51, 98]⟩, .int .i64 1] w fun e w' => e = .returned (.string ⟨#[54, 54, 50, 57, 102, 97, 101, 52, 57, 51, 57, 51, 97, 48, 53, 51, 57, 55, 52, 53, 48, 57, 55, 56, 53, 48, 55, 99, 52, 101, 102, 49]⟩) ∧ Below w.heap.size w w' := fun w HT => by
    rw [← muf_resp]
    exact resp_any mufA mufR false (.slice none 0 0) 1 (by omega) (by unfold Fits; decide) w HT
  have hb0 : Below w.heap.size w (w.alloc (.cells #[.int .i64 2, .string ⟨#[116, 101, 115, 116, 114, 101, 97, 108, 109, 64, 104, 111, 115, 116, 46, 99, 111, 109]⟩, .string ⟨#[100, 99, 100, 57, 56, 98, 55, 49, 48, 50, 100, 100, 50, 102, 48, 101, 56, 98, 49, 49, 100, 48, 102, 54, 48, 48, 98, 102, 98, 48, 99, 48, 57, 51]⟩, .string ⟨#[]⟩, .bool false, .string ⟨#[97, 117, 116, 104]⟩, .bool false, .slice none 0 0] 24)) := (Below.refl _ _).alloc (Nat.le_refl _) _
  have hz : (w.alloc (.cells #[.int .i64 2, .string ⟨#[116, 101, 115, 116, 114, 101, 97, 108, 109, 64, 104, 111, 115, 116, 46, 99, 111, 109]⟩, .string ⟨#[100, 99, 100, 57, 56, 98, 55, 49, 48, 50, 100, 100, 50, 102, 48, 101, 56, 98, 49, 49, 100, 48, 102, 54, 48, 48, 98, 102, 98, 48, 99, 48, 57, 51]⟩, .string ⟨#[]⟩, .bool false, .string ⟨#[97, 117, 116, 104]⟩, .bool false, .slice none 0 0] 24)).heap.size = w.heap.size + 1 := by simp
  have hc : ∀ i, (w.alloc (.cells #[.int .i64 2, .string ⟨#[116, 101, 115, 116, 114, 101, 97, 108, 109, 64, 104, 111, 115, 116, 46, 99, 111, 109]⟩, .string ⟨#[100, 99, 100, 57, 56, 98, 55, 49, 48, 50, 100, 100, 50, 102, 48, 101, 56, 98, 49, 49, 100, 48, 102, 54, 48, 48, 98, 102, 98, 48, 99, 48, 57, 51]⟩, .string ⟨#[]⟩, .bool false, .string ⟨#[97, 117, 116, 104]⟩, .bool false, .slice none 0 0] 24)).cell? ⟨w.heap.size, i, none⟩ = #[.int .i64 2, .string ⟨#[116, 101, 115, 116, 114, 101, 97, 108, 109, 64, 104, 111, 115, 116, 46, 99, 111, 109]⟩, .string ⟨#[100, 99, 100, 57, 56, 98, 55, 49, 48, 50, 100, 100, 50, 102, 48, 101, 56, 98, 49, 49, 100, 48, 102, 54, 48, 48, 98, 102, 98, 48, 99, 48, 57, 51]⟩, .string ⟨#[]⟩, .bool false, .string ⟨#[97, 117, 116, 104]⟩, .bool false, .slice none 0 0][i]? := fun i => World.cell?_alloc_mark _ _ _ _ _
  have HT0 : Hid (Tabs (w.alloc (.cells #[.int .i64 2, .string ⟨#[116, 101, 115, 116, 114, 101, 97, 108, 109, 64, 104, 111, 115, 116, 46, 99, 111, 109]⟩, .string ⟨#[100, 99, 100, 57, 56, 98, 55, 49, 48, 50, 100, 100, 50, 102, 48, 101, 56, 98, 49, 49, 100, 48, 102, 54, 48, 48, 98, 102, 98, 48, 99, 48, 57, 51]⟩, .string ⟨#[]⟩, .bool false, .string ⟨#[97, 117, 116, 104]⟩, .bool false, .slice none 0 0] 24))) := HT.out.below hb0
  go_enter Tryz.func5, Tryz.ntmps5
  go_wp2_with fail
  generalize w.alloc (.cells #[.int .i64 2, .string ⟨#[116, 101, 115, 116, 114, 101, 97, 108, 109, 64, 104, 111, 115, 116, 46, 99, 111, 109]⟩, .string ⟨#[100, 99, 100, 57, 56, 98, 55, 49, 48, 50, 100, 100, 50, 102, 48, 101, 56, 98, 49, 49, 100, 48, 102, 54, 48, 48, 98, 102, 98, 48, 99, 48, 57, 51]⟩, .string ⟨#[]⟩, .bool false, .string ⟨#[97, 117, 116, 104]⟩, .bool false, .slice none 0 0] 24) = W0 at hb0 hz hc HT0 ⊢
  have HC : Hid (∀ i, W0.cell? ⟨w.heap.size, i, none⟩ = #[.int .i64 2, .string ⟨#[116, 101, 115, 116, 114, 101, 97, 108, 109, 64, 104, 111, 115, 116, 46, 99, 111, 109]⟩, .string ⟨#[100, 99, 100, 57, 56, 98, 55, 49, 48, 50, 100, 100, 50, 102, 48, 101, 56, 98, 49, 49, 100, 48, 102, 54, 48, 48, 98, 102, 98, 48, 99, 48, 57, 51]⟩, .string ⟨#[]⟩, .bool false, .string ⟨#[97, 117, 116, 104]⟩, .bool false, .slice none 0 0][i]?) := hc
  clear hc
  refine (h1 _).mono ?_
  rintro e w1 ⟨rfl, hb1⟩
  have HT1 : Hid (Tabs w1) := HT0.out.below hb1
  have HB1 : Hid (Below W0.heap.size W0 w1) := hb1
  clear hb1
  go_wp2_with fail
  refine (h2 _ HT1.out.bruijn).mono ?_
  rintro e w2 ⟨rfl, hb2⟩
  have HT2 : Hid (Tabs w2) := HT1.out.below hb2
  have HB2 : Hid (Below W0.heap.size W0 w2) := HB1.out.trans (hb2.mono HB1.out.size)
  clear hb2
  have hk : ∀ i, w2.cell? ⟨w.heap.size, i, none⟩ = #[.int .i64 2, .string ⟨#[116, 101, 115, 116, 114, 101, 97, 108, 109, 64, 104, 111, 115, 116, 46, 99, 111, 109]⟩, .string ⟨#[100, 99, 100, 57, 56, 98, 55, 49, 48, 50, 100, 100, 50, 102, 48, 101, 56, 98, 49, 49, 100, 48, 102, 54, 48, 48, 98, 102, 98, 48, 99, 48, 57, 51]⟩, .string ⟨#[]⟩, .bool false, .string ⟨#[97, 117, 116, 104]⟩, .bool false, .slice none 0 0][i]? := fun i => by
    rw [HB2.out.cell (p := ⟨w.heap.size, i, none⟩) (by show w.heap.size < _; omega)]
    exact HC.out i
  have k0 := hk 0
  have k1 := hk 1
  have k2 := hk 2
  have k3 := hk 3
  have k4 := hk 4
  have k5 := hk 5
  have k6 := hk 6
  have k7 := hk 7
  simp only [List.getElem?_toArray, List.getElem?_cons_zero, List.getElem?_cons_succ] at k0 k1 k2 k3 k4 k5 k6 k7
  clear hk
  go_wp2_with fail
  refine (h3 _ HT2).mono ?_
  rintro e w3 ⟨rfl, hb3⟩
  have HB3 : Hid (Below W0.heap.size W0 w3) := HB2.out.trans (hb3.mono HB2.out.size)
  clear hb3
  go_wp2
  go_ret
  exact ⟨by first | rfl | simp, hb0.trans (HB3.out.mono hb0.size)⟩
end Go.Proofs.YtgajhmmildbkfaaGreatDoor

/- Digits, by the program. -/
namespace Go.Proofs.YtgajhmmildbkfaaGreatDoor
open Go.RowKit

theorem digB_yes (c : UInt8) (h1 : 48 ≤ (c.toNat : Int)) (h2 : (c.toNat : Int) ≤ 57) : digB c = true := decide_eq_true ⟨by omega, by omega⟩
theorem digB_no (c : UInt8) (h : ¬ (48 ≤ (c.toNat : Int) ∧ (c.toNat : Int) ≤ 57)) : digB c = false := decide_eq_false (by omega)
theorem tdigit_any (c : UInt8) (w : World) : Calls Tryz.prog 73 #[.int .u8 (c.toNat : Int)] w fun e w' => e = .returned (.bool (digB c)) ∧ w' = w := by
  by_cases h : 48 ≤ (c.toNat : Int)
  · by_cases h2 : (c.toNat : Int) ≤ 57
    · rw [digB_yes c h h2]
      go_enter Tryz.func73, Tryz.ntmps73
      go_wp2
      go_ret
      exact ⟨rfl, rfl⟩
    · rw [digB_no c (by omega)]
      go_enter Tryz.func73, Tryz.ntmps73
      go_wp2
      go_ret
      exact ⟨rfl, rfl⟩
  · rw [digB_no c (by omega)]
    go_enter Tryz.func73, Tryz.ntmps73
    go_wp2
    go_ret
    exact ⟨rfl, rfl⟩

theorem kind_digit : Kind 73 digB := ⟨tdigit_any, enters_at Tryz.func73 (by kernel_rfl) rfl⟩
end Go.Proofs.YtgajhmmildbkfaaGreatDoor

/- Whether a byte stands in a list. -/
namespace Go.Proofs.YtgajhmmildbkfaaGreatDoor
open Go.RowKit

theorem ixOf_in (l : List UInt8) (c : UInt8) : (ixOf l c = -1 ∧ l.contains c = false) ∨ ∃ n : Nat, n < l.length ∧ ixOf l c = n ∧ l.contains c = true := by
  rcases ixOf_cases l c with ⟨h1, h2⟩ | ⟨n, h1, h2, h3⟩
  · exact .inl ⟨h1, by simpa using h2⟩
  · refine .inr ⟨n, h1, h2, ?_⟩
    rw [List.contains_iff_mem, ← h3]
    simp [h1]
end Go.Proofs.YtgajhmmildbkfaaGreatDoor

/- Where a byte stands in a text, by the library's own functions. -/
namespace Go.Proofs.YtgajhmmildbkfaaGreatDoor
open Go.RowKit

set_option maxHeartbeats 1000000 in
set_option maxRecDepth 100000 in
theorem slite_ix (s : ByteArray) (c : Int) (w : World) :
    Calls Tryz.prog 101 #[.string s, .int .u8 c] w fun e w' => e = .returned (.int .i64 (Lib.indexByte s.data.toList c.toNat.toUInt8)) ∧ w' = w := by
  go_enter Tryz.func101, Tryz.ntmps101
  go_wp2
  rw [run_callFunc_extern Tryz.func128 (by kernel_rfl) (by kernel_rfl) (by kernel_rfl) (e := Extern.BytealgIndexByte.indexByte) (by kernel_rfl), Lib.run_indexByteString]
  simp only [Result.andThen]
  rw [Oper.upon_value]
  go_wp2
  go_ret
  exact ⟨rfl, rfl⟩

set_option maxHeartbeats 1000000 in
theorem ix_any (s : ByteArray) (c : Int) (w : World) :
    Calls Tryz.prog 74 #[.string s, .int .u8 c] w fun e w' => e = .returned (.int .i64 (Lib.indexByte s.data.toList c.toNat.toUInt8)) ∧ w' = w := by
  go_enter Tryz.func74, Tryz.ntmps74
  go_wp2_with (go_at_call 101; refine (slite_ix _ _ _).mono ?_; rintro e w' ⟨rfl, rfl⟩)
  go_ret
  exact ⟨rfl, rfl⟩

theorem ix_of (s : ByteArray) (c : UInt8) (n : Int) (hn : n = c.toNat) (w : World) :
    Calls Tryz.prog 74 #[.string s, .int .u8 n] w fun e w' => e = .returned (.int .i64 (ixOf s.data.toList c)) ∧ w' = w := by
  subst hn
  refine (ix_any s _ w).mono ?_
  rintro e w' ⟨rfl, rfl⟩
  refine ⟨?_, rfl⟩
  unfold ixOf
  congr 3
  simp

end Go.Proofs.YtgajhmmildbkfaaGreatDoor

/- Whether a byte may be one of a word, and a text is a word, by the program. -/
namespace Go.Proofs.YtgajhmmildbkfaaGreatDoor
open Go.RowKit

theorem tokB_small (c : UInt8) (h : 97 ≤ (c.toNat : Int) ∧ (c.toNat : Int) ≤ 122) : tokB c = true := by
  unfold tokB
  rw [decide_eq_true (show 97 ≤ c.toNat ∧ c.toNat ≤ 122 by omega)]
  rfl
theorem tokB_great (c : UInt8) (h : 65 ≤ (c.toNat : Int) ∧ (c.toNat : Int) ≤ 90) : tokB c = true := by
  unfold tokB
  rw [decide_eq_true (show 65 ≤ c.toNat ∧ c.toNat ≤ 90 by omega)]
  simp
theorem tokB_digit (c : UInt8) (h : digB c = true) : tokB c = true := by
  unfold tokB
  unfold digB at h
  rw [h]
  simp
theorem tokB_rest (c : UInt8) (h1 : ¬ (97 ≤ (c.toNat : Int) ∧ (c.toNat : Int) ≤ 122)) (h2 : ¬ (65 ≤ (c.toNat : Int) ∧ (c.toNat : Int) ≤ 90)) (h3 : digB c = false) : tokB c = tsigns.contains c := by
  unfold tokB
  unfold digB at h3
  rw [decide_eq_false (show ¬ (97 ≤ c.toNat ∧ c.toNat ≤ 122) by omega), decide_eq_false (show ¬ (65 ≤ c.toNat ∧ c.toNat ≤ 90) by omega), h3]
  rfl
def ixT (c : UInt8) : Int := ixOf tsigns c
theorem ix_tsigns (c : UInt8) (w : World) :
    Calls Tryz.prog 74 #[.string { data := #[33, 35, 36, 37, 38, 39, 42, 43, 45, 46, 94, 95, 124, 126, 96] }, .int .u8 (c.toNat : Int)] w fun e w' => e = .returned (.int .i64 (ixT c)) ∧ w' = w := ix_of _ c _ rfl w
set_option maxHeartbeats 1000000 in
theorem byte_any (c : UInt8) (w : World) : Calls Tryz.prog 49 #[.int .u8 (c.toNat : Int)] w fun e w' => e = .returned (.bool (tokB c)) ∧ w' = w := by
  by_cases h1 : 97 ≤ (c.toNat : Int) ∧ (c.toNat : Int) ≤ 122
  · rw [tokB_small c h1]
    obtain ⟨h1, h2⟩ := h1
    go_enter Tryz.func49, Tryz.ntmps49
    go_wp2
    go_ret
    exact ⟨rfl, rfl⟩
  by_cases h2 : 65 ≤ (c.toNat : Int) ∧ (c.toNat : Int) ≤ 90
  · rw [tokB_great c h2]
    obtain ⟨h2, h3⟩ := h2
    have h4 : ¬ 97 ≤ (c.toNat : Int) := by omega
    clear h1
    go_enter Tryz.func49, Tryz.ntmps49
    go_wp2
    go_ret
    exact ⟨rfl, rfl⟩
  have key : (∃ x : Bool, digB c = true ∧ tokB c = true) ∨ (digB c = false ∧ tokB c = tsigns.contains c) := by
    cases h3 : digB c
    · exact .inr ⟨rfl, tokB_rest c h1 h2 h3⟩
    · exact .inl ⟨true, rfl, tokB_digit c h3⟩
  rcases key with ⟨_, hd, ht⟩ | ⟨hd, ht⟩
  · rw [ht]
    clear ht
    by_cases a1 : 97 ≤ (c.toNat : Int)
    · have a2 : ¬ (c.toNat : Int) ≤ 122 := by omega
      have a3 : 65 ≤ (c.toNat : Int) := by omega
      have a4 : ¬ (c.toNat : Int) ≤ 90 := by omega
      clear h1 h2
      go_enter Tryz.func49, Tryz.ntmps49
      go_wp2_with (go_at_call 73; refine (tdigit_any c _).mono ?_; rintro e w' ⟨rfl, rfl⟩; rw [hd])
      go_ret
      exact ⟨rfl, rfl⟩
    · by_cases a3 : 65 ≤ (c.toNat : Int)
      · have a4 : ¬ (c.toNat : Int) ≤ 90 := by omega
        clear h1 h2
        go_enter Tryz.func49, Tryz.ntmps49
        go_wp2_with (go_at_call 73; refine (tdigit_any c _).mono ?_; rintro e w' ⟨rfl, rfl⟩; rw [hd])
        go_ret
        exact ⟨rfl, rfl⟩
      · clear h1 h2
        go_enter Tryz.func49, Tryz.ntmps49
        go_wp2_with (go_at_call 73; refine (tdigit_any c _).mono ?_; rintro e w' ⟨rfl, rfl⟩; rw [hd])
        go_ret
        exact ⟨rfl, rfl⟩
  · obtain ⟨x, hx, hx2⟩ : ∃ x : Int, ixT c = x ∧ Hid (tokB c = decide (0 ≤ x)) := by
      refine ⟨_, rfl, ?_⟩
      show _ = _
      rw [ht]
      unfold ixT
      rcases ixOf_in tsigns c with ⟨e1, e2⟩ | ⟨n, _, e1, e2⟩
      · rw [e1, e2]; rfl
      · rw [e1, e2]; simp
    clear ht
    rw [hx2.out]
    by_cases a1 : 97 ≤ (c.toNat : Int)
    · have a2 : ¬ (c.toNat : Int) ≤ 122 := by omega
      have a3 : 65 ≤ (c.toNat : Int) := by omega
      have a4 : ¬ (c.toNat : Int) ≤ 90 := by omega
      clear h1 h2
      go_enter Tryz.func49, Tryz.ntmps49
      go_wp2_with (first | (go_at_call 73; refine (tdigit_any c _).mono ?_; rintro e w' ⟨rfl, rfl⟩; rw [hd]) | (go_at_call 74; refine (ix_tsigns c _).mono ?_; rintro e w' ⟨rfl, rfl⟩; rw [hx]))
      go_ret
      exact ⟨rfl, rfl⟩
    · by_cases a3 : 65 ≤ (c.toNat : Int)
      · have a4 : ¬ (c.toNat : Int) ≤ 90 := by omega
        clear h1 h2
        go_enter Tryz.func49, Tryz.ntmps49
        go_wp2_with (first | (go_at_call 73; refine (tdigit_any c _).mono ?_; rintro e w' ⟨rfl, rfl⟩; rw [hd]) | (go_at_call 74; refine (ix_tsigns c _).mono ?_; rintro e w' ⟨rfl, rfl⟩; rw [hx]))
        go_ret
        exact ⟨rfl, rfl⟩
      · clear h1 h2
        go_enter Tryz.func49, Tryz.ntmps49
        go_wp2_with (first | (go_at_call 73; refine (tdigit_any c _).mono ?_; rintro e w' ⟨rfl, rfl⟩; rw [hd]) | (go_at_call 74; refine (ix_tsigns c _).mono ?_; rintro e w' ⟨rfl, rfl⟩; rw [hx]))
        go_ret
        exact ⟨rfl, rfl⟩
theorem kind_byte : Kind 49 tokB := ⟨byte_any, enters_at Tryz.func49 (by kernel_rfl) rfl⟩
theorem isL_empty (s : ByteArray) (h : s.size = 0) : isL s.data.toList = false := by
  have : s.data.toList = [] := by
    apply List.eq_nil_of_length_eq_zero
    simpa using h
  rw [this]
  rfl
theorem isL_run (s : ByteArray) (h : 0 < s.size) : isL s.data.toList = decide ((runL tokB s.data.toList : Int) = (s.size : Int)) := by
  unfold isL
  have h1 : s.data.toList.isEmpty = false := by
    cases e : s.data.toList with
    | nil =>
      have h5 : s.data.toList.length = s.size := Array.length_toList
      rw [e] at h5
      simp only [List.length_nil] at h5
      omega
    | cons c t => rfl
  have h2 := runL_all tokB s.data.toList
  have h3 : s.data.toList.length = s.size := Array.length_toList
  rw [h1, Bool.eq_iff_iff]
  simp only [Bool.not_false, Bool.true_and, decide_eq_true_eq]
  rw [← h2, h3]
  omega
end Go.Proofs.YtgajhmmildbkfaaGreatDoor

/- Where a cursor is, and what of the world it leaves as it was. -/
namespace Go.Proofs.YtgajhmmildbkfaaGreatDoor
open Go.RowKit

/-- A cursor at block b: its text, and where it is. -/
structure Cur (w : World) (b : Nat) (s : ByteArray) (k : Nat) : Prop where
  text : w.cell? ⟨b, 0, none⟩ = some (.string s)
  place : w.cell? ⟨b, 1, none⟩ = some (.int .i64 (k : Int))
  free : w.frozen? ⟨b, 1, none⟩ = false
  le : k ≤ s.size
theorem Cur.drewN {w : World} {b : Nat} {s : ByteArray} {k : Nat} (h : Cur w b s k) (n : Nat) : Cur (w.drewN n) b s k := ⟨h.text, h.place, h.free, h.le⟩
theorem Cur.drew {w : World} {b : Nat} {s : ByteArray} {k : Nat} (h : Cur w b s k) : Cur w.drew b s k := ⟨h.text, h.place, h.free, h.le⟩
theorem Cur.lt {w : World} {b : Nat} {s : ByteArray} {k : Nat} (h : Cur w b s k) : b < w.heap.size := by
  rcases Nat.lt_or_ge b w.heap.size with h1 | h1
  · exact h1
  · have := h.text
    simp [World.cell?, Array.getElem?_eq_none h1] at this
theorem Cur.set {w : World} {b : Nat} {s : ByteArray} {k : Nat} (h : Cur w b s k) (m : Nat) (hm : m ≤ s.size) (v : Int) (hv : v = (m : Int)) : Cur (w.setCell ⟨b, 1, none⟩ (.int .i64 v)) b s m := by
  subst hv
  refine ⟨?_, World.cell?_setCell_same _ _ _ h.place, ?_, hm⟩
  · rw [World.cell?_setCell_other _ _ _ _ (by intro e; injection e with _ e2; omega)]
    exact h.text
  · have := h.free
    simpa using this
theorem Cur.grown {w w' : World} {b : Nat} {s : ByteArray} {k : Nat} {row : Option Nat} (h : Cur w b s k) (hg : w.grownBy w' row) (hr : some b ≠ row) : Cur w' b s k :=
  ⟨hg.cell h.text hr, hg.cell h.place hr, (World.frozen?_of_block (a := ⟨b, 1, none⟩) (hg.block b h.lt hr)).trans h.free, h.le⟩
theorem Cur.below {w w' : World} {b : Nat} {s : ByteArray} {k : Nat} (h : Cur w b s k) (hb : Below w.heap.size w w') : Cur w' b s k :=
  h.grown (row := none) ⟨hb.os, hb.tape, hb.output, hb.size, fun i hi _ => hb.block i hi⟩ (by simp)
theorem grown_drewN (w : World) (n : Nat) (row : Option Nat) : w.grownBy (w.drewN n) row := ⟨rfl, rfl, rfl, Nat.le_refl _, fun _ _ _ => rfl⟩
theorem grown_set (w : World) (b i : Nat) (v : Value) : w.grownBy (w.setCell ⟨b, i, none⟩ v) (some b) :=
  ⟨rfl, rfl, rfl, by simp [World.setCell], fun k _ hk => Below.heap_setCell _ _ _ _ (by intro e; apply hk; rw [e])⟩
theorem grown_trans {a b c : World} {row : Option Nat} (h : a.grownBy b row) (k : b.grownBy c row) : a.grownBy c row :=
  ⟨k.os.trans h.os, k.tape.trans h.tape, k.output.trans h.output, Nat.le_trans h.size k.size, fun i hi hr => (k.block i (Nat.lt_of_lt_of_le hi h.size) hr).trans (h.block i hi hr)⟩
theorem grown_below {w w' : World} (hb : Below w.heap.size w w') (row : Option Nat) : w.grownBy w' row := ⟨hb.os, hb.tape, hb.output, hb.size, fun i hi _ => hb.block i hi⟩

theorem blankB_32 (c : UInt8) (h : (c.toNat : Int) = 32) : blankB c = true := by
  rw [(u8_is (n := 32) (by omega)).1 h]
  rfl
theorem blankB_9 (c : UInt8) (h : (c.toNat : Int) = 9) : blankB c = true := by
  rw [(u8_is (n := 9) (by omega)).1 h]
  rfl
theorem blankB_no (c : UInt8) (h : ¬ (c.toNat : Int) = 32) (h2 : ¬ (c.toNat : Int) = 9) : blankB c = false := by
  unfold blankB
  rw [beq_eq_false_iff_ne.2 (by rintro rfl; exact h rfl), beq_eq_false_iff_ne.2 (by rintro rfl; exact h2 rfl)]
  rfl
theorem blank_any (c : UInt8) (w : World) : Calls Tryz.prog 72 #[.int .u8 (c.toNat : Int)] w fun e w' => e = .returned (.bool (blankB c)) ∧ w' = w := by
  by_cases h : (c.toNat : Int) = 32
  · rw [blankB_32 c h]
    go_enter Tryz.func72, Tryz.ntmps72
    go_wp2
    go_ret
    exact ⟨rfl, rfl⟩
  · by_cases h2 : (c.toNat : Int) = 9
    · rw [blankB_9 c h2]
      go_enter Tryz.func72, Tryz.ntmps72
      go_wp2
      go_ret
      exact ⟨rfl, rfl⟩
    · rw [blankB_no c h h2]
      have e1 := beq_eq_false_iff_ne.2 h
      have e2 := beq_eq_false_iff_ne.2 h2
      go_enter Tryz.func72, Tryz.ntmps72
      go_wp2
      go_ret
      exact ⟨rfl, rfl⟩
theorem kind_blank : Kind 72 blankB := ⟨blank_any, enters_at Tryz.func72 (by kernel_rfl) rfl⟩

theorem on_any (s : ByteArray) (w : World) :
    Calls Tryz.prog 19 #[.string s] w fun e w' => e = .returned (.pointer (some ⟨w.heap.size, 0, none⟩)) ∧ Cur w' w.heap.size s 0 ∧ Below w.heap.size w w' ∧ w.heap.size < w'.heap.size := by
  go_enter Tryz.func19, Tryz.ntmps19
  go_wp2
  go_ret
  exact ⟨rfl, ⟨by simp, by simp, by simp, Nat.zero_le _⟩, (Below.refl _ _).alloc (Nat.le_refl _) _, by simp⟩
theorem at_any (b : Nat) (s : ByteArray) (k : Nat) (w : World) (hc : Cur w b s k) :
    Calls Tryz.prog 22 #[.pointer (some ⟨b, 0, none⟩)] w fun e w' => e = .returned (.int .i64 (k : Int)) ∧ w' = w := by
  obtain ⟨h1, h2, h3, h4⟩ := hc
  go_enter Tryz.func22, Tryz.ntmps22
  go_wp2
  go_ret
  exact ⟨rfl, rfl⟩
theorem end_any (b : Nat) (s : ByteArray) (k : Nat) (w : World) (hc : Cur w b s k) :
    Calls Tryz.prog 31 #[.pointer (some ⟨b, 0, none⟩)] w fun e w' => e = .returned (.bool ((k : Int) == (s.size : Int))) ∧ ∃ n, w' = w.drewN n := by
  obtain ⟨h1, h2, h3, h4⟩ := hc
  go_enter Tryz.func31, Tryz.ntmps31
  go_wp2
  go_quiet (fail)
  go_wp2
  go_ret
  exact ⟨rfl, _, rfl⟩
end Go.Proofs.YtgajhmmildbkfaaGreatDoor

/- What a cursor goes over. -/
namespace Go.Proofs.YtgajhmmildbkfaaGreatDoor
open Go.RowKit

theorem len_data (s : ByteArray) : s.data.toList.length = s.size := Array.length_toList
theorem rest_size (s : ByteArray) (k : Nat) : (s.extract k s.size).size = s.size - k := by simp
theorem run_rest_le (f : UInt8 → Bool) (s : ByteArray) (k : Nat) (hk : k ≤ s.size) : k + runL f (s.data.toList.drop k) ≤ s.size := by
  have := runL_le f (s.data.toList.drop k)
  rw [List.length_drop, len_data] at this
  omega
set_option maxHeartbeats 1000000 in
theorem over_any (K : Nat) (f : UInt8 → Bool) (hK : Kind K f) (b : Nat) (s : ByteArray) (hs : s.size ≤ 20000) (k : Nat) (w : World) (hc : Cur w b s k) :
    Calls Tryz.prog 71 #[.pointer (some ⟨b, 0, none⟩), .func (.func K) #[] #[]] w fun e w' => ∃ t : ByteArray, e = .returned (.string t) ∧ t.size = runL f (s.data.toList.drop k) ∧ Hid (t.data.toList = (s.data.toList.drop k).takeWhile f) ∧ Cur w' b s (k + runL f (s.data.toList.drop k)) ∧ w.grownBy w' (some b) := by
  obtain ⟨r, HR⟩ : ∃ r : ByteArray, Hid (s.extract k s.size = r) := ⟨_, rfl⟩
  have hr : r.size = s.size - k := by rw [← HR.out, rest_size]
  have HD : Hid (r.data.toList = s.data.toList.drop k) := by show _ = _; rw [← HR.out, from_data]
  obtain ⟨n, HN⟩ : ∃ n : Nat, Hid (runL f (s.data.toList.drop k) = n) := ⟨_, rfl⟩
  have hn : k + n ≤ s.size := by rw [← HN.out]; exact run_rest_le f s k hc.le
  have HC : Hid (Cur w b s k) := hc
  have HT : Hid ((r.extract 0 n).data.toList = (s.data.toList.drop k).takeWhile f) := by show _ = _; rw [upto_data, HD.out, ← HN.out, take_runL]
  have HZ : Hid ((r.extract 0 n).size = n) := by
    show _ = _
    simp
    omega
  obtain ⟨h1, h2, h3, h4⟩ := hc
  have hkS : (k : Int) ≤ (s.size : Int) := by omega
  go_enter Tryz.func71, Tryz.ntmps71
  go_wp2
  go_quiet (fail)
  rw [HR.out]
  go_wp2_with fail
  refine (run_any K f hK r (by omega) _).mono ?_
  rintro e w' ⟨rfl, hw⟩
  obtain rfl := hw.symm
  rw [HD.out, HN.out]
  have hnr : (n : Int) ≤ (r.size : Int) := by omega
  go_wp2
  go_ret
  refine ⟨_, rfl, ?_, ?_, ?_, ?_⟩
  · rw [HN.out]; exact HZ
  · exact HT
  · rw [HN.out]; exact (HC.out.drewN _).set _ hn _ (by push_cast; rfl)
  · exact grown_trans (grown_drewN w _ _) (grown_set _ _ _ _)
end Go.Proofs.YtgajhmmildbkfaaGreatDoor

/- A cursor's blanks, words and marks, by the program. -/
namespace Go.Proofs.YtgajhmmildbkfaaGreatDoor
open Go.RowKit

theorem ne_zero_list (t : ByteArray) (n : Nat) (h : t.size = n) : (!t.toList.isEmpty) = decide (0 < n) := by
  subst h
  rw [ByteArray.toList_eq]
  by_cases h0 : t.size = 0
  · have e : t.data.toList = [] := List.eq_nil_of_length_eq_zero (by rw [len_data]; exact h0)
    rw [e, decide_eq_false (by omega)]
    rfl
  · have e : t.data.toList ≠ [] := by
      intro e
      have := len_data t
      rw [e] at this
      exact h0 this.symm
    rw [decide_eq_true (by omega)]
    cases e2 : t.data.toList with
    | nil => exact absurd e2 e
    | cons x r => rfl
set_option maxHeartbeats 1000000 in
theorem blanks_any (b : Nat) (s : ByteArray) (hs : s.size ≤ 20000) (k : Nat) (w : World) (hc : Cur w b s k) :
    Calls Tryz.prog 42 #[.pointer (some ⟨b, 0, none⟩)] w fun e w' => e = .returned (.bool (decide (0 < runL blankB (s.data.toList.drop k)))) ∧ Cur w' b s (k + runL blankB (s.data.toList.drop k)) ∧ w.grownBy w' (some b) := by
  go_enter Tryz.func42, Tryz.ntmps42
  go_wp2_with (go_at_call 71; refine (over_any _ _ kind_blank b s (by omega) k _ hc).mono ?_; rintro e w' ⟨t, rfl, ht, HT, hc2, hg⟩)
  go_ret
  exact ⟨ret_bool (ne_zero_list t _ ht), hc2, hg⟩
set_option maxHeartbeats 1000000 in
theorem word_any (b : Nat) (s : ByteArray) (hs : s.size ≤ 20000) (k : Nat) (w : World) (hc : Cur w b s k) :
    Calls Tryz.prog 43 #[.pointer (some ⟨b, 0, none⟩)] w fun e w' => ∃ t : ByteArray, e = .returned (.string t) ∧ t.size = runL tokB (s.data.toList.drop k) ∧ Hid (t.data.toList = (s.data.toList.drop k).takeWhile tokB) ∧ Cur w' b s (k + runL tokB (s.data.toList.drop k)) ∧ w.grownBy w' (some b) := by
  have hle := run_rest_le tokB s k hc.le
  obtain ⟨n, HN⟩ : ∃ n : Nat, Hid (runL tokB (s.data.toList.drop k) = n) := ⟨_, rfl⟩
  rw [HN.out] at hle
  go_enter Tryz.func43, Tryz.ntmps43
  go_wp2_with (first | (go_at_call 71; refine (over_any _ _ kind_byte b s (by omega) k _ hc).mono ?_; rintro e w1 ⟨t, rfl, ht, HT, hc2, hg⟩; have htz : t.size ≤ 20000 := by rw [ht, HN.out]; omega) | (go_at_call 37; refine (clone_any _ htz _).mono ?_; rintro e w2 ⟨rfl, hb2⟩))
  go_ret
  exact ⟨t, rfl, ht, HT, hc2.below hb2, grown_trans hg (grown_below hb2 _)⟩
set_option maxHeartbeats 1000000 in
theorem mark_end (b : Nat) (s : ByteArray) (c : UInt8) (w : World) (hc : Cur w b s s.size) :
    Calls Tryz.prog 44 #[.pointer (some ⟨b, 0, none⟩), .int .u8 (c.toNat : Int)] w fun e w' => e = .returned (.bool false) ∧ ∃ n, w' = w.drewN n := by
  have HC : Hid (Cur w b s s.size) := hc
  have hend : ∀ n, Calls Tryz.prog 31 #[.pointer (some ⟨b, 0, none⟩)] (w.drewN n) fun e w' => e = .returned (.bool true) ∧ ∃ m, w' = (w.drewN n).drewN m := fun n => by
    refine (end_any b s s.size _ (HC.out.drewN n)).mono ?_
    rintro e w' ⟨rfl, h⟩
    exact ⟨ret_bool (by simp), h⟩
  clear hc
  go_enter Tryz.func44, Tryz.ntmps44
  go_wp2
  go_quiet ((go_at_call 31; exact Calls.quiet_of (hend _)))
  go_wp2
  go_ret
  exact ⟨rfl, _, rfl⟩
set_option maxHeartbeats 1000000 in
theorem mark_other (b : Nat) (s : ByteArray) (k : Nat) (hk : k < s.size) (c : UInt8) (hne : s[k] ≠ c) (w : World) (hc : Cur w b s k) :
    Calls Tryz.prog 44 #[.pointer (some ⟨b, 0, none⟩), .int .u8 (c.toNat : Int)] w fun e w' => e = .returned (.bool false) ∧ ∃ n, w' = w.drewN n := by
  have HC : Hid (Cur w b s k) := hc
  have hend : ∀ n, Calls Tryz.prog 31 #[.pointer (some ⟨b, 0, none⟩)] (w.drewN n) fun e w' => e = .returned (.bool false) ∧ ∃ m, w' = (w.drewN n).drewN m := fun n => by
    refine (end_any b s k _ (HC.out.drewN n)).mono ?_
    rintro e w' ⟨rfl, h⟩
    exact ⟨ret_bool (beq_eq_false_iff_ne.2 (by omega)), h⟩
  obtain ⟨d, hd⟩ : ∃ d : UInt8, s[k] = d := ⟨_, rfl⟩
  have hq : ((d.toNat : Int) != (c.toNat : Int)) = true := by
    rw [bne_iff_ne]
    intro e
    apply hne
    rw [hd]
    exact UInt8.toNat_inj.1 (by omega)
  obtain ⟨h1, h2, h3, h4⟩ := hc
  clear hne
  have hkS : (k : Int) < (s.size : Int) := by omega
  go_enter Tryz.func44, Tryz.ntmps44
  go_wp2
  go_quiet ((go_at_call 31; exact Calls.quiet_of (hend _)))
  go_wp2
  go_ret
  exact ⟨rfl, _, rfl⟩
set_option maxHeartbeats 1000000 in
theorem mark_yes (b : Nat) (s : ByteArray) (hs : s.size ≤ 20000) (k : Nat) (hk : k < s.size) (c : UInt8) (he : s[k] = c) (w : World) (hc : Cur w b s k) :
    Calls Tryz.prog 44 #[.pointer (some ⟨b, 0, none⟩), .int .u8 (c.toNat : Int)] w fun e w' => e = .returned (.bool true) ∧ Cur w' b s (k + 1) ∧ w.grownBy w' (some b) := by
  have HC : Hid (Cur w b s k) := hc
  have hend : ∀ n, Calls Tryz.prog 31 #[.pointer (some ⟨b, 0, none⟩)] (w.drewN n) fun e w' => e = .returned (.bool false) ∧ ∃ m, w' = (w.drewN n).drewN m := fun n => by
    refine (end_any b s k _ (HC.out.drewN n)).mono ?_
    rintro e w' ⟨rfl, h⟩
    exact ⟨ret_bool (beq_eq_false_iff_ne.2 (by omega)), h⟩
  have hq : ((c.toNat : Int) != (c.toNat : Int)) = false := by simp
  obtain ⟨h1, h2, h3, h4⟩ := hc
  have hkS : (k : Int) < (s.size : Int) := by omega
  go_enter Tryz.func44, Tryz.ntmps44
  go_wp2
  go_quiet ((go_at_call 31; exact Calls.quiet_of (hend _)))
  go_wp2
  go_ret
  exact ⟨rfl, (HC.out.drewN _).set _ (by omega) _ (by push_cast; rfl), grown_trans (grown_drewN w _ _) (grown_set _ _ _ _)⟩
/-- The place that a number stands for. -/
def clampK (n : Nat) (m : Int) : Nat := (max 0 (min m (n : Int))).toNat
theorem clampK_le (n : Nat) (m : Int) : clampK n m ≤ n := by unfold clampK; omega
end Go.Proofs.YtgajhmmildbkfaaGreatDoor

/- A cursor elsewhere, by the program. -/
namespace Go.Proofs.YtgajhmmildbkfaaGreatDoor
open Go.RowKit

set_option maxHeartbeats 1000000 in
theorem go_any (b : Nat) (s : ByteArray) (k : Nat) (m : Int) (w : World) (hc : Cur w b s k) :
    Calls Tryz.prog 78 #[.pointer (some ⟨b, 0, none⟩), .int .i64 m] w fun e w' => e = .returned (.tuple #[]) ∧ Cur w' b s (clampK s.size m) ∧ w.grownBy w' (some b) := by
  have HC : Hid (Cur w b s k) := hc
  obtain ⟨h1, h2, h3, h4⟩ := hc
  go_enter Tryz.func78, Tryz.ntmps78
  go_wp2
  refine bodyPost_end (v := .tuple #[]) (by simp [results, Tryz.f78]) rfl ⟨rfl, HC.out.set _ (clampK_le _ _) _ (by unfold clampK; omega), grown_set _ _ _ _⟩
end Go.Proofs.YtgajhmmildbkfaaGreatDoor

/- The text ahead of a closing mark, by the program. -/
namespace Go.Proofs.YtgajhmmildbkfaaGreatDoor
open Go.RowKit

theorem drop_at (s : ByteArray) (k : Nat) (h : k < s.size) (c : UInt8) (e : s[k] = c) : s.data.toList.drop k = c :: s.data.toList.drop (k + 1) := by
  rw [List.drop_eq_getElem_cons (by rw [len_data]; exact h), ← e]
  rfl
/-- What is known of the whole behind k bytes: out stands there, escaped or not. -/
def UnqAt (l : List UInt8) (esc : Bool) (o : List UInt8) (k : Nat) : Prop := unqL false l = (unqL esc (l.drop k)).map fun x => (o ++ x.1, k + x.2)
theorem unq_bad {s : ByteArray} {esc : Bool} {o : List UInt8} {k : Nat} (h : UnqAt s.data.toList esc o k) (hk : k < s.size) (c : UInt8) (e : s[k] = c) (hc : textB c = false) : unqL false s.data.toList = none := by
  unfold UnqAt at h
  rw [h, drop_at s k hk c e, unqL, if_pos hc]
  rfl
theorem unq_esc1 {s : ByteArray} {o : List UInt8} {k : Nat} (h : UnqAt s.data.toList true o k) (hk : k < s.size) (c : UInt8) (e : s[k] = c) (hc : textB c = true) : UnqAt s.data.toList false (o ++ [c]) (k + 1) := by
  unfold UnqAt at *
  rw [h, drop_at s k hk c e, unqL, if_neg (by rw [hc]; simp), if_pos rfl, Option.map_map]
  congr 1
  funext x
  simp
  omega
theorem unq_mark {s : ByteArray} {o : List UInt8} {k : Nat} (h : UnqAt s.data.toList false o k) (hk : k < s.size) (e : s[k] = 34) : unqL false s.data.toList = some (o, k + 1) := by
  unfold UnqAt at h
  rw [h, drop_at s k hk 34 e, unqL]
  simp [show textB 34 = true by decide]
theorem unq_stroke {s : ByteArray} {o : List UInt8} {k : Nat} (h : UnqAt s.data.toList false o k) (hk : k < s.size) (e : s[k] = 92) : UnqAt s.data.toList true o (k + 1) := by
  unfold UnqAt at *
  rw [h, drop_at s k hk 92 e, unqL, if_neg (by decide), if_neg (by simp), if_neg (by decide), if_pos rfl, Option.map_map]
  congr 1
  funext x
  simp
  omega
theorem unq_byte {s : ByteArray} {o : List UInt8} {k : Nat} (h : UnqAt s.data.toList false o k) (hk : k < s.size) (c : UInt8) (e : s[k] = c) (hc : textB c = true) (h1 : c ≠ 34) (h2 : c ≠ 92) : UnqAt s.data.toList false (o ++ [c]) (k + 1) := by
  unfold UnqAt at *
  rw [h, drop_at s k hk c e, unqL, if_neg (by rw [hc]; simp), if_neg (by simp), if_neg h1, if_neg h2, Option.map_map]
  congr 1
  funext x
  simp
  omega
theorem unq_over {s : ByteArray} {esc : Bool} {o : List UInt8} {k : Nat} (h : UnqAt s.data.toList esc o k) (hk : s.size ≤ k) : unqL false s.data.toList = none := by
  unfold UnqAt at h
  rw [h, List.drop_of_length_le (by rw [len_data]; exact hk), unqL]
  rfl
theorem back_any {w : World} {B : Nat} {v : Value} {l : List UInt8} (h : Own w B v l) : (convert 83 9 v).run Tryz.prog w = .ok (.string (bs l)) w := by
  rcases h.2 with ⟨rfl, hl⟩ | ⟨g, cap, cur, rfl, _⟩
  · have e : l = [] := List.eq_nil_of_length_eq_zero hl
    subst e
    simp [convert, underlying, Tryz.underlying83, Tryz.underlying9, Tryz.underlying5, bs]
    rfl
  · exact h.back rfl
theorem own_nil (w : World) (B : Nat) : Own w B (.slice none 0 0) [] := ⟨rfl, .inl ⟨rfl, rfl⟩⟩
def UnqAns (s : ByteArray) (e : Ending) : Prop :=
  (∃ (t : List UInt8) (n : Nat), unqL false s.data.toList = some (t, n) ∧ e = .returned (.tuple #[.string (bs t), .int .i64 (n : Int), .bool true])) ∨ (unqL false s.data.toList = none ∧ e = .returned (.tuple #[.string ⟨#[]⟩, .int .i64 0, .bool false]))
set_option maxRecDepth 100000 in
set_option maxHeartbeats 2000000 in
theorem unquote_any (s : ByteArray) (hs : s.size ≤ 5000) (w : World) :
    Calls Tryz.prog 47 #[.string s] w fun e w' => UnqAns s e ∧ Below w.heap.size w w' := by
  go_enter Tryz.func47, Tryz.ntmps47
  go_wp2
  go_loopw [5, 6, 11] (fun v q i wr => ∃ (k n : Nat) (esc : Bool) (o : List UInt8), k ≤ s.size ∧ n ≤ k ∧ i = .int .i64 k ∧ q = .bool esc ∧ Hid (Own wr w.heap.size v o ∧ o.length = n ∧ UnqAt s.data.toList esc o k) ∧ Below w.heap.size w wr) (fun _ _ i _ => s.size - (intOf i).toNat)
  case atStart => exact ⟨0, 0, false, [], Nat.zero_le _, Nat.le_refl _, rfl, rfl, ⟨own_nil _ _, rfl, by unfold UnqAt; simp⟩, Below.refl _ _⟩
  case round =>
    obtain ⟨k, n, esc, o, hk, hn, rfl, rfl, HO, hb⟩ := hrel
    have hwz : w.heap.size ≤ wr.heap.size := hb.size
    by_cases hlt : k < s.size
    · obtain ⟨c, hcd⟩ : ∃ c : UInt8, s[k] = c := ⟨_, rfl⟩
      have hcl : (c.toNat : Int) < 256 := by have := c.toNat_lt; omega
      cases hf : textB c
      · have HA : Hid (unqL false s.data.toList = none) := unq_bad HO.out.2.2 hlt c hcd hf
        clear HO
        go_wp2_with (go_at_call 46; refine (text_any c _).mono ?_; rintro e w' ⟨rfl, hw⟩; obtain rfl := hw.symm; rw [hf])
        go_ret3
        exact ⟨.inr ⟨HA, rfl⟩, hb⟩
      · cases esc
        · by_cases h34 : c = 34
          · subst h34
            have HA : Hid (unqL false s.data.toList = some (o, k + 1)) := unq_mark HO.out.2.2 hlt hcd
            have hback := back_any HO.out.1
            have hf' := text_any 34
            go_wp2_with (go_at_call 46; refine (hf' _).mono ?_; rintro e w' ⟨rfl, hw⟩; obtain rfl := hw.symm; rw [hf])
            go_ret3
            exact ⟨.inl ⟨_, _, HA, by push_cast; rfl⟩, hb⟩
          · by_cases h92 : c = 92
            · subst h92
              have HA : Hid (UnqAt s.data.toList true o (k + 1)) := unq_stroke HO.out.2.2 hlt hcd
              have hf' := text_any 92
              go_wp2_with (go_at_call 46; refine (hf' _).mono ?_; rintro e w' ⟨rfl, hw⟩; obtain rfl := hw.symm; rw [hf])
              go_roundw
              case rel => exact ⟨k + 1, n, true, o, by omega, by omega, by go_num, rfl, ⟨HO.out.1, HO.out.2.1, HA⟩, hb⟩
              case measure => simp [intOf]; omega
            · have HA : Hid (UnqAt s.data.toList false (o ++ [c]) (k + 1)) := unq_byte HO.out.2.2 hlt c hcd hf h34 h92
              have q34 : ((c.toNat : Int) == 34) = false := beq_eq_false_iff_ne.2 fun h => h34 ((u8_is (n := 34) (by omega)).1 h)
              have q92 : ((c.toNat : Int) == 92) = false := beq_eq_false_iff_ne.2 fun h => h92 ((u8_is (n := 92) (by omega)).1 h)
              clear h34 h92
              go_wp2_with (first | (go_at_call 46; refine (text_any c _).mono ?_; rintro e w' ⟨rfl, hw⟩; obtain rfl := hw.symm; rw [hf]) | (at_builtin; refine wp_app1 rfl _ _ rfl w.heap.size w wr u5 o n rfl HO.out.1 HO.out.2.1 (by omega) hb hwz c _ (by rfl) rfl ?_; intro g4 cap4 w4 hown4 hb4 _ _; have HO4 : Hid (Own w4 w.heap.size (.slice (some ⟨g4, 0, none⟩) (n + 1) cap4) (o ++ [c])) := hown4; clear hown4))
              go_roundw
              case rel => exact ⟨k + 1, n + 1, false, o ++ [c], by omega, by omega, by go_num, rfl, ⟨HO4.out, by rw [List.length_append, HO.out.2.1]; rfl, HA⟩, hb4⟩
              case measure => simp [intOf]; omega
        · have HA : Hid (UnqAt s.data.toList false (o ++ [c]) (k + 1)) := unq_esc1 HO.out.2.2 hlt c hcd hf
          go_wp2_with (first | (go_at_call 46; refine (text_any c _).mono ?_; rintro e w' ⟨rfl, hw⟩; obtain rfl := hw.symm; rw [hf]) | (at_builtin; refine wp_app1 rfl _ _ rfl w.heap.size w wr u5 o n rfl HO.out.1 HO.out.2.1 (by omega) hb hwz c _ (by rfl) rfl ?_; intro g4 cap4 w4 hown4 hb4 _ _; have HO4 : Hid (Own w4 w.heap.size (.slice (some ⟨g4, 0, none⟩) (n + 1) cap4) (o ++ [c])) := hown4; clear hown4))
          go_roundw
          case rel => exact ⟨k + 1, n + 1, false, o ++ [c], by omega, by omega, by go_num, rfl, ⟨HO4.out, by rw [List.length_append, HO.out.2.1]; rfl, HA⟩, hb4⟩
          case measure => simp [intOf]; omega
    · have HA : Hid (unqL false s.data.toList = none) := unq_over HO.out.2.2 (by omega)
      clear HO
      go_wp2
      go_ret3
      exact ⟨.inr ⟨HA, rfl⟩, hb⟩
end Go.Proofs.YtgajhmmildbkfaaGreatDoor

/- The text between marks at a cursor, by the program. -/
namespace Go.Proofs.YtgajhmmildbkfaaGreatDoor
open Go.RowKit

theorem quotedL_end (s : ByteArray) : quotedL (s.data.toList.drop s.size) = none := by
  rw [List.drop_of_length_le (by rw [len_data]; exact Nat.le_refl _)]
  rfl
theorem quotedL_other (s : ByteArray) (k : Nat) (hk : k < s.size) (h : s[k] ≠ 34) : quotedL (s.data.toList.drop k) = none := by
  rw [drop_at s k hk _ rfl, quotedL, if_neg h]
theorem quotedL_mark (s : ByteArray) (k : Nat) (hk : k < s.size) (h : s[k] = 34) : quotedL (s.data.toList.drop k) = (unqL false (s.data.toList.drop (k + 1))).map fun x => (x.1, x.2 + 1) := by
  rw [drop_at s k hk 34 h, quotedL, if_pos rfl]
def QtdAns (b : Nat) (s : ByteArray) (k : Nat) (w : World) (e : Ending) (w' : World) : Prop :=
  (∃ (t : List UInt8) (n : Nat), quotedL (s.data.toList.drop k) = some (t, n) ∧ e = .returned (.tuple #[.string (bs t), .bool true]) ∧ Cur w' b s (k + n) ∧ w.grownBy w' (some b)) ∨
  (quotedL (s.data.toList.drop k) = none ∧ e = .returned (.tuple #[.string ⟨#[]⟩, .bool false]) ∧ Cur w' b s k ∧ w.grownBy w' (some b))
theorem qtd_none (b : Nat) (s : ByteArray) (k : Nat) (h : quotedL (s.data.toList.drop k) = none) (w : World) (hc : Cur w b s k)
    (hm : Calls Tryz.prog 44 #[.pointer (some ⟨b, 0, none⟩), .int .u8 34] w fun e w' => e = .returned (.bool false) ∧ ∃ n, w' = w.drewN n) :
    Calls Tryz.prog 20 #[.pointer (some ⟨b, 0, none⟩)] w (QtdAns b s k w) := by
  have HC : Hid (Cur w b s k) := hc
  have HA : Hid (quotedL (s.data.toList.drop k) = none) := h
  clear h
  obtain ⟨h1, h2, h3, h4⟩ := hc
  go_enter Tryz.func20, Tryz.ntmps20
  go_wp2_with (go_at_call 44; refine hm.mono ?_; rintro e w' ⟨rfl, n, hw⟩; obtain rfl := hw)
  go_ret2
  exact .inr ⟨HA, rfl, (HC.out.drewN _).set _ h4 _ rfl, grown_trans (grown_drewN w _ _) (grown_set _ _ _ _)⟩
theorem keepC {w W W' : World} {b : Nat} {s : ByteArray} {k : Nat} {x : Int} (h : W.cell? ⟨b, 0, none⟩ = some (.string s) ∧ W.cell? ⟨b, 1, none⟩ = some (.int .i64 x) ∧ Hid (Cur W b s k ∧ w.grownBy W (some b))) (hb : Below W.heap.size W W') :
    W'.cell? ⟨b, 0, none⟩ = some (.string s) ∧ W'.cell? ⟨b, 1, none⟩ = some (.int .i64 x) ∧ Hid (Cur W' b s k ∧ w.grownBy W' (some b)) := by
  obtain ⟨h1, h2, h3⟩ := h
  have hlt := h3.out.1.lt
  exact ⟨(hb.cell (p := ⟨b, 0, none⟩) hlt).trans h1, (hb.cell (p := ⟨b, 1, none⟩) hlt).trans h2, h3.out.1.below hb, grown_trans h3.out.2 (grown_below hb _)⟩
set_option maxRecDepth 100000 in
set_option maxHeartbeats 2000000 in
theorem quoted_any (b : Nat) (s : ByteArray) (hs : s.size ≤ 5000) (k : Nat) (w : World) (hc : Cur w b s k) :
    Calls Tryz.prog 20 #[.pointer (some ⟨b, 0, none⟩)] w (QtdAns b s k w) := by
  by_cases hk : k < s.size
  · by_cases h34 : s[k] = 34
    · have HC : Hid (Cur w b s k) := hc
      have HQ : Hid (quotedL (s.data.toList.drop k) = (unqL false (s.data.toList.drop (k + 1))).map fun x => (x.1, x.2 + 1)) := quotedL_mark s k hk h34
      have hm := mark_yes b s (by omega) k hk 34 h34 w hc
      obtain ⟨r, HR⟩ : ∃ r : ByteArray, Hid (s.extract (k + 1) s.size = r) := ⟨_, rfl⟩
      have hr : r.size ≤ 5000 := by rw [← HR.out, rest_size]; omega
      have HD : Hid (r.data.toList = s.data.toList.drop (k + 1)) := by show _ = _; rw [← HR.out, from_data]
      obtain ⟨h1, h2, h3, h4⟩ := hc
      clear h34
      obtain ⟨p, hp⟩ : ∃ p : Nat, k + 1 = p := ⟨_, rfl⟩
      have HP : Hid (k + 1 = p) := hp
      have hp0 : (0 : Int) ≤ (p : Int) := by omega
      have hpS : (p : Int) ≤ (s.size : Int) := by omega
      rw [hp] at HR HD HQ hm
      clear hp
      rcases hu : unqL false r.data.toList with _ | ⟨t, n⟩
      · have hU : ∀ w, Calls Tryz.prog 47 #[.string r] w fun e w' => e = .returned (.tuple #[.string ⟨#[]⟩, .int .i64 0, .bool false]) ∧ Below w.heap.size w w' := fun w => by
          refine (unquote_any r hr w).mono ?_
          rintro e w' ⟨⟨t, n, h, _⟩ | ⟨_, rfl⟩, hb⟩
          · rw [hu] at h; cases h
          · exact ⟨rfl, hb⟩
        have HA : Hid (quotedL (s.data.toList.drop k) = none) := by show _ = _; rw [HQ.out, ← HD.out, hu]; rfl
        clear hu
        go_enter Tryz.func20, Tryz.ntmps20
        go_wp2_with (go_at_call 44; refine hm.mono ?_; rintro e w1 ⟨rfl, hc1, hg1⟩)
        have hQ : w1.drew.cell? ⟨b, 0, none⟩ = some (.string s) ∧ w1.drew.cell? ⟨b, 1, none⟩ = some (.int .i64 (p : Int)) ∧ Hid (Cur w1.drew b s p ∧ w.grownBy w1.drew (some b)) :=
          ⟨hc1.text, hc1.place, hc1.drew, ⟨hg1.os, hg1.tape, hg1.output, hg1.size, hg1.block⟩⟩
        go_region_held3 (fun W => W.cell? ⟨b, 0, none⟩ = some (.string s) ∧ W.cell? ⟨b, 1, none⟩ = some (.int .i64 (p : Int)) ∧ Hid (Cur W b s p ∧ w.grownBy W (some b))) (first | assumption | exact hQ) (
          (go_at_call 47; rw [HR.out]; refine (hU _).mono ?_; rintro e w3 ⟨rfl, hb3⟩; have hQ3 := keepC (by assumption) hb3))
        obtain ⟨q1, q2, q3⟩ := hQ3
        have q4 := q3.out.1.free
        go_wp2
        go_ret2
        exact .inr ⟨HA, rfl, q3.out.1.set _ h4 _ rfl, grown_trans q3.out.2 (grown_set _ _ _ _)⟩
      · have hU : ∀ w, Calls Tryz.prog 47 #[.string r] w fun e w' => e = .returned (.tuple #[.string (bs t), .int .i64 (n : Int), .bool true]) ∧ Below w.heap.size w w' := fun w => by
          refine (unquote_any r hr w).mono ?_
          rintro e w' ⟨⟨t', n', h, rfl⟩ | ⟨h, _⟩, hb⟩
          · rw [hu] at h; cases h; exact ⟨rfl, hb⟩
          · rw [hu] at h; cases h
        have HA : Hid (quotedL (s.data.toList.drop k) = some (t, n + 1)) := by show _ = _; rw [HQ.out, ← HD.out, hu]; rfl
        have hn : p + n ≤ s.size := by
          have := (unq_size _ _ _ _ hu).2
          rw [HD.out, List.length_drop, len_data] at this
          omega
        clear hu
        obtain ⟨x, HX⟩ : ∃ x : ByteArray, Hid (bs t = x) := ⟨_, rfl⟩
        rw [HX.out] at hU
        go_enter Tryz.func20, Tryz.ntmps20
        go_wp2_with (go_at_call 44; refine hm.mono ?_; rintro e w1 ⟨rfl, hc1, hg1⟩)
        have hQ : w1.drew.cell? ⟨b, 0, none⟩ = some (.string s) ∧ w1.drew.cell? ⟨b, 1, none⟩ = some (.int .i64 (p : Int)) ∧ Hid (Cur w1.drew b s p ∧ w.grownBy w1.drew (some b)) :=
          ⟨hc1.text, hc1.place, hc1.drew, ⟨hg1.os, hg1.tape, hg1.output, hg1.size, hg1.block⟩⟩
        go_region_held3 (fun W => W.cell? ⟨b, 0, none⟩ = some (.string s) ∧ W.cell? ⟨b, 1, none⟩ = some (.int .i64 (p : Int)) ∧ Hid (Cur W b s p ∧ w.grownBy W (some b))) (first | assumption | exact hQ) (
          (go_at_call 47; rw [HR.out]; refine (hU _).mono ?_; rintro e w3 ⟨rfl, hb3⟩; have hQ3 := keepC (by assumption) hb3))
        obtain ⟨q1, q2, q3⟩ := hQ3
        have q4 := q3.out.1.free
        go_wp2
        go_ret2
        exact .inl ⟨t, n + 1, HA, by rw [HX.out]; rfl, by rw [show k + (n + 1) = p + n by have := HP.out; omega]; exact q3.out.1.set _ hn _ (by push_cast; rfl), grown_trans q3.out.2 (grown_set _ _ _ _)⟩
    · exact qtd_none b s k (quotedL_other s k hk h34) w hc (mark_other b s k hk 34 h34 w hc)
  · obtain rfl : k = s.size := by have := hc.le; omega
    exact qtd_none b s s.size (quotedL_end s) w hc (mark_end b s 34 w hc)
end Go.Proofs.YtgajhmmildbkfaaGreatDoor

/- A cursor by what stands behind it. -/
namespace Go.Proofs.YtgajhmmildbkfaaGreatDoor
open Go.RowKit

/-- A cursor at block b, and what stands behind it. -/
def CurR (w : World) (b : Nat) (s : ByteArray) (r : List UInt8) : Prop := Cur w b s (s.size - r.length) ∧ r <:+ s.data.toList
theorem suff_drop {r l : List UInt8} (h : r <:+ l) : l.drop (l.length - r.length) = r := by
  obtain ⟨p, rfl⟩ := h
  rw [List.length_append, Nat.add_sub_cancel, List.drop_left]
theorem suff_len {r l : List UInt8} (h : r <:+ l) : r.length ≤ l.length := h.length_le
theorem CurR.rest {w : World} {b : Nat} {s : ByteArray} {r : List UInt8} (h : CurR w b s r) : s.data.toList.drop (s.size - r.length) = r := by
  have := suff_drop h.2
  rw [len_data] at this
  exact this
theorem CurR.len {w : World} {b : Nat} {s : ByteArray} {r : List UInt8} (h : CurR w b s r) : r.length ≤ s.size := by
  have := suff_len h.2
  rw [len_data] at this
  exact this
theorem CurR.mk' {w : World} {b k : Nat} {s : ByteArray} {r r' : List UInt8} (h : r <:+ s.data.toList) (hr : r' <:+ r) (hc : Cur w b s k) (hk : k + r'.length = s.size) : CurR w b s r' := by
  refine ⟨?_, hr.trans h⟩
  rw [show s.size - r'.length = k by omega]
  exact hc
theorem CurR.grown {w w' : World} {b : Nat} {s : ByteArray} {r : List UInt8} {row : Option Nat} (h : CurR w b s r) (hg : w.grownBy w' row) (hr : some b ≠ row) : CurR w' b s r := ⟨h.1.grown hg hr, h.2⟩
theorem CurR.below {w w' : World} {b : Nat} {s : ByteArray} {r : List UInt8} (h : CurR w b s r) (hb : Below w.heap.size w w') : CurR w' b s r := ⟨h.1.below hb, h.2⟩
theorem CurR.drewN {w : World} {b : Nat} {s : ByteArray} {r : List UInt8} (h : CurR w b s r) (n : Nat) : CurR (w.drewN n) b s r := ⟨h.1.drewN n, h.2⟩
theorem CurR.lt {w : World} {b : Nat} {s : ByteArray} {r : List UInt8} (h : CurR w b s r) : b < w.heap.size := h.1.lt
theorem dw_suff (f : UInt8 → Bool) (l : List UInt8) : l.dropWhile f <:+ l := List.dropWhile_suffix f
theorem run_dw (f : UInt8 → Bool) (l : List UInt8) : runL f l + (l.dropWhile f).length = l.length := by
  have := congrArg List.length (List.takeWhile_append_dropWhile (p := f) (l := l))
  rw [List.length_append] at this
  exact this
theorem run_pos (f : UInt8 → Bool) (l : List UInt8) : 0 < runL f l ↔ l.takeWhile f ≠ [] := by
  unfold runL
  rw [List.length_pos_iff]
theorem rd_blanks (b : Nat) (s : ByteArray) (hs : s.size ≤ 3000) (r : List UInt8) (w : World) (hc : CurR w b s r) :
    Calls Tryz.prog 42 #[.pointer (some ⟨b, 0, none⟩)] w fun e w' => e = .returned (.bool (decide (0 < runL blankB r))) ∧ CurR w' b s (r.dropWhile blankB) ∧ w.grownBy w' (some b) := by
  refine (blanks_any b s (by omega) _ w hc.1).mono ?_
  rintro e w' ⟨rfl, h, hg⟩
  rw [hc.rest] at h ⊢
  refine ⟨rfl, CurR.mk' hc.2 (dw_suff _ _) h ?_, hg⟩
  have := run_dw blankB r
  have := hc.len
  omega
theorem rd_word (b : Nat) (s : ByteArray) (hs : s.size ≤ 3000) (r : List UInt8) (w : World) (hc : CurR w b s r) :
    Calls Tryz.prog 43 #[.pointer (some ⟨b, 0, none⟩)] w fun e w' => ∃ t : ByteArray, e = .returned (.string t) ∧ t.size = runL tokB r ∧ Hid (t = bs (r.takeWhile tokB)) ∧ CurR w' b s (r.dropWhile tokB) ∧ w.grownBy w' (some b) := by
  refine (word_any b s (by omega) _ w hc.1).mono ?_
  rintro e w' ⟨t, rfl, ht, HT, h, hg⟩
  rw [hc.rest] at h ht HT
  refine ⟨t, rfl, ht, bs_of HT.out, CurR.mk' hc.2 (dw_suff _ _) h ?_, hg⟩
  have := run_dw tokB r
  have := hc.len
  omega
theorem curR_cons {w : World} {b : Nat} {s : ByteArray} {c : UInt8} {t : List UInt8} (h : CurR w b s (c :: t)) : ∃ hk : s.size - (c :: t).length < s.size, s[s.size - (c :: t).length] = c := by
  have hl := h.len
  have hk : s.size - (c :: t).length < s.size := by rw [List.length_cons] at hl ⊢; omega
  refine ⟨hk, ?_⟩
  have := h.rest
  rw [List.drop_eq_getElem_cons (by rw [len_data]; exact hk)] at this
  exact (List.cons.inj this).1
theorem rd_mark_yes (b : Nat) (s : ByteArray) (hs : s.size ≤ 3000) (c : UInt8) (t : List UInt8) (w : World) (hc : CurR w b s (c :: t)) :
    Calls Tryz.prog 44 #[.pointer (some ⟨b, 0, none⟩), .int .u8 (c.toNat : Int)] w fun e w' => e = .returned (.bool true) ∧ CurR w' b s t ∧ w.grownBy w' (some b) := by
  obtain ⟨hk, he⟩ := curR_cons hc
  refine (mark_yes b s (by omega) _ hk c he w hc.1).mono ?_
  rintro e w' ⟨rfl, h, hg⟩
  refine ⟨rfl, CurR.mk' hc.2 (List.suffix_cons c t) h ?_, hg⟩
  have := hc.len
  rw [List.length_cons] at this ⊢
  omega
theorem rd_mark_no (b : Nat) (s : ByteArray) (c : UInt8) (r : List UInt8) (hr : ∀ t, r ≠ c :: t) (w : World) (hc : CurR w b s r) :
    Calls Tryz.prog 44 #[.pointer (some ⟨b, 0, none⟩), .int .u8 (c.toNat : Int)] w fun e w' => e = .returned (.bool false) ∧ ∃ n, w' = w.drewN n := by
  cases r with
  | nil =>
    have h := hc.1
    rw [List.length_nil, Nat.sub_zero] at h
    exact mark_end b s c w h
  | cons d t =>
    obtain ⟨hk, he⟩ := curR_cons hc
    exact mark_other b s _ hk c (by rw [he]; intro e; exact hr t (by rw [e])) w hc.1
theorem rd_at (b : Nat) (s : ByteArray) (r : List UInt8) (w : World) (hc : CurR w b s r) :
    Calls Tryz.prog 22 #[.pointer (some ⟨b, 0, none⟩)] w fun e w' => e = .returned (.int .i64 ((s.size - r.length : Nat) : Int)) ∧ w' = w := at_any b s _ w hc.1
theorem rd_end (b : Nat) (s : ByteArray) (r : List UInt8) (w : World) (hc : CurR w b s r) :
    Calls Tryz.prog 31 #[.pointer (some ⟨b, 0, none⟩)] w fun e w' => e = .returned (.bool r.isEmpty) ∧ ∃ n, w' = w.drewN n := by
  refine (end_any b s _ w hc.1).mono ?_
  rintro e w' ⟨rfl, h⟩
  refine ⟨ret_bool ?_, h⟩
  have hl := hc.len
  cases r with
  | nil => simp
  | cons c t =>
    rw [List.length_cons] at hl ⊢
    rw [List.isEmpty_cons, beq_eq_false_iff_ne]
    omega
theorem rd_go (b : Nat) (s : ByteArray) (r r' : List UInt8) (hr : r' <:+ s.data.toList) (m : Int) (hm : m = ((s.size - r'.length : Nat) : Int)) (w : World) (hc : CurR w b s r) :
    Calls Tryz.prog 78 #[.pointer (some ⟨b, 0, none⟩), .int .i64 m] w fun e w' => e = .returned (.tuple #[]) ∧ CurR w' b s r' ∧ w.grownBy w' (some b) := by
  subst hm
  refine (go_any b s _ _ w hc.1).mono ?_
  rintro e w' ⟨rfl, h, hg⟩
  have hl := suff_len hr
  rw [len_data] at hl
  refine ⟨rfl, ⟨?_, hr⟩, hg⟩
  have : clampK s.size ((s.size - r'.length : Nat) : Int) = s.size - r'.length := by unfold clampK; omega
  rw [this] at h
  exact h
theorem rd_quoted (b : Nat) (s : ByteArray) (hs : s.size ≤ 3000) (r : List UInt8) (w : World) (hc : CurR w b s r) :
    Calls Tryz.prog 20 #[.pointer (some ⟨b, 0, none⟩)] w fun e w' =>
      ((∃ (t : List UInt8) (n : Nat), quotedL r = some (t, n) ∧ e = .returned (.tuple #[.string (bs t), .bool true]) ∧ CurR w' b s (r.drop n)) ∨ (quotedL r = none ∧ e = .returned (.tuple #[.string ⟨#[]⟩, .bool false]) ∧ CurR w' b s r)) ∧ w.grownBy w' (some b) := by
  refine (quoted_any b s (by omega) _ w hc.1).mono ?_
  intro e w' h
  unfold QtdAns at h
  rw [hc.rest] at h
  rcases h with ⟨t, n, h1, h2, h3, h4⟩ | ⟨h1, h2, h3, h4⟩
  · refine ⟨.inl ⟨t, n, h1, h2, CurR.mk' hc.2 (List.drop_suffix _ _) h3 ?_⟩, h4⟩
    have := (quoted_size _ _ _ h1).2
    have := hc.len
    rw [List.length_drop]
    omega
  · exact ⟨.inr ⟨h1, h2, ⟨h3, hc.2⟩⟩, h4⟩
end Go.Proofs.YtgajhmmildbkfaaGreatDoor

/- The reader of a header: gaps, ends, names and values, by the program. -/
namespace Go.Proofs.YtgajhmmildbkfaaGreatDoor
open Go.RowKit

theorem gap_blank (l : List UInt8) : (l.dropWhile blankB).dropWhile gapB = l.dropWhile gapB := by
  induction l with
  | nil => rfl
  | cons c t ih =>
    by_cases h : blankB c = true
    · have h2 : gapB c = true := by unfold gapB; rw [h]; rfl
      rw [List.dropWhile_cons_of_pos h, List.dropWhile_cons_of_pos h2, ih]
    · rw [List.dropWhile_cons_of_neg h]
theorem gap_comma (t : List UInt8) : (44 :: t).dropWhile gapB = t.dropWhile gapB := List.dropWhile_cons_of_pos (by decide)
theorem gap_none (l : List UInt8) (h : runL blankB l = 0) (h2 : ∀ t, l ≠ 44 :: t) : l.dropWhile gapB = l := by
  cases l with
  | nil => rfl
  | cons c t =>
    have h3 : blankB c = false := by
      cases hb : blankB c
      · rfl
      · unfold runL at h
        rw [List.takeWhile_cons_of_pos hb] at h
        cases h
    have h4 : gapB c = false := by
      unfold gapB
      rw [h3, Bool.false_or, beq_eq_false_iff_ne]
      intro e
      exact h2 t (by rw [e])
    rw [List.dropWhile_cons_of_neg (by rw [h4]; simp)]
theorem run_zero (l : List UInt8) (f : UInt8 → Bool) (h : ¬ 0 < runL f l) : l.dropWhile f = l := by
  cases l with
  | nil => rfl
  | cons c t =>
    cases hb : f c
    · rw [List.dropWhile_cons_of_neg (by rw [hb]; simp)]
    · unfold runL at h
      rw [List.takeWhile_cons_of_pos hb] at h
      simp at h
theorem box_reader {w w' : World} {b : Nat} {s : ByteArray} {row : Option Nat} (hg : (w.alloc (.cells #[.pointer (some ⟨b, 0, none⟩), .string s] 66)).grownBy w' row) (hr : some w.heap.size ≠ row) :
    w'.cell? ⟨w.heap.size, 0, none⟩ = some (.pointer (some ⟨b, 0, none⟩)) ∧ w'.cell? ⟨w.heap.size, 1, none⟩ = some (.string s) :=
  ⟨hg.cell (World.cell?_alloc_mark _ _ _ _ _) hr, hg.cell (World.cell?_alloc_mark _ _ _ _ _) hr⟩
theorem grown_alloc (w : World) (o : Obj) (row : Option Nat) : w.grownBy (w.alloc o) row := grown_below ((Below.refl _ _).alloc (Nat.le_refl _) _) row
set_option maxRecDepth 100000 in
set_option maxHeartbeats 2000000 in
theorem gaps_any (b : Nat) (s : ByteArray) (hs : s.size ≤ 3000) (r : List UInt8) (w : World) (hc : CurR w b s r) :
    Calls Tryz.prog 30 #[.agg #[.pointer (some ⟨b, 0, none⟩), .string s]] w fun e w' => e = .returned (.tuple #[]) ∧ CurR w' b s (r.dropWhile gapB) ∧ w.grownBy w' (some b) := by
  have hbl := hc.lt
  have HC1 : Hid (CurR (w.alloc (.cells #[.pointer (some ⟨b, 0, none⟩), .string s] 66)) b s r) := hc.below ((Below.refl _ _).alloc (Nat.le_refl _) _)
  have HG1 : Hid (w.grownBy (w.alloc (.cells #[.pointer (some ⟨b, 0, none⟩), .string s] 66)) (some b)) := grown_alloc _ _ _
  have hne : some w.heap.size ≠ some b := by intro e; injection e with e; omega
  clear hc
  go_enter Tryz.func30, Tryz.ntmps30
  go_wp2
  go_loopg [] r.length (fun gh wr => ∃ r', r'.length = gh ∧ Hid (CurR wr b s r' ∧ r'.dropWhile gapB = r.dropWhile gapB ∧ (w.alloc (.cells #[.pointer (some ⟨b, 0, none⟩), .string s] 66)).grownBy wr (some b)))
  case atStart => exact ⟨r, rfl, HC1.out, rfl, grown_drewN _ 0 _⟩
  case round =>
    obtain ⟨r', hr', HI⟩ := hrel
    obtain ⟨hx0, hx1⟩ := box_reader HI.out.2.2 hne
    by_cases hbk : 0 < runL blankB r'
    · have hdw := run_dw blankB r'
      go_wp2_with fail
      refine (rd_blanks b s hs r' _ HI.out.1).mono ?_
      rintro e w2 ⟨rfl, hc2, hg2⟩
      rw [decide_eq_true hbk]
      have HI2 : Hid (CurR w2 b s (r'.dropWhile blankB) ∧ (r'.dropWhile blankB).dropWhile gapB = r.dropWhile gapB ∧ (w.alloc (.cells #[.pointer (some ⟨b, 0, none⟩), .string s] 66)).grownBy w2 (some b)) := ⟨hc2, (gap_blank r').trans HI.out.2.1, grown_trans HI.out.2.2 hg2⟩
      clear hc2 hg2
      go_wp2
      go_roundg (r'.dropWhile blankB).length
      case measure => omega
      case rel => exact ⟨_, rfl, HI2⟩
    · have hdw := run_zero r' blankB hbk
      have HNB : Hid (runL blankB r' = 0) := by show _ = _; omega
      go_wp2_with fail
      refine (rd_blanks b s hs r' _ HI.out.1).mono ?_
      rintro e w2 ⟨rfl, hc2, hg2⟩
      rw [decide_eq_false hbk]
      rw [hdw] at hc2
      have HI2 : Hid (CurR w2 b s r' ∧ (w.alloc (.cells #[.pointer (some ⟨b, 0, none⟩), .string s] 66)).grownBy w2 (some b)) := ⟨hc2, grown_trans HI.out.2.2 hg2⟩
      obtain ⟨hy0, hy1⟩ := box_reader HI2.out.2 hne
      clear hc2 hg2 hdw hbk hx0 hx1
      by_cases hcm : ∃ t, r' = 44 :: t
      · obtain ⟨t, rfl⟩ := hcm
        have HL : Hid (t.length < (44 :: t : List UInt8).length) := by show _ < _; simp
        go_wp2_with fail
        refine (rd_mark_yes b s hs 44 t _ HI2.out.1).mono ?_
        rintro e w3 ⟨rfl, hc3, hg3⟩
        have HI3 : Hid (CurR w3 b s t ∧ t.dropWhile gapB = r.dropWhile gapB ∧ (w.alloc (.cells #[.pointer (some ⟨b, 0, none⟩), .string s] 66)).grownBy w3 (some b)) := ⟨hc3, (gap_comma t).symm.trans HI.out.2.1, grown_trans HI2.out.2 hg3⟩
        clear hc3 hg3
        go_wp2
        go_roundg t.length
        case measure => have := HL.out; omega
        case rel => exact ⟨_, rfl, HI3⟩
      · have HE : Hid (r.dropWhile gapB = r') := by
          have h1 := gap_none r' HNB.out (fun t e => hcm ⟨t, e⟩)
          show _ = _
          rw [← HI.out.2.1, h1]
        go_wp2_with fail
        refine (rd_mark_no b s 44 r' (fun t e => hcm ⟨t, e⟩) _ HI2.out.1).mono ?_
        rintro e w3 ⟨rfl, n, rfl⟩
        go_wp2
        refine bodyPost_end (v := .tuple #[]) (by simp [results, Tryz.f30]) rfl ⟨rfl, ?_, ?_⟩
        · rw [HE.out]; exact HI2.out.1.drewN _
        · exact grown_trans HG1.out (grown_trans HI2.out.2 (grown_drewN _ _ _))
set_option maxRecDepth 100000 in
set_option maxHeartbeats 2000000 in
theorem over_at (b : Nat) (s : ByteArray) (r : List UInt8) (w : World) (hc : CurR w b s r) :
    Calls Tryz.prog 54 #[.agg #[.pointer (some ⟨b, 0, none⟩), .string s]] w fun e w' => e = .returned (.bool (stopsL r)) ∧ CurR w' b s r ∧ w.grownBy w' (some b) := by
  have hbl := hc.lt
  have HC1 : Hid (CurR (w.alloc (.cells #[.pointer (some ⟨b, 0, none⟩), .string s] 66)) b s r) := hc.below ((Below.refl _ _).alloc (Nat.le_refl _) _)
  have HG1 : Hid (w.grownBy (w.alloc (.cells #[.pointer (some ⟨b, 0, none⟩), .string s] 66)) (some b)) := grown_alloc _ _ _
  have hend : ∀ n, Calls Tryz.prog 31 #[.pointer (some ⟨b, 0, none⟩)] ((w.alloc (.cells #[.pointer (some ⟨b, 0, none⟩), .string s] 66)).drewN n) fun e w' => e = .returned (.bool r.isEmpty) ∧ ∃ m, w' = ((w.alloc (.cells #[.pointer (some ⟨b, 0, none⟩), .string s] 66)).drewN n).drewN m := fun n => rd_end b s r _ (HC1.out.drewN n)
  have hat : ∀ n, Calls Tryz.prog 22 #[.pointer (some ⟨b, 0, none⟩)] ((w.alloc (.cells #[.pointer (some ⟨b, 0, none⟩), .string s] 66)).drewN n) fun e w' => e = .returned (.int .i64 ((s.size - r.length : Nat) : Int)) ∧ w' = (w.alloc (.cells #[.pointer (some ⟨b, 0, none⟩), .string s] 66)).drewN n := fun n => rd_at b s r _ (HC1.out.drewN n)
  cases r with
  | nil =>
    have hend' : ∀ n, Calls Tryz.prog 31 #[.pointer (some ⟨b, 0, none⟩)] ((w.alloc (.cells #[.pointer (some ⟨b, 0, none⟩), .string s] 66)).drewN n) fun e w' => e = .returned (.bool true) ∧ ∃ m, w' = ((w.alloc (.cells #[.pointer (some ⟨b, 0, none⟩), .string s] 66)).drewN n).drewN m := hend
    clear hend hat hc
    go_enter Tryz.func54, Tryz.ntmps54
    go_wp2
    go_quiet ((go_at_call 31; exact Calls.quiet_of (hend' _)))
    go_wp2
    go_ret
    exact ⟨rfl, HC1.out.drewN _, grown_trans HG1.out (grown_drewN _ _ _)⟩
  | cons c t =>
    have hend' : ∀ n, Calls Tryz.prog 31 #[.pointer (some ⟨b, 0, none⟩)] ((w.alloc (.cells #[.pointer (some ⟨b, 0, none⟩), .string s] 66)).drewN n) fun e w' => e = .returned (.bool false) ∧ ∃ m, w' = ((w.alloc (.cells #[.pointer (some ⟨b, 0, none⟩), .string s] 66)).drewN n).drewN m := hend
    obtain ⟨hk, he⟩ := curR_cons hc
    obtain ⟨k, HK⟩ : ∃ k, Hid (s.size - (c :: t).length = k) := ⟨_, rfl⟩
    rw [HK.out] at hat
    have hk2 : k < s.size := by rw [← HK.out]; exact hk
    have he2 : s[k] = c := by
      have := he
      simp only [HK.out] at this
      exact this
    have HS : Hid (stopsL (c :: t) = ((c.toNat : Int) == 44)) := by
      show _ = _
      unfold stopsL
      rw [Bool.eq_iff_iff, beq_iff_eq, beq_iff_eq]
      constructor
      · rintro rfl; rfl
      · intro e; exact UInt8.toNat_inj.1 (by have : (44 : UInt8).toNat = 44 := rfl; omega)
    clear hend hc hk he
    have hkS : (k : Int) < (s.size : Int) := by omega
    go_enter Tryz.func54, Tryz.ntmps54
    go_wp2
    go_quiet (first | (go_at_call 31; exact Calls.quiet_of (hend' _)) | (go_at_call 22; exact Calls.quiet_of_same (hat _)))
    go_wp2
    go_ret
    exact ⟨ret_bool HS.out.symm, HC1.out.drewN _, grown_trans HG1.out (grown_drewN _ _ _)⟩
end Go.Proofs.YtgajhmmildbkfaaGreatDoor
