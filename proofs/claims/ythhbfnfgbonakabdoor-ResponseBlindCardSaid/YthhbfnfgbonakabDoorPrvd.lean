/- The fact that proofs are made: RFC 2617's own example, and one by user and password. -/
import Derived.Test.YthhbfnfgbonakabDoorRsp5
import Derived.Test.YthhbfnfgbonakabDoorBsc
namespace Go.Proofs.YthhbfnfgbonakabDoor
open Go.RowKit

def mufA : PfA := ⟨2, ⟨#[116, 101, 115, 116, 114, 101, 97, 108, 109, 64, 104, 111, 115, 116, 46, 99, 111, 109]⟩, ⟨#[100, 99, 100, 57, 56, 98, 55, 49, 48, 50, 100, 100, 50, 102, 48, 101, 56, 98, 49, 49, 100, 48, 102, 54, 48, 48, 98, 102, 98, 48, 99, 48, 57, 51]⟩, ⟨#[]⟩, false, ⟨#[97, 117, 116, 104]⟩⟩
def mufR : PfR := ⟨⟨#[77, 117, 102, 97, 115, 97]⟩, ⟨#[67, 105, 114, 99, 108, 101, 32, 79, 102, 32, 76, 105, 102, 101]⟩, ⟨#[71, 69, 84]⟩, ⟨#[47, 100, 105, 114, 47, 105, 110, 100, 101, 120, 46, 104, 116, 109, 108]⟩, ⟨#[]⟩, ⟨#[48, 97, 52, 102, 49, 49, 51, 98]⟩⟩
set_option maxRecDepth 100000 in
theorem muf_resp : bs (respL mufA mufR 1) = ⟨#[54, 54, 50, 57, 102, 97, 101, 52, 57, 51, 57, 51, 97, 48, 53, 51, 57, 55, 52, 53, 48, 57, 55, 56, 53, 48, 55, 99, 52, 101, 102, 49]⟩ := by
  have e1 : whoL mufA mufR = [57, 51, 57, 101, 55, 53, 55, 56, 101, 100, 57, 101, 51, 99, 53, 49, 56, 97, 52, 53, 50, 97, 99, 101, 101, 55, 54, 51, 98, 99, 101, 57] := by decide +kernel
  have e2 : twoL mufA mufR = [51, 57, 97, 102, 102, 51, 97, 50, 98, 97, 98, 54, 49, 50, 54, 102, 51, 51, 50, 98, 57, 52, 50, 97, 102, 57, 54, 100, 51, 51, 54, 54] := by decide +kernel
  have e3 : respL mufA mufR 1 = sumT 2 [whoL mufA mufR, mufA.nonce.data.toList, countL 1, mufR.cnonce.data.toList, mufA.qop.data.toList, twoL mufA mufR] := rfl
  rw [e3, e1, e2]
  have e4 : sumT 2 [[57, 51, 57, 101, 55, 53, 55, 56, 101, 100, 57, 101, 51, 99, 53, 49, 56, 97, 52, 53, 50, 97, 99, 101, 101, 55, 54, 51, 98, 99, 101, 57], mufA.nonce.data.toList, countL 1, mufR.cnonce.data.toList, mufA.qop.data.toList, [51, 57, 97, 102, 102, 51, 97, 50, 98, 97, 98, 54, 49, 50, 54, 102, 51, 51, 50, 98, 57, 52, 50, 97, 102, 57, 54, 100, 51, 51, 54, 54]] = [54, 54, 50, 57, 102, 97, 101, 52, 57, 51, 57, 51, 97, 48, 53, 51, 57, 55, 52, 53, 48, 57, 55, 56, 53, 48, 55, 99, 52, 101, 102, 49] := by decide +kernel
  rw [e4]
  rfl
set_option maxRecDepth 100000 in
theorem ala_bas : basO [65, 108, 97, 100, 100, 105, 110] [111, 112, 101, 110, 32, 115, 101, 115, 97, 109, 101] = .ok [66, 97, 115, 105, 99, 32, 81, 87, 120, 104, 90, 71, 82, 112, 98, 106, 112, 118, 99, 71, 86, 117, 73, 72, 78, 108, 99, 50, 70, 116, 90, 81, 61, 61] := by kernel_rfl
theorem cnt_255 : bs (countL 255) = ⟨#[48, 48, 48, 48, 48, 48, 102, 102]⟩ := by kernel_rfl
set_option maxRecDepth 100000 in
set_option maxHeartbeats 2000000 in
theorem proved_any (w : World) (HT : Hid (Tabs w)) : Calls Tryd.prog 4 #[] w fun e w' => e = .returned (.bool true) ∧ Below w.heap.size w w' := by
  have h1 : ∀ w, Calls Tryd.prog 8 #[.agg #[.string ⟨#[65, 108, 97, 100, 100, 105, 110]⟩, .string ⟨#[111, 112, 101, 110, 32, 115, 101, 115, 97, 109, 101]⟩]] w fun e w' => e = .returned (.tuple #[.string ⟨#[66, 97, 115, 105, 99, 32, 81, 87, 120, 104, 90, 71, 82, 112, 98, 106, 112, 118, 99, 71, 86, 117, 73, 72, 78, 108, 99, 50, 70, 116, 90, 81, 61, 61]⟩, .nilIface]) ∧ Below w.heap.size w w' := fun w => by
    refine (basic_any ⟨#[65, 108, 97, 100, 100, 105, 110]⟩ ⟨#[111, 112, 101, 110, 32, 115, 101, 115, 97, 109, 101]⟩ (by decide) w).mono ?_
    rintro e w' ⟨ha, hb⟩
    refine ⟨?_, hb⟩
    have e1 : BasAns [65, 108, 97, 100, 100, 105, 110] [111, 112, 101, 110, 32, 115, 101, 115, 97, 109, 101] e := ha
    unfold BasAns at e1
    rw [ala_bas] at e1
    exact e1
  have h2 : ∀ w, Hid (Bruijn w) → Calls Tryd.prog 9 #[.int .i64 255] w fun e w' => e = .returned (.string ⟨#[48, 48, 48, 48, 48, 48, 102, 102]⟩) ∧ Below w.heap.size w w' := fun w HD => by
    rw [← cnt_255]
    exact count_any 255 (by omega) w HD
  have h3 : ∀ w, Hid (Tabs w) → Calls Tryd.prog 7 #[.agg #[.int .i64 2, .string ⟨#[116, 101, 115, 116, 114, 101, 97, 108, 109, 64, 104, 111, 115, 116, 46, 99, 111, 109]⟩, .string ⟨#[100, 99, 100, 57, 56, 98, 55, 49, 48, 50, 100, 100, 50, 102, 48, 101, 56, 98, 49, 49, 100, 48, 102, 54, 48, 48, 98, 102, 98, 48, 99, 48, 57, 51]⟩, .string ⟨#[]⟩, .bool false, .string ⟨#[97, 117, 116, 104]⟩, .bool false, .slice none 0 0], .agg #[.string ⟨#[77, 117, 102, 97, 115, 97]⟩, .string ⟨#[67, 105, 114, 99, 108, 101, 32, 79, 102, 32, 76, 105, 102, 101]⟩], .string ⟨#[71, 69, 84]⟩, .string ⟨#[47, 100, 105, 114, 47, 105, 110, 100, 101, 120, 46, 104, 116, 109, 108]⟩, .string ⟨#[]⟩, .string ⟨#[48, 97, 52, 102, 49, 49, 51, 98]⟩, .int .i64 1] w fun e w' => e = .returned (.string ⟨#[54, 54, 50, 57, 102, 97, 101, 52, 57, 51, 57, 51, 97, 48, 53, 51, 57, 55, 52, 53, 48, 57, 55, 56, 53, 48, 55, 99, 52, 101, 102, 49]⟩) ∧ Below w.heap.size w w' := fun w HT => by
    rw [← muf_resp]
    exact resp_any mufA mufR false (.slice none 0 0) 1 (by omega) (by unfold Fits; decide) w HT
  have hb0 : Below w.heap.size w (w.alloc (.cells #[.int .i64 2, .string ⟨#[116, 101, 115, 116, 114, 101, 97, 108, 109, 64, 104, 111, 115, 116, 46, 99, 111, 109]⟩, .string ⟨#[100, 99, 100, 57, 56, 98, 55, 49, 48, 50, 100, 100, 50, 102, 48, 101, 56, 98, 49, 49, 100, 48, 102, 54, 48, 48, 98, 102, 98, 48, 99, 48, 57, 51]⟩, .string ⟨#[]⟩, .bool false, .string ⟨#[97, 117, 116, 104]⟩, .bool false, .slice none 0 0] 24)) := (Below.refl _ _).alloc (Nat.le_refl _) _
  have hz : (w.alloc (.cells #[.int .i64 2, .string ⟨#[116, 101, 115, 116, 114, 101, 97, 108, 109, 64, 104, 111, 115, 116, 46, 99, 111, 109]⟩, .string ⟨#[100, 99, 100, 57, 56, 98, 55, 49, 48, 50, 100, 100, 50, 102, 48, 101, 56, 98, 49, 49, 100, 48, 102, 54, 48, 48, 98, 102, 98, 48, 99, 48, 57, 51]⟩, .string ⟨#[]⟩, .bool false, .string ⟨#[97, 117, 116, 104]⟩, .bool false, .slice none 0 0] 24)).heap.size = w.heap.size + 1 := by simp
  have hc : ∀ i, (w.alloc (.cells #[.int .i64 2, .string ⟨#[116, 101, 115, 116, 114, 101, 97, 108, 109, 64, 104, 111, 115, 116, 46, 99, 111, 109]⟩, .string ⟨#[100, 99, 100, 57, 56, 98, 55, 49, 48, 50, 100, 100, 50, 102, 48, 101, 56, 98, 49, 49, 100, 48, 102, 54, 48, 48, 98, 102, 98, 48, 99, 48, 57, 51]⟩, .string ⟨#[]⟩, .bool false, .string ⟨#[97, 117, 116, 104]⟩, .bool false, .slice none 0 0] 24)).cell? ⟨w.heap.size, i, none⟩ = #[.int .i64 2, .string ⟨#[116, 101, 115, 116, 114, 101, 97, 108, 109, 64, 104, 111, 115, 116, 46, 99, 111, 109]⟩, .string ⟨#[100, 99, 100, 57, 56, 98, 55, 49, 48, 50, 100, 100, 50, 102, 48, 101, 56, 98, 49, 49, 100, 48, 102, 54, 48, 48, 98, 102, 98, 48, 99, 48, 57, 51]⟩, .string ⟨#[]⟩, .bool false, .string ⟨#[97, 117, 116, 104]⟩, .bool false, .slice none 0 0][i]? := fun i => World.cell?_alloc_mark _ _ _ _ _
  have HT0 : Hid (Tabs (w.alloc (.cells #[.int .i64 2, .string ⟨#[116, 101, 115, 116, 114, 101, 97, 108, 109, 64, 104, 111, 115, 116, 46, 99, 111, 109]⟩, .string ⟨#[100, 99, 100, 57, 56, 98, 55, 49, 48, 50, 100, 100, 50, 102, 48, 101, 56, 98, 49, 49, 100, 48, 102, 54, 48, 48, 98, 102, 98, 48, 99, 48, 57, 51]⟩, .string ⟨#[]⟩, .bool false, .string ⟨#[97, 117, 116, 104]⟩, .bool false, .slice none 0 0] 24))) := HT.out.below hb0
  go_enter Tryd.func4, Tryd.ntmps4
  go_wp2_with fail
  generalize w.alloc (.cells #[.int .i64 2, .string ⟨#[116, 101, 115, 116, 114, 101, 97, 108, 109, 64, 104, 111, 115, 116, 46, 99, 111, 109]⟩, .string ⟨#[100, 99, 100, 57, 56, 98, 55, 49, 48, 50, 100, 100, 50, 102, 48, 101, 56, 98, 49, 49, 100, 48, 102, 54, 48, 48, 98, 102, 98, 48, 99, 48, 57, 51]⟩, .string ⟨#[]⟩, .bool false, .string ⟨#[97, 117, 116, 104]⟩, .bool false, .slice none 0 0] 24) = W0 at hb0 hz hc HT0 ⊢
  have HC : Hid (∀ i, W0.cell? ⟨w.heap.size, i, none⟩ = #[.int .i64 2, .string ⟨#[116, 101, 115, 116, 114, 101, 97, 108, 109, 64, 104, 111, 115, 116, 46, 99, 111, 109]⟩, .string ⟨#[100, 99, 100, 57, 56, 98, 55, 49, 48, 50, 100, 100, 50, 102, 48, 101, 56, 98, 49, 49, 100, 48, 102, 54, 48, 48, 98, 102, 98, 48, 99, 48, 57, 51]⟩, .string ⟨#[]⟩, .bool false, .string ⟨#[97, 117, 116, 104]⟩, .bool false, .slice none 0 0][i]?) := hc
  clear hc
  refine (h1 _).mono ?_
  rintro e w1 ⟨rfl, hb1⟩
  have HT1 : Hid (Tabs w1) := HT0.out.below hb1
  have HB1 : Hid (Below W0.heap.size W0 w1) := hb1
  clear hb1
  go_wp2_with fail
  refine (h2 _ HT1.out.bruijn).mono ?_
  rintro e w2 ⟨rfl, hb2⟩
  have HT2 : Hid (Tabs w2) := HT1.out.below hb2
  have HB2 : Hid (Below W0.heap.size W0 w2) := HB1.out.trans (hb2.mono HB1.out.size)
  clear hb2
  have hk : ∀ i, w2.cell? ⟨w.heap.size, i, none⟩ = #[.int .i64 2, .string ⟨#[116, 101, 115, 116, 114, 101, 97, 108, 109, 64, 104, 111, 115, 116, 46, 99, 111, 109]⟩, .string ⟨#[100, 99, 100, 57, 56, 98, 55, 49, 48, 50, 100, 100, 50, 102, 48, 101, 56, 98, 49, 49, 100, 48, 102, 54, 48, 48, 98, 102, 98, 48, 99, 48, 57, 51]⟩, .string ⟨#[]⟩, .bool false, .string ⟨#[97, 117, 116, 104]⟩, .bool false, .slice none 0 0][i]? := fun i => by
    rw [HB2.out.cell (p := ⟨w.heap.size, i, none⟩) (by show w.heap.size < _; omega)]
    exact HC.out i
  have k0 := hk 0
  have k1 := hk 1
  have k2 := hk 2
  have k3 := hk 3
  have k4 := hk 4
  have k5 := hk 5
  have k6 := hk 6
  have k7 := hk 7
  simp only [List.getElem?_toArray, List.getElem?_cons_zero, List.getElem?_cons_succ] at k0 k1 k2 k3 k4 k5 k6 k7
  clear hk
  go_wp2_with fail
  refine (h3 _ HT2).mono ?_
  rintro e w3 ⟨rfl, hb3⟩
  have HB3 : Hid (Below W0.heap.size W0 w3) := HB2.out.trans (hb3.mono HB2.out.size)
  clear hb3
  go_wp2
  go_ret
  exact ⟨by first | rfl | simp, hb0.trans (HB3.out.mono hb0.size)⟩
end Go.Proofs.YthhbfnfgbonakabDoor
