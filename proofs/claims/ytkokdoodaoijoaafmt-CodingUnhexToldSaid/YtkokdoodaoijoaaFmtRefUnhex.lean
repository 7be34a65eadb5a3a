/- The bytes of digits by the document's own answer, which tries all bytes, pair by pair. -/
import Derived.Test.YtkokdoodaoijoaaFmtRefHex
import Derived.Test.YtkokdoodaoijoaaFmtUnhex
import Derived.Test.YtkokdoodaoijoaaFmtChar
namespace Go.Proofs.YtkokdoodaoijoaaFmt
open Go.RowKit
open Go.Extern.Stop Go.Stop Go.Extern

theorem hexL_split : ∀ (o x r : List UInt8), hexL x = hexL o ++ r → ∃ y, x = o ++ y ∧ hexL y = r
  | [], x, r, h => ⟨x, rfl, h⟩
  | a :: o, [], r, h => by simp [hexL] at h
  | a :: o, b :: x, r, h => by
    simp only [hexL, List.cons_append, List.cons.injEq] at h
    have h1 := a.toNat_lt
    have h2 := b.toNat_lt
    have e1 := dig_inj _ _ (by omega) (by omega) h.1
    have e2 := dig_inj _ _ (by omega) (by omega) h.2.1
    have e3 : b = a := UInt8.toNat_inj.1 (by omega)
    obtain ⟨y, hy, hr⟩ := hexL_split o x r h.2.2
    exact ⟨y, by rw [e3, hy]; rfl, hr⟩
theorem none_short (o r s : List UInt8) (h : hexL o ++ r = s) (h1 : r.length = 1) : ∀ x, hexL x ≠ s := by
  intro x hx
  obtain ⟨y, _, hy⟩ := hexL_split o x r (by rw [hx, h])
  have := congrArg List.length hy
  rw [hexL_length] at this
  omega
theorem none_pair (o r s : List UInt8) (h : hexL o ++ r = s) (h1 : 2 ≤ r.length) (hn : ∀ c : UInt8, hexL [c] ≠ r.take 2) : ∀ x, hexL x ≠ s := by
  intro x hx
  obtain ⟨y, _, hy⟩ := hexL_split o x r (by rw [hx, h])
  match y, hy with
  | [], hy => rw [← hy] at h1; simp [hexL] at h1
  | c :: t, hy => exact hn c (by rw [← hy]; rfl)

/-- What is known behind the first k bytes that were tried. -/
def Tried (p : List UInt8) (o0 : List UInt8) (k : Nat) (o : List UInt8) (f : Bool) : Prop :=
  (f = false ∧ o = o0 ∧ ∀ c : UInt8, c.toNat < k → hexL [c] ≠ p) ∨ ∃ c : UInt8, c.toNat < k ∧ hexL [c] = p ∧ f = true ∧ o = o0 ++ [c]
theorem Tried.start (p o0 : List UInt8) : Tried p o0 0 o0 false := .inl ⟨rfl, rfl, fun c h => by omega⟩
theorem Tried.miss {p o0 o : List UInt8} {k : Nat} {f : Bool} (h : Tried p o0 k o f) (c : UInt8) (hc : c.toNat = k) (hn : hexL [c] ≠ p) : Tried p o0 (k + 1) o f := by
  rcases h with ⟨h1, h2, h3⟩ | ⟨d, h1, h2, h3, h4⟩
  · refine .inl ⟨h1, h2, fun d hd => ?_⟩
    by_cases e : d.toNat = k
    · have : d = c := UInt8.toNat_inj.1 (by omega)
      rw [this]; exact hn
    · exact h3 d (by omega)
  · exact .inr ⟨d, by omega, h2, h3, h4⟩
theorem Tried.hit {p o0 o : List UInt8} {k : Nat} {f : Bool} (h : Tried p o0 k o f) (c : UInt8) (hc : c.toNat = k) (hn : hexL [c] = p) : Tried p o0 (k + 1) (o ++ [c]) true := by
  rcases h with ⟨h1, h2, h3⟩ | ⟨d, h1, h2, h3, h4⟩
  · exact .inr ⟨c, by omega, hn, rfl, by rw [h2]⟩
  · have := hexL_inj [d] [c] (by rw [h2, hn])
    injection this with this
    subst this
    omega
theorem Tried.end {p o0 o : List UInt8} {f : Bool} (h : Tried p o0 256 o f) : (f = false ∧ ∀ c : UInt8, hexL [c] ≠ p) ∨ ∃ c : UInt8, hexL [c] = p ∧ f = true ∧ o = o0 ++ [c] := by
  rcases h with ⟨h1, _, h3⟩ | ⟨d, _, h2, h3, h4⟩
  · exact .inl ⟨h1, fun c => h3 c c.toNat_lt⟩
  · exact .inr ⟨d, h2, h3, h4⟩

theorem Tried.len {p o0 o : List UInt8} {k : Nat} {f : Bool} (h : Tried p o0 k o f) : o.length ≤ o0.length + 1 := by
  rcases h with ⟨_, h, _⟩ | ⟨_, _, _, _, h⟩ <;> rw [h] <;> simp

def lenS : Value → Nat
  | .string o => o.size
  | _ => 0
theorem refHex_o (F : Interp) (s : ByteArray) (w : World) (hF : F.told.answers w.tape) (hs : s.size ≤ 300) :
    Calls Tryf.prog 8 #[.string s] w fun e w' => ∃ x : ByteArray, e = .returned (.string x) ∧ Hid (x = bs (hexL s.data.toList)) ∧ Below w.heap.size w w' := by
  refine (refHex_any F s w hF hs).mono ?_
  rintro e w' ⟨rfl, hb⟩
  exact ⟨_, rfl, rfl, hb⟩

set_option maxRecDepth 100000 in
set_option maxHeartbeats 1600000 in
theorem refUnhex_any (F : Interp) (s : ByteArray) (w : World) (hF : F.told.answers w.tape) (hs : s.size ≤ 300) :
    Calls Tryf.prog 9 #[.string s] w fun e w' => Below w.heap.size w w' ∧ ((∃ o : List UInt8, e = .returned (.tuple #[.string (bs o), .int .i64 0]) ∧ hexL o = s.data.toList) ∨ (e = .returned (.tuple #[.string (bs []), .int .i64 3]) ∧ ∀ o, hexL o ≠ s.data.toList)) := by
  have HF : Hid (F.told.answers w.tape) := hF
  clear hF
  go_enter Tryf.func9, Tryf.ntmps9
  go_wp2
  go_loopw [0, 4] (fun v0 v4 wr => ∃ (r o : ByteArray), v0 = .string r ∧ v4 = .string o ∧ r.size ≤ 300 ∧ o.size ≤ 300 ∧ Hid (hexL o.data.toList ++ r.data.toList = s.data.toList) ∧ Below w.heap.size w wr) (fun v0 _ _ => lenS v0)
  case atStart => exact ⟨s, _, rfl, rfl, hs, by decide, rfl, Below.refl _ _⟩
  case round =>
    obtain ⟨r, o, rfl, rfl, hrz, hoz, HI, hb⟩ := hrel
    have hrl : r.data.toList.length = r.size := by simp
    by_cases hr0 : r.size = 0
    · have hre : r.toList.isEmpty = true := by
        rw [ByteArray.toList_eq, List.isEmpty_iff, ← List.length_eq_zero_iff]; omega
      have hdat : r.data.toList = [] := by rw [← List.length_eq_zero_iff]; omega
      have HE : Hid (hexL o.data.toList = s.data.toList) := by
        have := HI.out
        rw [hdat, List.append_nil] at this
        exact this
      obtain ⟨ol, hol⟩ : ∃ l, o = bs l := ⟨o.data.toList, (bs_self o).symm⟩
      subst hol
      rw [bs_data] at HE
      clear hdat HI hrl hoz
      go_wp2
      go_ret2
      exact ⟨hb, .inl ⟨ol, rfl, HE⟩⟩
    · have hre : r.toList.isEmpty = false := by
        rw [ByteArray.toList_eq]
        cases h : r.data.toList with
        | nil => rw [h] at hrl; simp at hrl; omega
        | cons a t => rfl
      by_cases hr1 : (r.size : Int) < 2
      · have HN : Hid (∀ x, hexL x ≠ s.data.toList) := none_short _ _ _ HI.out (by omega)
        clear HI hrl
        go_wp2
        go_ret2
        exact ⟨hb, .inr ⟨rfl, HN⟩⟩
      · have hr2 : 2 ≤ r.size := by omega
        obtain ⟨y, hy⟩ : ∃ y : ByteArray, r.extract 0 2 = y := ⟨_, rfl⟩
        have HY : Hid (y.data.toList = r.data.toList.take 2) := by
          show _ = _
          rw [← hy, Lib.extract_data]; rfl
        clear hrl
        obtain ⟨wo, hwo⟩ : ∃ wo : World, wo = wr := ⟨_, rfl⟩
        subst hwo
        go_wp2
        go_loopw [4, 5, 12] (fun v4 v5 i wi => ∃ (k : Nat) (o2 : ByteArray) (f : Bool), k ≤ 256 ∧ i = .int .i64 k ∧ v4 = .string o2 ∧ v5 = .bool f ∧ o2.size ≤ 301 ∧ Hid (Tried (r.data.toList.take 2) o.data.toList k o2.data.toList f) ∧ Below w.heap.size w wi) (fun _ _ i _ => 256 - (intOf i).toNat)
        case atStart => exact ⟨0, o, false, Nat.zero_le _, rfl, rfl, rfl, by omega, Tried.start _ _, hb⟩
        case round =>
          clear hb
          obtain ⟨k, o2, f, hk, rfl, rfl, rfl, ho2, HT, hb⟩ := hrel
          by_cases hlt : k < 256
          · obtain ⟨c, hc⟩ : ∃ c : UInt8, c = UInt8.ofNat k := ⟨_, rfl⟩
            have hcn : c.toNat = k := by rw [hc]; simp only [UInt8.toNat_ofNat']; omega
            have HC : Hid (UInt8.ofNat ((k : Int)).toNat = c ∧ c.toNat = k) := ⟨by rw [hc]; simp, hcn⟩
            clear hc hcn
            have hk0 : (0 : Int) ≤ (k : Int) := by omega
            have hk1 : (k : Int) < 256 := by omega
            have hr2' : (2 : Int) ≤ (r.size : Int) := by omega
            have HF2 : Hid (F.told.answers wr.tape) := by rw [hb.tape]; exact HF
            go_wp2_with fail
            go_region_held3 (fun _ => True) (go_keep) (first | (go_at_call 17; refine (char_o _ hk0 hk1 _).mono ?_; rintro e w1 ⟨q, rfl, hqz, HQ, hbq⟩) | (go_at_call 8; refine (refHex_o F _ _ (by rw [hbq.tape]; exact HF2.out) (by omega)).mono ?_; rintro e w2 ⟨x, rfl, HX, hbx⟩))
            have hxl : x.toList = hexL [c] := by rw [ByteArray.toList_eq, HX.out, bs_data, HQ.out, bs_data, HC.out.1]
            have hyl : y.toList = r.data.toList.take 2 := by rw [ByteArray.toList_eq]; exact HY.out
            have hb2 : Below w.heap.size w w2 := hb.drew.trans ((hbq.trans (hbx.mono hbq.size)).mono hb.size)
            by_cases he : hexL [c] = r.data.toList.take 2
            · have hen : (x.toList == y.toList) = true := by rw [hxl, hyl, he]; simp
              have HN : Hid (Tried (r.data.toList.take 2) o.data.toList (k + 1) (o2.data.toList ++ [c]) true) := HT.out.hit c HC.out.2 he
              have hoz2 : o2.size ≤ 300 := by
                have h1 := HN.out.len
                rw [List.length_append] at h1
                have h2 : o.data.toList.length = o.size := by simp
                have h3 : o2.data.toList.length = o2.size := by simp
                simp at h1
                omega
              rw [hen]
              clear hxl hyl he HT HX HQ hbx hbq hb hen
              go_wp2_with (go_at_call 17; refine (char_o _ hk0 hk1 _).mono ?_; rintro e w3 ⟨q2, rfl, hq2z, HQ2, hb3⟩)
              go_roundw
              case rel => exact ⟨k + 1, o2 ++ q2, true, by omega, by go_num, rfl, rfl, by rw [ByteArray.size_append]; omega, by
                have e1 : (o2 ++ q2).data.toList = o2.data.toList ++ [c] := by
                  rw [ByteArray.data_append, Array.toList_append, HQ2.out, bs_data, HC.out.1]
                show Tried _ _ _ _ _
                rw [e1]; exact HN.out, hb2.trans (hb3.mono hb2.size)⟩
              case measure => simp [intOf]; omega
            · have hen : (x.toList == y.toList) = false := by rw [hxl, hyl]; simpa using he
              have HN : Hid (Tried (r.data.toList.take 2) o.data.toList (k + 1) o2.data.toList f) := HT.out.miss c HC.out.2 he
              rw [hen]
              clear hxl hyl he HT HX HQ hbx hbq hb hen
              go_wp2
              go_roundw
              case rel => exact ⟨k + 1, o2, f, by omega, by go_num, rfl, rfl, ho2, HN, hb2⟩
              case measure => simp [intOf]; omega
          · have hk256 : k = 256 := by omega
            subst hk256
            have hend := HT.out.end
            have hrl : r.data.toList.length = r.size := by simp
            rcases hend with ⟨rfl, hn⟩ | ⟨c, hc, rfl, hc2⟩
            · have HN : Hid (∀ x, hexL x ≠ s.data.toList) := none_pair _ _ _ HI.out (by omega) hn
              clear hn HT hrl
              go_wp2
              go_ret2
              exact ⟨hb, .inr ⟨rfl, HN⟩⟩
            · obtain ⟨t, ht⟩ : ∃ t : ByteArray, r.extract 2 r.size = t := ⟨_, rfl⟩
              have htl : t.data.toList = r.data.toList.drop 2 := by rw [← ht, Lib.extract_data]; exact List.take_of_length_le (by simp)
              have htz : t.size = r.size - 2 := by rw [Lib.size_eq, htl]; simp
              have HN : Hid (hexL o2.data.toList ++ t.data.toList = s.data.toList) := by
                show _ = _
                rw [hc2, hexL_append, hc, htl, List.append_assoc, List.take_append_drop]
                exact HI.out
              have hoz2 : o2.size ≤ 300 := by
                have h1 := congrArg List.length HN.out
                rw [List.length_append, hexL_length] at h1
                have h2 : s.data.toList.length = s.size := by simp
                have h3 : o2.data.toList.length = o2.size := by simp
                omega
              clear hc hc2 HT hrl htl HI HY
              go_wp2
              go_roundw
              case rel => exact ⟨t, o2, rfl, rfl, by omega, hoz2, HN, hb⟩
              case measure => show t.size < r.size; omega
end Go.Proofs.YtkokdoodaoijoaaFmt
