/- Texts of one claim, joined: each begins with what it proves. -/
import Derived.Test.YtlmfhbffknganabDoorJo3
import Derived.Test.YtlmfhbffknganabDoorJo1
import Derived.Deep.QuietTactic
import Derived.BigQuiet
import Derived.Deep.LoopGhost
import Derived.Shelf.Slices.Turned
import Derived.Deep.RegionHeld3
/- Letters read one by one, six bits each: the plain arithmetic of what Base64 wrote being read again, and of nothing else being read. -/
namespace Go.Proofs.YtlmfhbffknganabDoor
open Go.RowKit

def ixL (c : UInt8) : Int := ixOf lets c
theorem ixL_cases (c : UInt8) : (ixL c = -1 ∧ c ∉ lets) ∨ ∃ n : Nat, n < 64 ∧ ixL c = n ∧ let64 n = c := ixOf_cases lets c
theorem let_mem (n : Nat) (h : n < 64) : let64 n ∈ lets := by
  have : ∀ p : Fin 64, let64 p ∈ lets := by decide
  exact this ⟨n, h⟩
theorem let_inj (a b : Nat) (ha : a < 64) (hb : b < 64) (h : let64 a = let64 b) : a = b := by
  have : ∀ p q : Fin 64, let64 p = let64 q → p = q := by decide +kernel
  have := this ⟨a, ha⟩ ⟨b, hb⟩ h
  injection this
theorem ixL_let (n : Nat) (h : n < 64) : ixL (let64 n) = n := by
  rcases ixL_cases (let64 n) with ⟨_, h2⟩ | ⟨m, h1, h2, h3⟩
  · exact absurd (let_mem n h) h2
  · rw [h2, let_inj m n h1 h h3]
theorem no61 : (61 : UInt8) ∉ lets := by decide

/-- One letter more: the bytes so far, how many bits are held, and which. -/
def stp (st : List UInt8 × Nat × Nat) (x : Nat) : List UInt8 × Nat × Nat :=
  if 2 ≤ st.2.1 then (st.1 ++ [UInt8.ofNat ((st.2.2 * 64 + x) / 2 ^ (st.2.1 - 2))], st.2.1 - 2, (st.2.2 * 64 + x) % 2 ^ (st.2.1 - 2)) else (st.1, st.2.1 + 6, st.2.2 * 64 + x)
def decA (st : List UInt8 × Nat × Nat) (l : List UInt8) : List UInt8 × Nat × Nat := l.foldl (fun st c => stp st (ixL c).toNat) st
theorem decA_snoc (st : List UInt8 × Nat × Nat) (l : List UInt8) (c : UInt8) : decA st (l ++ [c]) = stp (decA st l) (ixL c).toNat := by simp [decA]
theorem decA_let (st : List UInt8 × Nat × Nat) (n : Nat) (h : n < 64) (r : List UInt8) : decA st (let64 n :: r) = decA (stp st n) r := by
  show decA (stp st (ixL (let64 n)).toNat) r = _
  rw [ixL_let n h]
  simp

theorem stp0 (a : List UInt8) (x : Nat) : stp (a, 0, 0) x = (a, 6, x) := by simp [stp]
theorem stp6 (a : List UInt8) (b x : Nat) : stp (a, 6, b) x = (a ++ [UInt8.ofNat ((b * 64 + x) / 16)], 4, (b * 64 + x) % 16) := by simp [stp]
theorem stp4 (a : List UInt8) (b x : Nat) : stp (a, 4, b) x = (a ++ [UInt8.ofNat ((b * 64 + x) / 4)], 2, (b * 64 + x) % 4) := by simp [stp]
theorem stp2 (a : List UInt8) (b x : Nat) : stp (a, 2, b) x = (a ++ [UInt8.ofNat (b * 64 + x)], 0, 0) := by simp [stp]; omega

theorem quad (a r : List UInt8) (x0 x1 x2 x3 : Nat) (h0 : x0 < 64) (h1 : x1 < 64) (h2 : x2 < 64) (h3 : x3 < 64) :
    decA (a, 0, 0) (let64 x0 :: let64 x1 :: let64 x2 :: let64 x3 :: r) = decA (a ++ [UInt8.ofNat ((x0 * 64 + x1) / 16), UInt8.ofNat (((x0 * 64 + x1) % 16 * 64 + x2) / 4), UInt8.ofNat (((x0 * 64 + x1) % 16 * 64 + x2) % 4 * 64 + x3)], 0, 0) r := by
  rw [decA_let _ x0 h0, stp0, decA_let _ x1 h1, stp6, decA_let _ x2 h2, stp4, decA_let _ x3 h3, stp2]
  simp
theorem three (a r : List UInt8) (x0 x1 x2 : Nat) (h0 : x0 < 64) (h1 : x1 < 64) (h2 : x2 < 64) :
    decA (a, 0, 0) (let64 x0 :: let64 x1 :: let64 x2 :: r) = decA (a ++ [UInt8.ofNat ((x0 * 64 + x1) / 16), UInt8.ofNat (((x0 * 64 + x1) % 16 * 64 + x2) / 4)], 2, ((x0 * 64 + x1) % 16 * 64 + x2) % 4) r := by
  rw [decA_let _ x0 h0, stp0, decA_let _ x1 h1, stp6, decA_let _ x2 h2, stp4]
  simp
theorem two (a r : List UInt8) (x0 x1 : Nat) (h0 : x0 < 64) (h1 : x1 < 64) :
    decA (a, 0, 0) (let64 x0 :: let64 x1 :: r) = decA (a ++ [UInt8.ofNat ((x0 * 64 + x1) / 16)], 4, (x0 * 64 + x1) % 16) r := by
  rw [decA_let _ x0 h0, stp0, decA_let _ x1 h1, stp6]

theorem toNat_of (n : Nat) (h : n < 256) : (UInt8.ofNat n).toNat = n := by simp only [UInt8.toNat_ofNat']; omega
theorem of_toNat (n : Nat) (c : UInt8) (h : n = c.toNat) : UInt8.ofNat n = c := by subst h; simp
theorem val3 (a b c : UInt8) : val 3 [a, b, c] = a.toNat * 65536 + b.toNat * 256 + c.toNat := by simp [val]; omega
theorem val2 (a b : UInt8) : val 3 [a, b] = a.toNat * 65536 + b.toNat * 256 := by simp [val]; omega
theorem val1 (a : UInt8) : val 3 [a] = a.toNat * 65536 := by simp [val]; omega

/-- What was written is read. -/
def core : List UInt8 → List UInt8
  | [] => []
  | [a] => (grp [a]).take 2
  | [a, b] => (grp [a, b]).take 3
  | a :: b :: c :: r => grp [a, b, c] ++ core r
def pad : List UInt8 → List UInt8
  | [] => []
  | [_] => [61, 61]
  | [_, _] => [61]
  | _ :: _ :: _ :: r => pad r
theorem enc_core : ∀ l, enc l = core l ++ pad l
  | [] => rfl
  | [a] => by simp [enc, core, pad, grp]
  | [a, b] => by simp [enc, core, pad, grp]
  | a :: b :: c :: r => by simp only [enc, core, pad, enc_core r, List.append_assoc]
theorem pad_cases : ∀ l, pad l = [] ∨ pad l = [61] ∨ pad l = [61, 61]
  | [] => .inl rfl
  | [_] => .inr (.inr rfl)
  | [_, _] => .inr (.inl rfl)
  | _ :: _ :: _ :: r => pad_cases r
theorem core_mem : ∀ l, ∀ c ∈ core l, c ∈ lets
  | [], c, h => by cases h
  | [a], c, h => by
    simp [core, grp] at h
    rcases h with rfl | rfl <;> exact let_mem _ (Nat.mod_lt _ (by decide))
  | [a, b], c, h => by
    simp [core, grp] at h
    rcases h with rfl | rfl | rfl <;> exact let_mem _ (Nat.mod_lt _ (by decide))
  | a :: b :: d :: r, c, h => by
    simp only [core, List.mem_append] at h
    rcases h with h | h
    · simp [grp] at h
      rcases h with rfl | rfl | rfl | rfl <;> exact let_mem _ (Nat.mod_lt _ (by decide))
    · exact core_mem r c h
theorem dec_core : ∀ (l a : List UInt8), ∃ h, decA (a, 0, 0) (core l) = (a ++ l, h, 0)
  | [], a => ⟨0, by simp [core, decA]⟩
  | [x], a => by
    have hx := x.toNat_lt
    refine ⟨4, ?_⟩
    simp only [core, grp, List.take_succ_cons, List.take_zero, val1]
    rw [two _ _ _ _ (by omega) (by omega)]
    rw [of_toNat _ x (by omega), show (x.toNat * 65536 / 262144 % 64 * 64 + x.toNat * 65536 / 4096 % 64) % 16 = 0 by omega]
    rfl
  | [x, y], a => by
    have hx := x.toNat_lt
    have hy := y.toNat_lt
    refine ⟨2, ?_⟩
    simp only [core, grp, List.take_succ_cons, List.take_zero, val2, List.length_cons, List.length_nil]
    rw [if_pos (by omega), three _ _ _ _ _ (by omega) (by omega) (by omega)]
    rw [of_toNat _ x (by omega), of_toNat _ y (by omega)]
    have e : (((x.toNat * 65536 + y.toNat * 256) / 262144 % 64 * 64 + (x.toNat * 65536 + y.toNat * 256) / 4096 % 64) % 16 * 64 + (x.toNat * 65536 + y.toNat * 256) / 64 % 64) % 4 = 0 := by omega
    rw [e]
    rfl
  | x :: y :: z :: r, a => by
    have hx := x.toNat_lt
    have hy := y.toNat_lt
    have hz := z.toNat_lt
    obtain ⟨h, ih⟩ := dec_core r (a ++ [x, y, z])
    refine ⟨h, ?_⟩
    simp only [core, grp, val3, List.length_cons, List.length_nil]
    rw [if_pos (by omega), if_pos (by omega)]
    simp only [List.cons_append, List.nil_append]
    rw [quad _ _ _ _ _ _ (by omega) (by omega) (by omega) (by omega)]
    rw [of_toNat _ x (by omega), of_toNat _ y (by omega), of_toNat _ z (by omega), ih]
    simp

/-- What is read was written so. -/
theorem let_of (c : UInt8) (h : c ∈ lets) : ∃ n : Nat, n < 64 ∧ c = let64 n := by
  rcases ixL_cases c with ⟨_, h2⟩ | ⟨n, h1, _, h3⟩
  · exact absurd h h2
  · exact ⟨n, h1, h3.symm⟩
def padN (n : Nat) : List UInt8 := if n = 2 then [61, 61] else if n = 3 then [61] else []
theorem dec_enc : ∀ (l a : List UInt8), (∀ c ∈ l, c ∈ lets) → l.length % 4 ≠ 1 →
    ∃ o h b, decA (a, 0, 0) l = (a ++ o, h, b) ∧ (b = 0 → enc o = l ++ padN (l.length % 4))
  | [], a, _, _ => ⟨[], 0, 0, by simp [decA], fun _ => rfl⟩
  | [c], _, _, h => by simp at h
  | [c0, c1], a, hm, _ => by
    obtain ⟨x0, h0, rfl⟩ := let_of c0 (hm _ (by simp))
    obtain ⟨x1, h1, rfl⟩ := let_of c1 (hm _ (by simp))
    refine ⟨_, _, _, two _ _ _ _ h0 h1, fun hb => ?_⟩
    simp only [enc, grp, val1, List.length_cons, List.length_nil]
    rw [toNat_of _ (by omega)]
    have e1 : (x0 * 64 + x1) / 16 * 65536 / 262144 % 64 = x0 := by omega
    have e2 : (x0 * 64 + x1) / 16 * 65536 / 4096 % 64 = x1 := by omega
    rw [e1, e2]
    rfl
  | [c0, c1, c2], a, hm, _ => by
    obtain ⟨x0, h0, rfl⟩ := let_of c0 (hm _ (by simp))
    obtain ⟨x1, h1, rfl⟩ := let_of c1 (hm _ (by simp))
    obtain ⟨x2, h2, rfl⟩ := let_of c2 (hm _ (by simp))
    refine ⟨_, _, _, three _ _ _ _ _ h0 h1 h2, fun hb => ?_⟩
    simp only [enc, grp, val2, List.length_cons, List.length_nil]
    rw [toNat_of _ (by omega), toNat_of _ (by omega)]
    have e1 : ((x0 * 64 + x1) / 16 * 65536 + ((x0 * 64 + x1) % 16 * 64 + x2) / 4 * 256) / 262144 % 64 = x0 := by omega
    have e2 : ((x0 * 64 + x1) / 16 * 65536 + ((x0 * 64 + x1) % 16 * 64 + x2) / 4 * 256) / 4096 % 64 = x1 := by omega
    have e3 : ((x0 * 64 + x1) / 16 * 65536 + ((x0 * 64 + x1) % 16 * 64 + x2) / 4 * 256) / 64 % 64 = x2 := by omega
    rw [e1, e2, e3]
    rfl
  | c0 :: c1 :: c2 :: c3 :: r, a, hm, hl => by
    obtain ⟨x0, h0, rfl⟩ := let_of c0 (hm _ (by simp))
    obtain ⟨x1, h1, rfl⟩ := let_of c1 (hm _ (by simp))
    obtain ⟨x2, h2, rfl⟩ := let_of c2 (hm _ (by simp))
    obtain ⟨x3, h3, rfl⟩ := let_of c3 (hm _ (by simp))
    rw [quad _ _ _ _ _ _ h0 h1 h2 h3]
    have hr : ∀ c ∈ r, c ∈ lets := fun c hc => hm c (by simp [hc])
    obtain ⟨o, h, b, e, he⟩ := dec_enc r (a ++ [UInt8.ofNat ((x0 * 64 + x1) / 16), UInt8.ofNat (((x0 * 64 + x1) % 16 * 64 + x2) / 4), UInt8.ofNat (((x0 * 64 + x1) % 16 * 64 + x2) % 4 * 64 + x3)]) hr (by simp at hl; omega)
    refine ⟨[UInt8.ofNat ((x0 * 64 + x1) / 16), UInt8.ofNat (((x0 * 64 + x1) % 16 * 64 + x2) / 4), UInt8.ofNat (((x0 * 64 + x1) % 16 * 64 + x2) % 4 * 64 + x3)] ++ o, h, b, by rw [e, List.append_assoc], fun hb => ?_⟩
    simp only [List.cons_append, List.nil_append, enc, grp, val3, List.length_cons, List.length_nil]
    rw [toNat_of _ (by omega), toNat_of _ (by omega), toNat_of _ (by omega), if_pos (by omega), if_pos (by omega), he hb]
    have e1 : ((x0 * 64 + x1) / 16 * 65536 + ((x0 * 64 + x1) % 16 * 64 + x2) / 4 * 256 + (((x0 * 64 + x1) % 16 * 64 + x2) % 4 * 64 + x3)) / 262144 % 64 = x0 := by omega
    have e2 : ((x0 * 64 + x1) / 16 * 65536 + ((x0 * 64 + x1) % 16 * 64 + x2) / 4 * 256 + (((x0 * 64 + x1) % 16 * 64 + x2) % 4 * 64 + x3)) / 4096 % 64 = x1 := by omega
    have e3 : ((x0 * 64 + x1) / 16 * 65536 + ((x0 * 64 + x1) % 16 * 64 + x2) / 4 * 256 + (((x0 * 64 + x1) % 16 * 64 + x2) % 4 * 64 + x3)) / 64 % 64 = x2 := by omega
    have e4 : ((x0 * 64 + x1) / 16 * 65536 + ((x0 * 64 + x1) % 16 * 64 + x2) / 4 * 256 + (((x0 * 64 + x1) % 16 * 64 + x2) % 4 * 64 + x3)) % 64 = x3 := by omega
    rw [e1, e2, e3, e4, show (r.length + 1 + 1 + 1 + 1) % 4 = r.length % 4 by omega]

/-- A text without one mark at its end. -/
def trim1 (l : List UInt8) : List UInt8 := Lib.trimSuffix l [61]
theorem trim1_yes (x : List UInt8) : trim1 (x ++ [61]) = x := by
  unfold trim1 Lib.trimSuffix Lib.hasSuffix
  have : [61].isSuffixOf (x ++ [61]) = true := by rw [List.isSuffixOf_iff_suffix]; exact List.suffix_append _ _
  rw [if_pos this]
  simp
theorem trim1_cases (l : List UInt8) : (∃ x, l = x ++ [61] ∧ trim1 l = x) ∨ trim1 l = l := by
  unfold trim1 Lib.trimSuffix Lib.hasSuffix
  by_cases h : [61].isSuffixOf l = true
  · left
    obtain ⟨x, hx⟩ := List.isSuffixOf_iff_suffix.1 h
    refine ⟨x, hx.symm, ?_⟩
    rw [if_pos h, ← hx]
    simp
  · right
    rw [if_neg h]
theorem trim1_no (x : List UInt8) (h : ∀ c ∈ x, c ∈ lets) : trim1 x = x := by
  rcases trim1_cases x with ⟨y, e, _⟩ | e
  · exact absurd (h 61 (by rw [e]; simp)) no61
  · exact e
theorem trim_enc (o : List UInt8) : trim1 (trim1 (enc o)) = core o := by
  rw [enc_core]
  have hc := core_mem o
  rcases pad_cases o with e | e | e
  · rw [e, List.append_nil, trim1_no _ hc, trim1_no _ hc]
  · rw [e, trim1_yes, trim1_no _ hc]
  · rw [e, show core o ++ [61, 61] = (core o ++ [61]) ++ [61] by simp, trim1_yes, trim1_yes]
/-- What isn't read was not written. -/
theorem no_letter (s : List UInt8) (c : UInt8) (h : c ∈ trim1 (trim1 s)) (hc : c ∉ lets) : ∀ o, enc o ≠ s := by
  intro o ho
  subst ho
  rw [trim_enc] at h
  exact hc (core_mem o c h)
theorem bits_left (s : List UInt8) (x : List UInt8) (h b : Nat) (hd : decA ([], 0, 0) (trim1 (trim1 s)) = (x, h, b)) (hb : b ≠ 0) : ∀ o, enc o ≠ s := by
  intro o ho
  subst ho
  obtain ⟨h', e⟩ := dec_core o []
  rw [trim_enc, e] at hd
  injection hd with _ hd
  injection hd with _ hd
  exact hb hd.symm
theorem too_few (s : List UInt8) (h : s.length % 4 ≠ 0) : ∀ o, enc o ≠ s := by
  intro o ho
  subst ho
  rw [enc_length] at h
  omega
theorem all_read (s : List UInt8) (x : List UInt8) (h : Nat) (h4 : s.length % 4 = 0) (hl : ∀ c ∈ trim1 (trim1 s), c ∈ lets) (hd : decA ([], 0, 0) (trim1 (trim1 s)) = (x, h, 0)) : enc x = s := by
  have key : ∀ (body p : List UInt8), (∀ c ∈ body, c ∈ lets) → decA ([], 0, 0) body = (x, h, 0) → s = body ++ p → (p = [] ∨ p = [61] ∨ p = [61, 61]) → enc x = s := by
    intro body p hl hd hs hp
    have hlen : body.length % 4 ≠ 1 ∧ p = padN (body.length % 4) := by
      rw [hs, List.length_append] at h4
      rcases hp with rfl | rfl | rfl
      · simp at h4
        rw [h4]; exact ⟨by decide, rfl⟩
      · simp at h4
        have : body.length % 4 = 3 := by omega
        rw [this]; exact ⟨by decide, rfl⟩
      · simp at h4
        have : body.length % 4 = 2 := by omega
        rw [this]; exact ⟨by decide, rfl⟩
    obtain ⟨o, h', b, e, he⟩ := dec_enc body [] hl hlen.1
    rw [hd] at e
    injection e with e1 e2
    injection e2 with e2 e3
    rw [e1, List.nil_append, he e3.symm, ← hlen.2, hs]
  rcases trim1_cases s with ⟨y, e, e2⟩ | e
  · rw [e2] at hl hd
    rcases trim1_cases y with ⟨z, f, f2⟩ | f
    · rw [f2] at hl hd
      exact key z [61, 61] hl hd (by rw [e, f]; simp) (.inr (.inr rfl))
    · rw [f] at hl hd
      exact key y [61] hl hd e (.inr (.inl rfl))
  · rw [e, e] at hl hd
    exact key s [] hl hd (by simp) (.inl rfl)
theorem enc_inj (a b : List UInt8) (h : enc a = enc b) : a = b := by
  obtain ⟨h1, e1⟩ := dec_core a []
  obtain ⟨h2, e2⟩ := dec_core b []
  rw [← trim_enc, h, trim_enc, e2] at e1
  injection e1 with e1
  exact e1.symm
end Go.Proofs.YtlmfhbffknganabDoor

/- The bytes of letters by the program: just what Base64 writes is read, and read as what it was. -/
namespace Go.Proofs.YtlmfhbffknganabDoor
open Go.RowKit

theorem ix_lets (c : UInt8) (n : Int) (hn : n = c.toNat) (w : World) :
    Calls Tryd.prog 30 #[.string { data := #[65, 66, 67, 68, 69, 70, 71, 72, 73, 74, 75, 76, 77, 78, 79, 80, 81, 82, 83, 84, 85, 86, 87, 88, 89, 90, 97, 98, 99, 100, 101, 102, 103, 104, 105, 106, 107, 108, 109, 110, 111, 112, 113, 114, 115, 116, 117, 118, 119, 120, 121, 122, 48, 49, 50, 51, 52, 53, 54, 55, 56, 57, 43, 47] }, .int .u8 n] w fun e w' => e = .returned (.int .i64 (ixL c)) ∧ w' = w := ix_of _ c n hn w
theorem trim_o (s : ByteArray) (w : World) (hs : s.size ≤ 1000) :
    Calls Tryd.prog 31 #[.string s, .string { data := #[61] }] w fun e w' => ∃ t : ByteArray, e = .returned (.string t) ∧ t.size ≤ s.size ∧ Hid (t.data.toList = trim1 s.data.toList) ∧ w' = w := by
  refine (trim_any s { data := #[61] } w (by omega)).mono ?_
  rintro e w' ⟨rfl, rfl⟩
  refine ⟨_, rfl, ?_, ?_, rfl⟩
  · rw [bs_size, Lib.size_eq]
    exact Lib.trimSuffix_le _ _
  · show (bs _).data.toList = _
    rw [bs_data]
    rfl

/-- What is held between two letters: the bytes so far, the bits that are left, and how many. -/
def Inv (l o : List UInt8) (x y : Int) : Prop := ∃ h b : Nat, x = b ∧ y = h ∧ decA ([], 0, 0) l = (o, h, b) ∧ (h = 0 ∧ b = 0 ∨ h = 2 ∧ b < 4 ∨ h = 4 ∧ b < 16 ∨ h = 6 ∧ b < 64) ∧ ∀ c ∈ l, c ∈ lets
theorem Inv.start : Inv [] [] 0 0 := ⟨0, 0, rfl, rfl, rfl, .inl ⟨rfl, rfl⟩, by simp⟩
theorem Inv.cases {l o : List UInt8} {x y : Int} (h : Inv l o x y) : (x = 0 ∧ y = 0) ∨ (∃ b : Nat, x = b ∧ y = 2 ∧ b < 4) ∨ (∃ b : Nat, x = b ∧ y = 4 ∧ b < 16) ∨ ∃ b : Nat, x = b ∧ y = 6 ∧ b < 64 := by
  obtain ⟨h, b, rfl, rfl, _, hh, _⟩ := h
  rcases hh with ⟨rfl, rfl⟩ | ⟨rfl, hb⟩ | ⟨rfl, hb⟩ | ⟨rfl, hb⟩
  · exact .inl ⟨rfl, rfl⟩
  · exact .inr (.inl ⟨b, rfl, rfl, hb⟩)
  · exact .inr (.inr (.inl ⟨b, rfl, rfl, hb⟩))
  · exact .inr (.inr (.inr ⟨b, rfl, rfl, hb⟩))
theorem Inv.at {l o : List UInt8} {b h : Nat} (hi : Inv l o b h) : decA ([], 0, 0) l = (o, h, b) ∧ ∀ c ∈ l, c ∈ lets := by
  obtain ⟨h', b', e1, e2, e3, _, e4⟩ := hi
  have : b = b' := by omega
  have : h = h' := by omega
  subst_vars
  exact ⟨e3, e4⟩
theorem or_zero (l : Nat) (h : l < 64) : bits .or .i64 0 (l : Int) = l := by
  have := or_join 0 l 6 (by omega) (by omega) (by omega) (by omega)
  simpa using this
theorem or64d (b l : Nat) (hb : b < 64) (h : l < 64) : bits .or .i64 ((b : Int) * 64) (l : Int) = ((b * 64 + l : Nat) : Int) := by
  have := or_join (b * 64) l 6 (by omega) (by omega) (by omega) (by omega)
  rw [← this]; simp
theorem mem_snoc {l : List UInt8} {c : UInt8} (h : ∀ c ∈ l, c ∈ lets) (hc : c ∈ lets) : ∀ x ∈ l ++ [c], x ∈ lets := by
  intro x hx
  rcases List.mem_append.1 hx with hx | hx
  · exact h x hx
  · simp at hx; rw [hx]; exact hc
theorem Inv.step0 {l o : List UInt8} {c : UInt8} {n : Nat} (hi : Inv l o 0 0) (h1 : ixL c = n) (h2 : n < 64) (h3 : c ∈ lets) : Inv (l ++ [c]) o n 6 := by
  obtain ⟨e, hm⟩ := Inv.at (b := 0) (h := 0) hi
  refine ⟨6, n, rfl, rfl, ?_, .inr (.inr (.inr ⟨rfl, h2⟩)), mem_snoc hm h3⟩
  rw [decA_snoc, e, h1, stp0]
  rfl
theorem Inv.step2 {l o : List UInt8} {c : UInt8} {n b : Nat} (hi : Inv l o b 2) (h1 : ixL c = n) (h2 : n < 64) (h3 : c ∈ lets) (hb : b < 4 := by assumption) :
    ∃ d : UInt8, bits .or .i64 ((b : Int) * 64) (n : Int) = (d.toNat : Int) ∧ bits .and .i64 (d.toNat : Int) 0 = 0 ∧ Inv (l ++ [c]) (o ++ [d]) 0 0 := by
  obtain ⟨e, hm⟩ := Inv.at (b := b) (h := 2) hi
  refine ⟨UInt8.ofNat (b * 64 + n), ?_, ?_, 0, 0, rfl, rfl, ?_, .inl ⟨rfl, rfl⟩, mem_snoc hm h3⟩
  · rw [or64d b n (by omega) h2, toNat_of _ (by omega)]
  · have := and_mask (UInt8.ofNat (b * 64 + n)).toNat 0 (by rw [toNat_of _ (by omega)]; omega) (by omega)
    rw [Nat.pow_zero, Nat.mod_one] at this
    exact this
  · rw [decA_snoc, e, h1, stp2]
    rfl
theorem Inv.step4 {l o : List UInt8} {c : UInt8} {n b : Nat} (hi : Inv l o b 4) (h1 : ixL c = n) (h2 : n < 64) (h3 : c ∈ lets) (hb : b < 16 := by assumption) :
    ∃ (d : UInt8) (z : Int) (b2 : Nat), bits .or .i64 ((b : Int) * 64) (n : Int) = z ∧ 0 ≤ z ∧ z < 1024 ∧ z / 4 = (d.toNat : Int) ∧ bits .and .i64 z 3 = (b2 : Int) ∧ Inv (l ++ [c]) (o ++ [d]) b2 2 := by
  obtain ⟨e, hm⟩ := Inv.at (b := b) (h := 4) hi
  refine ⟨UInt8.ofNat ((b * 64 + n) / 4), ((b * 64 + n : Nat) : Int), (b * 64 + n) % 4, or64d b n (by omega) h2, by omega, by omega, ?_, and_mask _ 2 (by omega) (by omega), 2, _, rfl, rfl, ?_, .inr (.inl ⟨rfl, by omega⟩), mem_snoc hm h3⟩
  · rw [toNat_of _ (by omega)]; omega
  · rw [decA_snoc, e, h1, stp4]
    rfl
theorem Inv.step6 {l o : List UInt8} {c : UInt8} {n b : Nat} (hi : Inv l o b 6) (h1 : ixL c = n) (h2 : n < 64) (h3 : c ∈ lets) (hb : b < 64 := by assumption) :
    ∃ (d : UInt8) (z : Int) (b2 : Nat), bits .or .i64 ((b : Int) * 64) (n : Int) = z ∧ 0 ≤ z ∧ z < 4096 ∧ z / 16 = (d.toNat : Int) ∧ bits .and .i64 z 15 = (b2 : Int) ∧ Inv (l ++ [c]) (o ++ [d]) b2 4 := by
  obtain ⟨e, hm⟩ := Inv.at (b := b) (h := 6) hi
  refine ⟨UInt8.ofNat ((b * 64 + n) / 16), ((b * 64 + n : Nat) : Int), (b * 64 + n) % 16, or64d b n (by omega) h2, by omega, by omega, ?_, and_mask _ 4 (by omega) (by omega), 4, _, rfl, rfl, ?_, .inr (.inr (.inl ⟨rfl, by omega⟩)), mem_snoc hm h3⟩
  · rw [toNat_of _ (by omega)]; omega
  · rw [decA_snoc, e, h1, stp6]
    rfl
theorem Inv.good {t s o : List UInt8} {y : Int} (hi : Inv t o 0 y) (h4 : s.length % 4 = 0) (ht : t = trim1 (trim1 s)) : enc o = s := by
  obtain ⟨h, b, e1, _, e, _, hm⟩ := hi
  have : b = 0 := by omega
  subst this
  subst ht
  exact all_read s o h h4 hm e
theorem Inv.bad {t s o : List UInt8} {x y : Int} (hi : Inv t o x y) (hx : ¬ x = 0) (ht : t = trim1 (trim1 s)) : ∀ o, enc o ≠ s := by
  obtain ⟨h, b, e1, _, e, _, hm⟩ := hi
  subst ht
  exact bits_left s o h b e (by omega)

set_option maxRecDepth 100000 in
set_option maxHeartbeats 1600000 in
theorem unbase_any (s : ByteArray) (w : World) (hs : s.size ≤ 1000) :
    Calls Tryd.prog 16 #[.string s] w fun e w' => Below w.heap.size w w' ∧ ((∃ o : List UInt8, e = .returned (.tuple #[.string (bs o), .nilIface]) ∧ enc o = s.data.toList) ∨ (e = .returned (.tuple #[.string (bs []), .iface 49 (.int .i64 3)]) ∧ ∀ o, enc o ≠ s.data.toList)) := by
  obtain ⟨i0, hi0, hz0, hz1, hz2⟩ := info_parts info5
  by_cases h4 : s.size % 4 = 0
  · obtain ⟨m, hm⟩ : ∃ m, m * 4 = s.size := ⟨s.size / 4, by omega⟩
    have hm1 : (s.size : Int) = m * 4 := by omega
    have HM : Hid (m * 4 = s.size) := hm
    have hm5 : m ≤ 250 := by omega
    clear hm h4
    go_enter Tryd.func16, Tryd.ntmps16
    go_wp2_with fail
    refine (trim_o _ _ hs).mono ?_
    rintro e w' ⟨t1, rfl, hs1, HT1, hw⟩
    subst hw
    go_wp2_with fail
    refine (trim_o _ _ (by omega)).mono ?_
    rintro e w' ⟨t, rfl, hs2, HT2, hw⟩
    subst hw
    have HT : Hid (t.data.toList = trim1 (trim1 s.data.toList)) := by show _ = _; rw [HT2.out, HT1.out]
    have ht : t.size ≤ 1000 := by omega
    clear HT1 HT2 hs1 hs2
    go_wp2_with (at_make; refine wpList_make_own _ rfl _ _ 46 rfl w'.heap.size 5 i0 (.int .u8 0) 1 Tryd.underlying46 hi0 hz0 hz1 .i64 .i64 _ (m * 3) rfl rfl (by omega) (by rw [hz2]; omega) (by unfold maxLen; omega) (Nat.le_refl _) ?_; intro w1 hown1 hgrow1)
    have hb1 : Below w'.heap.size w' w1 := (Below.refl _ _).grown hgrow1 (Nat.le_refl _) (by simp)
    have HO1 : Hid (Own w1 w'.heap.size (.slice (some ⟨w'.heap.size, 0, none⟩) 0 (m * 3)) []) := hown1
    clear hown1 hgrow1
    go_loopw [5, 6, 7, 25] (fun v bt hd i wr => ∃ (k n g cap : Nat) (o : List UInt8) (x y : Int), k ≤ t.size ∧ i = .int .i64 k ∧ v = .slice (some ⟨g, 0, none⟩) n cap ∧ bt = .int .i64 x ∧ hd = .int .i64 y ∧ Hid (Own wr w'.heap.size v o ∧ o.length = n ∧ n ≤ k ∧ Inv (t.data.toList.take k) o x y) ∧ Below w'.heap.size w' wr) (fun _ _ _ i _ => t.size - (intOf i).toNat)
    case atStart => exact ⟨0, 0, _, _, [], 0, 0, Nat.zero_le _, rfl, rfl, rfl, rfl, ⟨HO1, rfl, Nat.zero_le _, Inv.start⟩, hb1⟩
    case round =>
      obtain ⟨k, n, g, cap, o, x, y, hk, rfl, rfl, rfl, rfl, HI, hb⟩ := hrel
      clear HO1 hb1
      by_cases hlt : k < t.size
      · have hwz : w'.heap.size ≤ wr.heap.size := hb.size
        have hnk : n ≤ 1000 := by have := HI.out.2.2.1; omega
        obtain ⟨c, hc⟩ : ∃ c : UInt8, t[k] = c := ⟨_, rfl⟩
        have HS : Hid (t.data.toList.take (k + 1) = t.data.toList.take k ++ [c]) := by rw [← hc]; exact take_snoc t k hlt
        have HC : Hid (c ∉ lets → ∀ o, enc o ≠ s.data.toList) := fun h => no_letter _ c (by rw [← HT.out, ← hc]; exact List.getElem_mem _) h
        rcases ixL_cases c with ⟨h1, n1⟩ | ⟨l, b1, h1, e1⟩
        · have HN : Hid (∀ o, enc o ≠ s.data.toList) := HC.out n1
          clear n1 HC
          go_wp2_with (go_at_call 30; refine (ix_lets c _ rfl _).mono ?_; rintro e w' ⟨rfl, rfl⟩)
          go_ret2
          exact ⟨hb, .inr ⟨rfl, HN⟩⟩
        · have HL : Hid (ixL c = l ∧ l < 64 ∧ c ∈ lets) := ⟨h1, b1, by rw [← e1]; exact let_mem l b1⟩
          have HW : Hid (wr.ownsRow w'.heap.size 5 1 (.slice (some ⟨g, 0, none⟩) n cap) n (o.map fun c => Value.int .u8 (c.toNat : Int))) := HI.out.1.rows HI.out.2.1
          have HO : Hid (Own wr w'.heap.size (.slice (some ⟨g, 0, none⟩) n cap) o) := HI.out.1
          have HLen : Hid (o.length = n ∧ n ≤ k) := ⟨HI.out.2.1, HI.out.2.2.1⟩
          have hin := HI.out.2.2.2
          clear HI e1 HC
          rcases hin.cases with ⟨rfl, rfl⟩ | ⟨b, rfl, rfl, hbl⟩ | ⟨b, rfl, rfl, hbl⟩ | ⟨b, rfl, rfl, hbl⟩
          · have hor : bits .or .i64 0 (l : Int) = l := or_zero l b1
            have HI2 : Hid (Inv (t.data.toList.take (k + 1)) o (l : Int) 6) := by rw [HS.out]; exact hin.step0 HL.out.1 HL.out.2.1 HL.out.2.2
            clear hin
            go_wp2_with (go_at_call 30; refine (ix_lets c _ rfl _).mono ?_; rintro e w' ⟨rfl, rfl⟩)
            go_roundw
            case rel => exact ⟨k + 1, n, g, cap, o, (l : Int), 6, by omega, by go_num, rfl, rfl, rfl, ⟨HO, HLen.out.1, by have := HLen.out.2; omega, HI2⟩, hb⟩
            case measure => simp [intOf]; omega
          · obtain ⟨d, hor, hand, HI3⟩ := hin.step2 HL.out.1 HL.out.2.1 HL.out.2.2
            have HI2 : Hid (Inv (t.data.toList.take (k + 1)) (o ++ [d]) 0 0) := by rw [HS.out]; exact HI3
            clear hin HI3
            have hdl : (d.toNat : Int) < 256 := by have := d.toNat_lt; omega
            go_wp2_with (first | (go_at_call 30; refine (ix_lets c _ rfl _).mono ?_; rintro e w' ⟨rfl, rfl⟩) | (at_builtin; refine wpList_append_lies _ rfl (.tmp 45) (.tmp 50) 46 rfl _ 5 i0 (.int .u8 0) 1 1 Tryd.underlying46 hi0 hz0 hz1 hz2 rfl (by omega) (.slice (some ⟨g, 0, none⟩) n cap) n _ rfl (HW.out.alloc _) ⟨_, 0, none⟩ 1 1 [.int .u8 (d.toNat : Int)] rfl rfl (World.news_of_block (cs := #[.int .u8 (d.toNat : Int)]) (t := 5) (fr := (0, 0)) (heap_alloc_new _ _)) (by simp [Value.oneCell']) (by omega) (by unfold maxLen; omega) (by omega) (by simp; omega) _ rfl ?_; intro gg cap1 w2 hown1 hgrow hat hlt1; have HN := (show Hid (Own w2 _ (.slice (some ⟨gg, 0, none⟩) (n + 1) cap1) (o ++ [d])) from Own.more (ds := [d]) hown1 HLen.out.1 rfl); have hb2 := HO.out.below hb hwz hgrow; clear hown1 hgrow hat hlt1))
            go_roundw
            case rel => exact ⟨k + 1, n + 1, gg, cap1, o ++ [d], 0, 0, by omega, by go_num, rfl, rfl, rfl, ⟨HN, by simp [HLen.out.1], by have := HLen.out.2; omega, HI2⟩, hb2⟩
            case measure => simp [intOf]; omega
          · obtain ⟨d, z, b2, hor, hzl0, hzl1, hshr, hand, HI3⟩ := hin.step4 HL.out.1 HL.out.2.1 HL.out.2.2
            have HI2 : Hid (Inv (t.data.toList.take (k + 1)) (o ++ [d]) (b2 : Int) 2) := by rw [HS.out]; exact HI3
            clear hin HI3
            have hdl : (d.toNat : Int) < 256 := by have := d.toNat_lt; omega
            go_wp2_with (first | (go_at_call 30; refine (ix_lets c _ rfl _).mono ?_; rintro e w' ⟨rfl, rfl⟩) | (at_builtin; refine wpList_append_lies _ rfl (.tmp 45) (.tmp 50) 46 rfl _ 5 i0 (.int .u8 0) 1 1 Tryd.underlying46 hi0 hz0 hz1 hz2 rfl (by omega) (.slice (some ⟨g, 0, none⟩) n cap) n _ rfl (HW.out.alloc _) ⟨_, 0, none⟩ 1 1 [.int .u8 (d.toNat : Int)] rfl rfl (World.news_of_block (cs := #[.int .u8 (d.toNat : Int)]) (t := 5) (fr := (0, 0)) (heap_alloc_new _ _)) (by simp [Value.oneCell']) (by omega) (by unfold maxLen; omega) (by omega) (by simp; omega) _ rfl ?_; intro gg cap1 w2 hown1 hgrow hat hlt1; have HN := (show Hid (Own w2 _ (.slice (some ⟨gg, 0, none⟩) (n + 1) cap1) (o ++ [d])) from Own.more (ds := [d]) hown1 HLen.out.1 rfl); have hb2 := HO.out.below hb hwz hgrow; clear hown1 hgrow hat hlt1))
            go_roundw
            case rel => exact ⟨k + 1, n + 1, gg, cap1, o ++ [d], (b2 : Int), 2, by omega, by go_num, rfl, rfl, rfl, ⟨HN, by simp [HLen.out.1], by have := HLen.out.2; omega, HI2⟩, hb2⟩
            case measure => simp [intOf]; omega
          · obtain ⟨d, z, b2, hor, hzl0, hzl1, hshr, hand, HI3⟩ := hin.step6 HL.out.1 HL.out.2.1 HL.out.2.2
            have HI2 : Hid (Inv (t.data.toList.take (k + 1)) (o ++ [d]) (b2 : Int) 4) := by rw [HS.out]; exact HI3
            clear hin HI3
            have hdl : (d.toNat : Int) < 256 := by have := d.toNat_lt; omega
            go_wp2_with (first | (go_at_call 30; refine (ix_lets c _ rfl _).mono ?_; rintro e w' ⟨rfl, rfl⟩) | (at_builtin; refine wpList_append_lies _ rfl (.tmp 45) (.tmp 50) 46 rfl _ 5 i0 (.int .u8 0) 1 1 Tryd.underlying46 hi0 hz0 hz1 hz2 rfl (by omega) (.slice (some ⟨g, 0, none⟩) n cap) n _ rfl (HW.out.alloc _) ⟨_, 0, none⟩ 1 1 [.int .u8 (d.toNat : Int)] rfl rfl (World.news_of_block (cs := #[.int .u8 (d.toNat : Int)]) (t := 5) (fr := (0, 0)) (heap_alloc_new _ _)) (by simp [Value.oneCell']) (by omega) (by unfold maxLen; omega) (by omega) (by simp; omega) _ rfl ?_; intro gg cap1 w2 hown1 hgrow hat hlt1; have HN := (show Hid (Own w2 _ (.slice (some ⟨gg, 0, none⟩) (n + 1) cap1) (o ++ [d])) from Own.more (ds := [d]) hown1 HLen.out.1 rfl); have hb2 := HO.out.below hb hwz hgrow; clear hown1 hgrow hat hlt1))
            go_roundw
            case rel => exact ⟨k + 1, n + 1, gg, cap1, o ++ [d], (b2 : Int), 4, by omega, by go_num, rfl, rfl, rfl, ⟨HN, by simp [HLen.out.1], by have := HLen.out.2; omega, HI2⟩, hb2⟩
            case measure => simp [intOf]; omega
      · have hke : k = t.size := by omega
        have hin := HI.out.2.2.2
        rw [List.take_of_length_le (by simp; omega)] at hin
        have hO := HI.out.1
        have hback := hO.back HI.out.2.1
        clear hO
        by_cases hx : x = 0
        · subst hx
          have HE : Hid (enc o = s.data.toList) := hin.good (by have := HM.out; simp; omega) HT.out
          clear hin HI hke
          go_wp2
          go_ret2
          exact ⟨hb, .inl ⟨o, rfl, HE⟩⟩
        · have HN : Hid (∀ o, enc o ≠ s.data.toList) := hin.bad hx HT.out
          have hx2 : (x == 0) = false := by simpa using hx
          clear hin HI hke hback
          go_wp2
          go_ret2
          exact ⟨hb, .inr ⟨rfl, HN⟩⟩
  · go_enter Tryd.func16, Tryd.ntmps16
    go_wp2
    go_ret2
    exact ⟨Below.refl _ _, .inr ⟨rfl, too_few _ (by simpa using h4)⟩⟩
end Go.Proofs.YtlmfhbffknganabDoor

/- The five facts that the laws ask for first: some well-known digits, letters and small letters. -/
namespace Go.Proofs.YtlmfhbffknganabDoor
open Go.RowKit

theorem unhex_of (s : ByteArray) (l : List UInt8) (o : ByteArray) (hl : hexL l = s.data.toList) (ho : bs l = o) (w : World) (hs : s.size ≤ 1000) :
    Calls Tryd.prog 15 #[.string s] w fun e w' => e = .returned (.tuple #[.string o, .nilIface]) ∧ Below w.heap.size w w' := by
  refine (unhex_any s w hs).mono ?_
  rintro e w' ⟨hb, ⟨o', rfl, ho'⟩ | ⟨_, hn⟩⟩
  · have := hexL_inj o' l (by rw [ho', hl])
    subst this
    rw [ho]
    exact ⟨rfl, hb⟩
  · exact absurd hl (hn l)
theorem unbase_of (s : ByteArray) (l : List UInt8) (o : ByteArray) (hl : enc l = s.data.toList) (ho : bs l = o) (w : World) (hs : s.size ≤ 1000) :
    Calls Tryd.prog 16 #[.string s] w fun e w' => e = .returned (.tuple #[.string o, .nilIface]) ∧ Below w.heap.size w w' := by
  refine (unbase_any s w hs).mono ?_
  rintro e w' ⟨hb, ⟨o', rfl, ho'⟩ | ⟨_, hn⟩⟩
  · have := enc_inj o' l (by rw [ho', hl])
    subst this
    rw [ho]
    exact ⟨rfl, hb⟩
  · exact absurd hl (hn l)

theorem coded_hex (w : World) : Calls Tryd.prog 17 #[.string { data := #[74] }] w fun e w' => e = .returned (.string { data := #[52, 97] }) ∧ Below w.heap.size w w' := hex_any { data := #[74] } w (by decide)
theorem coded_base (w : World) : Calls Tryd.prog 18 #[.string { data := #[72, 105, 33] }] w fun e w' => e = .returned (.string { data := #[83, 71, 107, 104] }) ∧ Below w.heap.size w w' := by
  refine (base_any { data := #[72, 105, 33] } w (by decide)).mono ?_
  rintro e w' ⟨rfl, hb⟩
  exact ⟨ret_str (by decide), hb⟩
theorem coded_low (w : World) : Calls Tryd.prog 11 #[.string { data := #[97, 66, 99] }] w fun e w' => e = .returned (.string { data := #[97, 98, 99] }) ∧ Below w.heap.size w w' := by
  refine (lower_any { data := #[97, 66, 99] } w (by decide)).mono ?_
  rintro e w' ⟨rfl, hb⟩
  exact ⟨ret_str (by decide), hb⟩

set_option maxHeartbeats 800000 in
theorem coded_any (w : World) : Calls Tryd.prog 5 #[] w fun e w' => e = .returned (.bool true) ∧ Below w.heap.size w w' := by
  go_enter Tryd.func5, Tryd.ntmps5
  go_wp2_with (first
    | (go_at_call 15; refine (unhex_of { data := #[52, 97, 52, 98] } [74, 75] { data := #[74, 75] } (by decide) rfl _ (by decide)).mono ?_; rintro e w1 ⟨rfl, hb1⟩)
    | (go_at_call 16; refine (unbase_of { data := #[83, 71, 107, 61] } [72, 105] { data := #[72, 105] } (by decide) rfl _ (by decide)).mono ?_; rintro e w2 ⟨rfl, hb2⟩)
    | (go_at_call 17; refine (coded_hex _).mono ?_; rintro e w3 ⟨rfl, hb3⟩)
    | (go_at_call 18; refine (coded_base _).mono ?_; rintro e w4 ⟨rfl, hb4⟩)
    | (go_at_call 11; refine (coded_low _).mono ?_; rintro e w5 ⟨rfl, hb5⟩))
  go_ret
  refine ⟨rfl, ?_⟩
  have s1 := hb1.size
  have s2 := hb2.size
  have s3 := hb3.size
  have s4 := hb4.size
  exact (((hb1.trans (hb2.mono (by omega))).trans (hb3.mono (by omega))).trans (hb4.mono (by omega))).trans (hb5.mono (by omega))
end Go.Proofs.YtlmfhbffknganabDoor

/- Headers that are too long to be held. -/
namespace Go.Proofs.YtlmfhbffknganabDoor
open Go.RowKit

def overP (p : Par) : Bool := decide (300 < p.1.size + p.2.size)
/-- Headers that are too many, or too long; n: the bytes of all else. -/
def largeL (ps : List Par) (n : Nat) : Bool := decide (45 < ps.length) || (decide (900 < n) || ps.any overP)
theorem over_snoc {ps : List Par} {k : Nat} {p : Par} (h : (ps.take k).any overP = false) (hk : ps[k]? = some p) (hp : ¬ 300 < p.1.size + p.2.size) : (ps.take (k + 1)).any overP = false := by
  obtain ⟨hk1, e⟩ := List.getElem?_eq_some_iff.1 hk
  rw [List.take_succ_eq_append_getElem hk1, List.any_append, h, e]
  have : overP p = false := by unfold overP; exact decide_eq_false hp
  simp [this]
theorem large_small {ps : List Par} {n : Nat} (h : largeL ps n = false) : ps.length ≤ 45 ∧ n ≤ 900 ∧ ∀ p ∈ ps, p.1.size + p.2.size ≤ 300 := by
  unfold largeL at h
  simp only [Bool.or_eq_false_iff, decide_eq_false_iff_not] at h
  refine ⟨by omega, by omega, fun p hp => ?_⟩
  have h3 := List.any_eq_false.1 h.2.2 p hp
  unfold overP at h3
  simpa using h3
end Go.Proofs.YtlmfhbffknganabDoor

/- New blocks: what they hold, and that nothing older has turned. -/
namespace Go.Proofs.YtlmfhbffknganabDoor
open Go.RowKit

theorem cells_new (W : World) (cs : Array Value) (t : TypeId) (j : Nat) : (W.alloc (.cells cs t)).cell? ⟨W.heap.size, j, none⟩ = cs[j]? := World.cell?_alloc_mark _ _ _ _ _
theorem drewN_below {B : Nat} {a w : World} (h : Below B a w) (n : Nat) : Below B a (w.drewN n) := h.trans ⟨rfl, rfl, rfl, Nat.le_refl _, fun _ _ => rfl⟩
end Go.Proofs.YtlmfhbffknganabDoor

/- Whether headers are few, by the law's own words: the library's functions over a row of parameters that lies somewhere. -/
namespace Go.Proofs.YtlmfhbffknganabDoor
open Go.RowKit

/-- A function that says whether a parameter is of a kind, at these. -/
structure KindP (K : Nat) (f : Par → Bool) (ps : List Par) : Prop where
  says : ∀ p ∈ ps, ∀ w : World, Calls Tryd.prog K #[.agg #[.string p.1, .string p.2]] w fun e w' => e = .returned (.bool (f p)) ∧ Below w.heap.size w w'
  enters : ∀ (args : Array Value) (w : World), (callFunc K args).run Tryd.prog w = .ok (.enter K args) w
set_option maxRecDepth 100000 in
set_option maxHeartbeats 2000000 in
theorem indexP8_any (K : Nat) (f : Par → Bool) (ps : List Par) (hK : KindP K f ps) (a0 : Option Addr) (len cap b off : Nat) (hlen : len ≤ 1000000) (w : World) (hx : Pars w a0 len b off ps) :
    Calls Tryd.prog 33 #[.slice a0 len cap, .func (.func K) #[] #[]] w fun e w' => (∃ r : Int, e = .returned (.int .i64 r) ∧ Hid (decide (0 ≤ r) = ps.any f)) ∧ Below w.heap.size w w' := by
  have HX : Hid (Pars w a0 len b off ps) := hx
  have hl := hx.len_eq
  have HK0 : Hid (KindP K f ps) := hK
  have hen := hK.enters
  clear hK hx
  go_enter Tryd.func33, Tryd.ntmps33
  go_wp2
  go_loopw [8] (fun i wr => ∃ (k : Nat), k ≤ len ∧ i = .int .i64 k ∧ Hid ((ps.take k).any f = false) ∧ Hid (Below w.heap.size w wr)) (fun i _ => len - (intOf i).toNat)
  case atStart => exact ⟨0, Nat.zero_le _, rfl, rfl, Below.refl _ _⟩
  case round =>
    obtain ⟨k, hk, rfl, HK, HB⟩ := hrel
    by_cases hlt : k < len
    · have hltz : (k : Int) < (len : Int) := by omega
      obtain ⟨p, hp⟩ : ∃ p, ps[k]? = some p := ⟨ps[k]'(by omega), List.getElem?_eq_getElem (by omega)⟩
      obtain ⟨pn, pv⟩ := p
      have HPK : Hid (ps[k]? = some (pn, pv)) := hp
      have HM : Hid ((pn, pv) ∈ ps) := List.mem_of_getElem? hp
      obtain ⟨ha0, _⟩ := HX.out.lies (by omega)
      subst ha0
      have hXr := HX.out.below HB.out
      have c1 : wr.cell? ⟨b, off + k * 2, none⟩ = some (.string pn) := hXr.one k _ hp
      have c2 : wr.cell? ⟨b, off + k * 2 + 1, none⟩ = some (.string pv) := hXr.two k _ hp
      have hsay := HK0.out.says _ HM.out
      clear hp hXr
      cases hf : f (pn, pv)
      · have HS : Hid ((ps.take (k + 1)).any f = false) := by
          show _ = _
          obtain ⟨hk1, e⟩ := List.getElem?_eq_some_iff.1 HPK.out
          rw [List.take_succ_eq_append_getElem hk1, List.any_append, HK.out, e]
          simp [hf]
        go_wp2_with fail
        refine (hsay _).mono ?_
        rintro e w' ⟨rfl, hb'⟩
        rw [hf]
        have HB2 : Hid (Below w.heap.size w w') := HB.out.trans (hb'.mono HB.out.size)
        clear hb'
        go_wp2
        go_roundw
        case rel => exact ⟨k + 1, by omega, by go_num, HS, HB2⟩
        case measure => simp [intOf]; omega
      · have HS : Hid (ps.any f = true) := List.any_eq_true.2 ⟨_, HM.out, hf⟩
        go_wp2_with fail
        refine (hsay _).mono ?_
        rintro e w' ⟨rfl, hb'⟩
        rw [hf]
        have HB2 : Hid (Below w.heap.size w w') := HB.out.trans (hb'.mono HB.out.size)
        clear hb'
        go_wp2
        go_ret
        exact ⟨⟨_, rfl, by show _ = _; rw [HS.out]; exact decide_eq_true (Int.natCast_nonneg _)⟩, HB2.out⟩
    · have hltz : ¬ (k : Int) < (len : Int) := by omega
      have HS : Hid (ps.any f = false) := by
        have := HK.out
        rw [List.take_of_length_le (by omega)] at this
        exact this
      go_wp2
      go_ret
      exact ⟨⟨_, rfl, by show _ = _; rw [HS.out]; rfl⟩, HB.out⟩
theorem overF_any (p : Par) (h1 : p.1.size ≤ 140737488355328) (h2 : p.2.size ≤ 140737488355328) (w : World) :
    Calls Tryd.prog 20 #[.agg #[.string p.1, .string p.2]] w fun e w' => e = .returned (.bool (overP p)) ∧ Below w.heap.size w w' := by
  obtain ⟨x, y⟩ := p
  simp only at h1 h2 ⊢
  have HO : Hid (overP (x, y) = decide ((300 : Int) < (x.size : Int) + (y.size : Int))) := by
    show _ = _
    unfold overP
    simp only [← Int.ofNat_lt]
    rfl
  go_enter Tryd.func20, Tryd.ntmps20
  go_wp2
  go_ret
  exact ⟨ret_bool HO.out.symm, (Below.refl _ _).alloc (Nat.le_refl _) _⟩
/-- Few headers, and small ones. -/
def fewL (ps : List Par) : Bool := decide (ps.length ≤ 40) && !ps.any overP
set_option maxHeartbeats 1000000 in
theorem few_any (ps : List Par) (hz : ∀ p ∈ ps, p.1.size ≤ 140737488355328 ∧ p.2.size ≤ 140737488355328) (a0 : Option Addr) (len cap b off : Nat) (hlb : len ≤ 9223372036854775807) (w : World) (hx : Pars w a0 len b off ps) :
    Calls Tryd.prog 6 #[.slice a0 len cap] w fun e w' => e = .returned (.bool (fewL ps)) ∧ Below w.heap.size w w' := by
  have hl := hx.len_eq
  by_cases h : len ≤ 40
  · have h' : (len : Int) ≤ 40 := by omega
    have hK : KindP 20 overP ps := ⟨fun p hp w => overF_any p (hz p hp).1 (hz p hp).2 w, enters_at Tryd.func20 (by kernel_rfl) rfl⟩
    have hcon : ∀ w', Pars w' a0 len b off ps → Calls Tryd.prog 19 #[.slice a0 len cap, .func (.func 20) #[] #[]] w' fun e w'' => e = .returned (.bool (ps.any overP)) ∧ Below w'.heap.size w' w'' := fun w' hx' => by
      go_enter Tryd.func19, Tryd.ntmps19
      go_wp2_with (go_at_call 33; refine (indexP8_any _ overP ps hK a0 len cap b off (by omega) _ hx').mono ?_; rintro e w'' ⟨⟨r, rfl, HR⟩, hb⟩)
      go_ret
      exact ⟨ret_bool HR.out, hb⟩
    obtain ⟨q, HQ⟩ : ∃ q, Hid (ps.any overP = q) := ⟨_, rfl⟩
    rw [HQ.out] at hcon
    have HF : Hid (fewL ps = !q) := by
      show _ = _
      unfold fewL
      rw [decide_eq_true (by omega), HQ.out, Bool.true_and]
    clear hK hz
    go_enter Tryd.func6, Tryd.ntmps6
    go_wp2_with fail
    refine (hcon _ hx).mono ?_
    rintro e w1 ⟨rfl, hb1⟩
    go_wp2
    go_ret
    exact ⟨ret_bool HF.out.symm, hb1⟩
  · have h' : ¬ (len : Int) ≤ 40 := by omega
    have HF : Hid (fewL ps = false) := by
      show _ = _
      unfold fewL
      rw [decide_eq_false (by omega), Bool.false_and]
    go_enter Tryd.func6, Tryd.ntmps6
    go_wp2
    go_ret
    exact ⟨ret_bool HF.out.symm, Below.refl _ _⟩
theorem fewL_small {ps : List Par} (h : fewL ps = true) : ps.length ≤ 40 ∧ ∀ p ∈ ps, p.1.size + p.2.size ≤ 300 := by
  unfold fewL at h
  rw [Bool.and_eq_true] at h
  refine ⟨of_decide_eq_true h.1, fun p hp => ?_⟩
  have h2 : ps.any overP = false := by simpa using h.2
  have h3 := List.any_eq_false.1 h2 p hp
  unfold overP at h3
  simpa using h3
end Go.Proofs.YtlmfhbffknganabDoor

/- What must be asked for, as lists: rising, each once, in small letters; in whichever order. -/
namespace Go.Proofs.YtlmfhbffknganabDoor
open Go.RowKit

theorem lt_of_le_ne8 {a b : List UInt8} (h : a ≤ b) (hne : a ≠ b) : a < b := by
  rcases Decidable.em (a < b) with h1 | h1
  · exact h1
  · exact absurd (List.le_antisymm h (List.not_lt.1 h1)) hne
theorem compact_rises (ss : List (List UInt8)) (hs : ss.Pairwise fun a b => a ≤ b) : ∀ m, m ≤ ss.length → (Lib.compactUpTo ss.toArray m).Pairwise (fun a b => a < b) ∧ ∀ x ∈ Lib.compactUpTo ss.toArray m, ∀ z, ss[m - 1]? = some z → x = z ∨ x < z
  | 0, _ => by
    unfold Lib.compactUpTo
    simp
  | m + 1, hm => by
    obtain ⟨h1, h2⟩ := compact_rises ss hs m (by omega)
    have hml : m < ss.length := by omega
    have em : ss.toArray[m]! = ss[m] := by simp [getElem!_pos, hml]
    rw [Lib.compactUpTo_succ]
    by_cases h0 : m = 0
    · subst h0
      have e0 : Lib.compactUpTo ss.toArray 0 = [] := by unfold Lib.compactUpTo; simp
      rw [e0, if_pos (by simp [Lib.keeps]), em]
      refine ⟨by simp, fun x hx z hz => ?_⟩
      have hz' : ss[0]? = some z := by simpa using hz
      obtain ⟨_, e⟩ := List.getElem?_eq_some_iff.1 hz'
      exact .inl ((show x = ss[0] by simpa using hx).trans e)
    · have em1 : ss.toArray[m - 1]! = ss[m - 1] := by simp [getElem!_pos, show m - 1 < ss.length by omega]
      have hle : ss[m - 1] ≤ ss[m] := List.pairwise_iff_getElem.1 hs (m - 1) m (by omega) hml (by omega)
      by_cases he : ss[m] = ss[m - 1]
      · rw [if_neg (by unfold Lib.keeps; rw [em, em1]; simp [h0, he])]
        simp only [List.append_nil]
        refine ⟨h1, fun x hx z hz => ?_⟩
        have hz' : ss[m]? = some z := by simpa using hz
        obtain ⟨_, e⟩ := List.getElem?_eq_some_iff.1 hz'
        rw [← e, he]
        exact h2 x hx _ (List.getElem?_eq_getElem (by omega))
      · have hlt : ss[m - 1] < ss[m] := lt_of_le_ne8 hle (fun e => he e.symm)
        rw [if_pos (by unfold Lib.keeps; rw [em, em1]; simp [he]), em]
        have hall : ∀ x ∈ Lib.compactUpTo ss.toArray m, x < ss[m] := fun x hx => by
          rcases h2 x hx _ (List.getElem?_eq_getElem (show m - 1 < ss.length by omega)) with e | e
          · rw [e]; exact hlt
          · exact List.lt_trans e hlt
        refine ⟨?_, fun x hx z hz => ?_⟩
        · rw [List.pairwise_append]
          exact ⟨h1, by simp, fun a ha b hb => by rw [List.mem_singleton.1 hb]; exact hall a ha⟩
        · have hz' : ss[m]? = some z := by simpa using hz
          obtain ⟨_, e⟩ := List.getElem?_eq_some_iff.1 hz'
          rw [← e]
          rcases List.mem_append.1 hx with h | h
          · exact .inr (hall x h)
          · exact .inl (List.mem_singleton.1 h)
theorem compact_mem (ss : List (List UInt8)) (x : List UInt8) (h : x ∈ Lib.compact ss) : x ∈ ss := by
  unfold Lib.compact Lib.compactUpTo at h
  obtain ⟨j, hj, rfl⟩ := List.mem_map.1 h
  have hj1 := List.mem_range.1 (List.mem_filter.1 hj).1
  rw [show ss.toArray[j]! = ss[j] by simp [getElem!_pos, hj1]]
  exact List.getElem_mem hj1
/-- The names that must be asked for, as lists. -/
def askT (ps : List Par) : List (List UInt8) := Lib.compact (sortL (tx (askedNames ps)))
theorem askedL_is (ps : List Par) : askedL ps = (askT ps).map bs := rfl
theorem askT_rises (ps : List Par) : (askT ps).Pairwise fun a b => a < b := by
  have := (compact_rises (sortL (tx (askedNames ps))) (sortL_sorted _) _ (Nat.le_refl _)).1
  exact this
theorem askT_next (ps : List Par) (k : Nat) (x y : List UInt8) (hx : (askT ps)[k]? = some x) (hy : (askT ps)[k + 1]? = some y) : x < y := by
  obtain ⟨h1, e1⟩ := List.getElem?_eq_some_iff.1 hx
  obtain ⟨h2, e2⟩ := List.getElem?_eq_some_iff.1 hy
  rw [← e1, ← e2]
  exact List.pairwise_iff_getElem.1 (askT_rises ps) k (k + 1) h1 h2 (by omega)
theorem low8_low : ∀ c : UInt8, low (low c) = low c := by
  intro c
  have : ∀ n : Fin 256, low (low (UInt8.ofNat n.1)) = low (UInt8.ofNat n.1) := by decide +kernel
  have h := this ⟨c.toNat, c.toNat_lt⟩
  simpa using h
theorem askT_from (ps : List Par) (x : List UInt8) (h : x ∈ askT ps) : ∃ p ∈ ps, x = p.1.data.toList.map low := by
  have h1 := compact_mem _ x h
  have h2 := (sortL_perm _).mem_iff.1 h1
  unfold tx at h2
  obtain ⟨b, hb, rfl⟩ := List.mem_map.1 h2
  have h3 : ∃ p ∈ ps, b = lowN p := by
    unfold askedNames notPlain arePlain at hb
    split at hb
    · rcases List.mem_append.1 hb with h | h
      · obtain ⟨p, hp, e⟩ := List.mem_map.1 h; exact ⟨p, (List.mem_filter.1 hp).1, e.symm⟩
      · obtain ⟨p, hp, e⟩ := List.mem_map.1 h; exact ⟨p, (List.mem_filter.1 hp).1, e.symm⟩
    · obtain ⟨p, hp, e⟩ := List.mem_map.1 hb; exact ⟨p, (List.mem_filter.1 hp).1, e.symm⟩
  obtain ⟨p, hp, rfl⟩ := h3
  exact ⟨p, hp, by unfold lowN; rw [bs_data]⟩
theorem askT_low (ps : List Par) (x : List UInt8) (h : x ∈ askT ps) : x.map low = x := by
  obtain ⟨p, _, rfl⟩ := askT_from ps x h
  rw [List.map_map]
  apply List.map_congr_left
  intro c _
  exact low8_low c
theorem askT_size (ps : List Par) (hs : Small8 ps) (x : List UInt8) (h : x ∈ askT ps) : (bs x).size ≤ 3000 := by
  obtain ⟨p, hp, rfl⟩ := askT_from ps x h
  rw [bs_size, List.length_map]
  have e : p.1.data.toList.length = p.1.size := Array.length_toList
  have := (hs p hp).1
  omega
theorem together_rev (ps : List Par) : together ps.reverse = together ps := by
  unfold together
  rw [List.filter_reverse, List.map_reverse, List.sum_reverse]
theorem askedL_rev (ps : List Par) : askedL ps.reverse = askedL ps := by
  unfold askedL
  congr 2
  apply sortL_of_perm
  unfold tx
  apply List.Perm.map
  unfold askedNames
  rw [together_rev]
  have h1 : (notPlain ps.reverse).Perm (notPlain ps) := by
    unfold notPlain
    rw [List.filter_reverse, List.map_reverse]
    exact List.reverse_perm _
  have h2 : (arePlain ps.reverse).Perm (arePlain ps) := by
    unfold arePlain
    rw [List.filter_reverse, List.map_reverse]
    exact List.reverse_perm _
  split
  · exact h1.append h2
  · exact h1
theorem not_leq (x y : List UInt8) (h : x < y) : (Op.bytesLess y x || y == x) = false := by
  rw [bytesLess_eq]
  have h1 : ¬ y < x := fun h2 => List.lt_irrefl x (List.lt_trans h h2)
  have h2 : y ≠ x := fun e => List.lt_irrefl x (by rw [e] at h; exact h)
  rw [decide_eq_false h1, beq_eq_false_iff_ne.2 h2]
  rfl
theorem asked_len (ps : List Par) : (askedL ps).length ≤ ps.length := by
  unfold askedL
  rw [List.length_map]
  have h1 := compact_len (sortL (tx (askedNames ps)))
  have h2 : (tx (askedNames ps)).length = (askedNames ps).length := by unfold tx; simp
  rw [sortL_len, h2] at h1
  have h3 := lens_le ps
  have h4 : (askedNames ps).length ≤ ps.length := by
    unfold askedNames
    split
    · rw [List.length_append]; omega
    · omega
  omega
end Go.Proofs.YtlmfhbffknganabDoor

/- One parameter more at a row of parameters that a call owns. -/
namespace Go.Proofs.YtlmfhbffknganabDoor
open Go.RowKit

theorem infoP : (Tryd.prog.info? 24).map (fun i => (i.zero, i.size, i.bytes)) = some (some (.agg #[.string ⟨#[]⟩, .string ⟨#[]⟩]), 2, 32) := by kernel_rfl
def parCells : List Par → List Value
  | [] => []
  | p :: r => .string p.1 :: .string p.2 :: parCells r
theorem parCells_app (a b : List Par) : parCells (a ++ b) = parCells a ++ parCells b := by
  induction a with
  | nil => rfl
  | cons p r ih => simp [parCells, ih]
theorem parCells_at : ∀ (ps : List Par) (j : Nat) (p : Par), ps[j]? = some p → (parCells ps)[j * 2]? = some (.string p.1) ∧ (parCells ps)[j * 2 + 1]? = some (.string p.2)
  | [], j, p, h => by simp at h
  | q :: r, 0, p, h => by
    simp at h
    subst h
    exact ⟨rfl, rfl⟩
  | q :: r, j + 1, p, h => by
    have h' : r[j]? = some p := by simpa using h
    have := parCells_at r j p h'
    rw [show (j + 1) * 2 = j * 2 + 1 + 1 by omega]
    simpa [parCells] using this
/-- A value of type []api.Param that owns these, among the blocks from B on. -/
def OwnP (w : World) (B : Nat) (v : Value) (ps : List Par) : Prop := w.ownsRow B 24 2 v ps.length (parCells ps)
theorem OwnP.lt {w : World} {B : Nat} {v : Value} {ps : List Par} (h : OwnP w B v ps) : ∀ k, v.ownBlock = some k → B ≤ k ∧ k < w.heap.size := World.ownsRow.lt h
theorem OwnP.grown {w w' : World} {B b : Nat} {v : Value} {ps : List Par} (h : OwnP w B v ps) (hg : w.grownBy w' (some b)) (hb : b < B) : OwnP w' B v ps := by
  refine World.ownsRow.kept h hg (.inr ?_)
  intro e
  have := (h.lt b e).1
  omega
theorem OwnP.below {w w' : World} {B : Nat} {v : Value} {ps : List Par} (h : OwnP w B v ps) (hb : Below w.heap.size w w') : OwnP w' B v ps := by
  refine World.ownsRow.kept (row := none) h ⟨hb.os, hb.tape, hb.output, hb.size, fun i hi _ => hb.block i hi⟩ ?_
  rcases v.ownBlock with _ | k
  · exact .inl rfl
  · exact .inr (by simp)
theorem ownP_nil (w : World) (B : Nat) : OwnP w B (.slice none 0 0) [] := ⟨rfl, .inl ⟨rfl, rfl⟩⟩
theorem OwnP.pars {w : World} {B : Nat} {v : Value} {ps : List Par} (h : OwnP w B v ps) : ∃ (a : Option Addr) (cap g : Nat), v = .slice a ps.length cap ∧ Pars w a ps.length g 0 ps ∧ (0 < ps.length → B ≤ g) := by
  rcases h.2 with ⟨rfl, h0⟩ | ⟨g, cap, cur, rfl, hBg, hh, _, _, _, ht⟩
  · refine ⟨none, 0, 0, by rw [h0], ⟨rfl, fun h1 => absurd h0 (by omega), fun j x hx => ?_, fun j x hx => ?_⟩, fun h1 => by omega⟩
    · have := (List.getElem?_eq_some_iff.1 hx).1; omega
    · have := (List.getElem?_eq_some_iff.1 hx).1; omega
  · refine ⟨_, cap, g, rfl, ⟨rfl, fun _ => ⟨rfl, (Array.getElem?_eq_some_iff.1 hh).1⟩, fun j x hx => ?_, fun j x hx => ?_⟩, fun _ => hBg⟩
    · have hj := World.ownsRow.cells h (g := g) rfl (j * 2) (.string x.1) (parCells_at ps j x hx).1
      rw [WideShapes.add_plain] at hj
      exact hj
    · have hj := World.ownsRow.cells h (g := g) rfl (j * 2 + 1) (.string x.2) (parCells_at ps j x hx).2
      rw [WideShapes.add_plain] at hj
      rw [Nat.add_assoc]
      exact hj
theorem wp_appp {ops : Array Oper} {rest : List Oper} {o : Oper} {a : Act} {Q : Exit → Act → World → Prop} (hgd : o.guard = none) (s x : Operand)
    (ho : o.op = .call { callee := .builtin .append, args := #[s, x], argTypes := #[22, 22] })
    (B : Nat) (wr : World) (v : Value) (ps : List Par) (n : Nat) (hs : a.eval s = v) (hown : OwnP wr B v ps) (hn : ps.length = n) (hl : n ≤ 100000) (hB : B ≤ wr.heap.size)
    (p : Par) (H : Nat) (hH : wr.heap.size = H) (hx : a.eval x = .slice (some ⟨H, 0, none⟩) 1 1)
    (h : ∀ g cap w', OwnP w' B (.slice (some ⟨g, 0, none⟩) (n + 1) cap) (ps ++ [p]) → (wr.alloc (.cells #[.string p.1, .string p.2] 24)).grownBy w' v.ownBlock → g < w'.heap.size → wpList Tryd.prog ops Q rest (a.put o.dst (.slice (some ⟨g, 0, none⟩) (n + 1) cap)) w') :
    wpList Tryd.prog ops Q (o :: rest) a (wr.alloc (.cells #[.string p.1, .string p.2] 24)) := by
  subst hn hH
  obtain ⟨i0, hi0, hz0, hz1, hz2⟩ := info_parts infoP
  refine wpList_append_lies _ hgd s x 22 ho B 24 i0 (.agg #[.string ⟨#[]⟩, .string ⟨#[]⟩]) 2 32 Tryd.underlying22 hi0 hz0 hz1 hz2 rfl (by omega) v ps.length _ hs (World.ownsRow.alloc hown _) ⟨wr.heap.size, 0, none⟩ 1 1 [.string p.1, .string p.2] hx rfl
    (World.news_of_block (cs := #[.string p.1, .string p.2]) (t := 24) (fr := (0, 0)) (heap_alloc_new wr _)) (by simp [Value.oneCell']) (by omega) (by unfold maxLen; omega) (by omega) (by simp; omega) _ rfl ?_
  intro g cap w' hown1 hgrow _ hlt
  refine h g cap w' ?_ hgrow hlt
  unfold OwnP
  rw [List.length_append, parCells_app]
  exact hown1
end Go.Proofs.YtlmfhbffknganabDoor

/- A row of parameters, cloned. -/
namespace Go.Proofs.YtlmfhbffknganabDoor
open Go.RowKit

theorem parCells_len (ps : List Par) : (parCells ps).length = ps.length * 2 := by
  induction ps with
  | nil => rfl
  | cons c r ih => simp only [parCells, List.length_cons, ih]; omega
theorem parCells_one (ps : List Par) : ∀ u ∈ parCells ps, u.oneCell' = true := by
  induction ps with
  | nil => intro u hu; cases hu
  | cons c r ih =>
    intro u hu
    simp only [parCells, List.mem_cons] at hu
    rcases hu with rfl | rfl | hu
    · rfl
    · rfl
    · exact ih u hu
theorem parCells_of : ∀ (ps : List Par) (j : Nat) (u : Value), (parCells ps)[j]? = some u → ∃ (i : Nat) (p : Par), ps[i]? = some p ∧ (j = i * 2 ∧ u = .string p.1 ∨ j = i * 2 + 1 ∧ u = .string p.2)
  | [], j, u, h => by simp [parCells] at h
  | p :: r, 0, u, h => ⟨0, p, rfl, .inl ⟨rfl, by simpa [parCells] using h.symm⟩⟩
  | p :: r, 1, u, h => ⟨0, p, rfl, .inr ⟨rfl, by simpa [parCells] using h.symm⟩⟩
  | p :: r, j + 2, u, h => by
    obtain ⟨i, d, h1, h2⟩ := parCells_of r j u (by simpa [parCells] using h)
    refine ⟨i + 1, d, by simpa using h1, ?_⟩
    rcases h2 with ⟨e, h2⟩ | ⟨e, h2⟩
    · exact .inl ⟨by omega, h2⟩
    · exact .inr ⟨by omega, h2⟩
theorem pars_cells {w : World} {a0 : Option Addr} {len b off : Nat} {ps : List Par} (h : Pars w a0 len b off ps) (j : Nat) (u : Value) (hu : (parCells ps)[j]? = some u) : w.cell? ((⟨b, off, none⟩ : Addr).add j) = some u := by
  obtain ⟨i, c, h1, h2⟩ := parCells_of ps j u hu
  rw [WideShapes.add_plain]
  rcases h2 with ⟨rfl, rfl⟩ | ⟨rfl, rfl⟩
  · exact h.one i c h1
  · rw [← Nat.add_assoc]; exact h.two i c h1
theorem wp_clonep {ops : Array Oper} {rest : List Oper} {o : Oper} {a : Act} {Q : Exit → Act → World → Prop} (hgd : o.guard = none) (s x : Operand)
    (ho : o.op = .call { callee := .builtin .append, args := #[s, x], argTypes := #[22, 22] })
    (w : World) (hs : a.eval s = .slice (some ⟨w.heap.size, 0, none⟩) 0 0) (ps : List Par) (b off len cap : Nat) (hx : a.eval x = .slice (some ⟨b, off, none⟩) len cap) (hX : Pars w (some ⟨b, off, none⟩) len b off ps) (h0 : 0 < len) (hl : len ≤ 1000)
    (h : ∀ g cap w', w'.ownsRow w.heap.size 24 2 (.slice (some ⟨g, 0, none⟩) len cap) len (parCells ps) → Below w.heap.size w w' → wpList Tryd.prog ops Q rest (a.put o.dst (.slice (some ⟨g, 0, none⟩) len cap)) w') :
    wpList Tryd.prog ops Q (o :: rest) a (w.alloc (.cells #[] 24)) := by
  have hb1 : Below w.heap.size w (w.alloc (.cells #[] 24)) := (Below.refl _ _).alloc (Nat.le_refl _) _
  obtain ⟨i0, hi0, hz0, hz1, hz2⟩ := info_parts infoP
  have hlen := hX.len_eq
  refine wpList_append_lies _ hgd s x 22 ho w.heap.size 24 i0 (.agg #[.string ⟨#[]⟩, .string ⟨#[]⟩]) 2 32 Tryd.underlying22 hi0 hz0 hz1 hz2 rfl (by omega) _ 0 [] hs ⟨rfl, .inr ⟨w.heap.size, 0, #[], rfl, Nat.le_refl _, heap_alloc_new w _, Nat.le_refl _, Nat.zero_le _, rfl, rfl⟩⟩ ⟨b, off, none⟩ len cap (parCells ps) hx (by rw [parCells_len, hlen])
    (pars_cells (hX.below hb1)) (parCells_one ps) h0 (by unfold maxLen; omega) (by omega) (by simp) _ rfl ?_
  intro g cap' w' hown1 hgrow _ hlt
  rw [Nat.zero_add, List.nil_append] at hown1
  rw [Nat.zero_add]
  exact h g cap' w' hown1 (hb1.grown hgrow hb1.size (fun i hi => by have hi' : w.heap.size = i := by simpa [Value.ownBlock] using hi
                                                                    omega))
theorem sliceNilP (p : Addr) (n c : Nat) (w : World) : (binOp .eql 22 (.slice (some p) n c) (.slice none 0 0)).run Tryd.prog w = .ok (.bool false) w := by kernel_rfl
theorem sliceNoneP (n c : Nat) (w : World) : (binOp .eql 22 (.slice none n c) (.slice none 0 0)).run Tryd.prog w = .ok (.bool true) w := by kernel_rfl
set_option maxRecDepth 100000 in
set_option maxHeartbeats 2000000 in
theorem cloneP_any (ps : List Par) (a0 : Option Addr) (len cap b off : Nat) (hlen : len ≤ 1000) (w : World) (hx : Pars w a0 len b off ps) (h0 : 0 < len) :
    Calls Tryd.prog 8 #[.slice a0 len cap] w fun e w' => (∃ g cap', e = .returned (.slice (some ⟨g, 0, none⟩) len cap') ∧ w'.ownsRow w.heap.size 24 2 (.slice (some ⟨g, 0, none⟩) len cap') len (parCells ps)) ∧ Below w.heap.size w w' := by
  obtain ⟨ha0, hbl⟩ := hx.lies h0
  subst ha0
  have HX : Hid (Pars w (some ⟨b, off, none⟩) len b off ps) := hx
  clear hx
  have hnil := sliceNilP
  go_enter Tryd.func8, Tryd.ntmps8
  go_wp2_with (at_builtin; refine wp_clonep rfl _ _ rfl w rfl ps b off len cap rfl HX.out h0 hlen ?_; intro g cap' w' hown hb)
  go_ret
  exact ⟨⟨_, _, rfl, hown⟩, hb⟩
end Go.Proofs.YtlmfhbffknganabDoor

/- A row of parameters in a block of its own, that may be written; a row cloned. -/
namespace Go.Proofs.YtlmfhbffknganabDoor
open Go.RowKit

def RowsP (cur : Array Value) (ps : List Par) : Prop := ∀ (k : Nat) (p : Par), ps[k]? = some p → cur[k * 2]? = some (.string p.1) ∧ cur[k * 2 + 1]? = some (.string p.2)
/-- A row of parameters in a block of its own, that may be written. -/
def RowPW (w : World) (g : Nat) (ps : List Par) : Prop := ∃ cur, w.heap[g]? = some (.cells cur 24 (0, 0)) ∧ RowsP cur ps
theorem RowPW.cells {w : World} {g : Nat} {ps : List Par} (h : RowPW w g ps) (k : Nat) (p : Par) (hk : ps[k]? = some p) : w.cell? ⟨g, k * 2, none⟩ = some (.string p.1) ∧ w.cell? ⟨g, k * 2 + 1, none⟩ = some (.string p.2) := by
  obtain ⟨cur, h1, h2⟩ := h
  obtain ⟨r1, r2⟩ := h2 k p hk
  exact ⟨by simp [World.cell?, h1, r1], by simp [World.cell?, h1, r2]⟩
theorem RowPW.free {w : World} {g : Nat} {ps : List Par} (h : RowPW w g ps) (j : Nat) : w.frozen? ⟨g, j, none⟩ = false := by
  obtain ⟨cur, h1, _⟩ := h
  simp [World.frozen?, h1]
theorem RowPW.lt {w : World} {g : Nat} {ps : List Par} (h : RowPW w g ps) : g < w.heap.size := by
  obtain ⟨cur, h1, _⟩ := h
  exact (Array.getElem?_eq_some_iff.1 h1).1
theorem RowPW.below {w w' : World} {g : Nat} {ps : List Par} (h : RowPW w g ps) (hb : Below w.heap.size w w') : RowPW w' g ps := by
  obtain ⟨cur, h1, h2⟩ := h
  exact ⟨cur, (hb.block g (Array.getElem?_eq_some_iff.1 h1).1).trans h1, h2⟩
theorem RowPW.name {w : World} {g : Nat} {ps : List Par} (h : RowPW w g ps) (i : Nat) (p : Par) (hi : ps[i]? = some p) (n : ByteArray) : RowPW (w.setCell ⟨g, i * 2, none⟩ (.string n)) g (ps.set i (n, p.2)) := by
  obtain ⟨cur, h1, h2⟩ := h
  refine ⟨cur.setIfInBounds (i * 2) (.string n), by simp [World.setCell, Array.getElem?_modify, h1], fun k q hq => ?_⟩
  have hs := (Array.getElem?_eq_some_iff.1 (h2 i p hi).1).1
  rw [List.getElem?_set] at hq
  by_cases e : i = k
  · subst e
    rw [if_pos rfl, if_pos (List.getElem?_eq_some_iff.1 hi).1] at hq
    cases hq
    refine ⟨by rw [Array.getElem?_setIfInBounds, if_pos rfl, if_pos hs], ?_⟩
    rw [Array.getElem?_setIfInBounds, if_neg (by omega)]
    exact (h2 i p hi).2
  · rw [if_neg e] at hq
    rw [Array.getElem?_setIfInBounds, if_neg (by omega), Array.getElem?_setIfInBounds, if_neg (by omega)]
    exact h2 k q hq
theorem rowPW_of {w : World} {B g n cap : Nat} {ps : List Par} (hl : ps.length = n) (h : w.ownsRow B 24 2 (.slice (some ⟨g, 0, none⟩) n cap) n (parCells ps)) : RowPW w g ps ∧ B ≤ g := by
  rcases h.2 with ⟨e, _⟩ | ⟨g', cap', cur, e, hB, hh, _, _, _, ht⟩
  · cases e
  · injection e with e1 e2 e3
    injection e1 with e1
    injection e1 with e1
    subst e1
    refine ⟨⟨cur, hh, fun k c hk => ?_⟩, hB⟩
    obtain ⟨h1, h2⟩ := parCells_at ps k c hk
    have hkl : k < n := by rw [← hl]; exact (List.getElem?_eq_some_iff.1 hk).1
    have tk : ∀ j v, j < n * 2 → (parCells ps)[j]? = some v → cur[j]? = some v := fun j v hj hv => by
      rw [← ht, List.getElem?_take, if_pos hj] at hv
      simpa using hv
    exact ⟨tk _ _ (by omega) h1, tk _ _ (by omega) h2⟩
theorem RowPW.pars {w : World} {g n : Nat} {ps : List Par} (h : RowPW w g ps) (hn : ps.length = n) : Pars w (some ⟨g, 0, none⟩) n g 0 ps :=
  ⟨hn, fun _ => ⟨rfl, h.lt⟩, fun j p hp => by rw [Nat.zero_add]; exact (h.cells j p hp).1, fun j p hp => by rw [Nat.zero_add]; exact (h.cells j p hp).2⟩
theorem cloneP_none (a : Option Addr) (cap : Nat) (w : World) : Calls Tryd.prog 8 #[.slice a 0 cap] w fun e w' => (∃ a' cap', e = .returned (.slice a' 0 cap')) ∧ Below w.heap.size w w' := by
  have h1 := sliceNilP
  have h2 := sliceNoneP
  cases a with
  | none =>
    go_enter Tryd.func8, Tryd.ntmps8
    go_wp2
    go_ret
    exact ⟨⟨_, _, rfl⟩, Below.refl _ _⟩
  | some p =>
    go_enter Tryd.func8, Tryd.ntmps8
    go_wp2
    go_ret
    exact ⟨⟨_, _, rfl⟩, (Below.refl _ _).alloc (Nat.le_refl _) _⟩
/-- The row of names in small letters, where it lies. -/
def CloAns (w : World) (ps : List Par) (n : Nat) (v : Value) (B : Nat) : Prop := ∃ a cap, v = .slice a n cap ∧ (n = 0 ∨ ∃ g, a = some ⟨g, 0, none⟩ ∧ RowPW w g ps ∧ B ≤ g)
theorem cloneP_all (ps : List Par) (a0 : Option Addr) (len cap b off : Nat) (hlen : len ≤ 1000) (w : World) (hx : Pars w a0 len b off ps) :
    Calls Tryd.prog 8 #[.slice a0 len cap] w fun e w' => (∃ v, e = .returned v ∧ CloAns w' ps len v w.heap.size) ∧ Below w.heap.size w w' := by
  rcases Nat.eq_zero_or_pos len with h0 | h0
  · subst h0
    refine (cloneP_none a0 cap w).mono ?_
    rintro e w' ⟨⟨a', cap', rfl⟩, hb⟩
    exact ⟨⟨_, rfl, a', cap', rfl, .inl rfl⟩, hb⟩
  · refine (cloneP_any ps a0 len cap b off hlen w hx h0).mono ?_
    rintro e w' ⟨⟨g, cap', rfl, hown⟩, hb⟩
    obtain ⟨h1, h2⟩ := rowPW_of hx.len_eq hown
    exact ⟨⟨_, rfl, _, cap', rfl, .inr ⟨g, rfl, h1, h2⟩⟩, hb⟩
end Go.Proofs.YtlmfhbffknganabDoor

/- One header more: no fewer must be asked for; rows of parameters cloned, and one more. -/
namespace Go.Proofs.YtlmfhbffknganabDoor
open Go.RowKit

theorem kept_mem (ss : List (List UInt8)) : ∀ (m j : Nat) (x : List UInt8), j < m → m ≤ ss.length → ss[j]? = some x → x ∈ Lib.compactUpTo ss.toArray m
  | 0, j, x, h, _, _ => absurd h (by omega)
  | m + 1, j, x, hj, hm, hx => by
    rw [Lib.compactUpTo_succ, List.mem_append]
    by_cases hjm : j < m
    · exact .inl (kept_mem ss m j x hjm (by omega) hx)
    · obtain rfl : j = m := by omega
      obtain ⟨h1, e1⟩ := List.getElem?_eq_some_iff.1 hx
      have em : ss.toArray[j]! = x := by simp [getElem!_pos, h1, e1]
      by_cases hk : Lib.keeps ss.toArray j = true
      · exact .inr (by rw [if_pos hk, em]; simp)
      · have hj0 : j ≠ 0 := fun e => hk (by unfold Lib.keeps; simp [e])
        have he : ss.toArray[j]! = ss.toArray[j - 1]! := by
          rcases Decidable.em (ss.toArray[j]! = ss.toArray[j - 1]!) with e | e
          · exact e
          · exact absurd (by unfold Lib.keeps; exact decide_eq_true (.inr e)) hk
        have hy : ss[j - 1]? = some x := by
          rw [List.getElem?_eq_getElem (show j - 1 < ss.length by omega)]
          congr 1
          rw [← em, he]
          simp [getElem!_pos, show j - 1 < ss.length by omega]
        exact .inl (kept_mem ss j (j - 1) x (by omega) (by omega) hy)
theorem askedL_mem (ps : List Par) (x : ByteArray) : x ∈ askedL ps ↔ x ∈ askedNames ps := by
  constructor
  · intro h
    rw [askedL_is] at h
    obtain ⟨l, hl, rfl⟩ := List.mem_map.1 h
    have h2 := (sortL_perm _).mem_iff.1 (compact_mem _ l hl)
    unfold tx at h2
    obtain ⟨b, hb, rfl⟩ := List.mem_map.1 h2
    rw [bs_self]
    exact hb
  · intro h
    have h1 : x.data.toList ∈ sortL (tx (askedNames ps)) := (sortL_perm _).mem_iff.2 (List.mem_map.2 ⟨x, h, rfl⟩)
    obtain ⟨j, hj⟩ := List.mem_iff_getElem?.1 h1
    have h2 := kept_mem _ _ j _ (List.getElem?_eq_some_iff.1 hj).1 (Nat.le_refl _) hj
    rw [askedL_is]
    exact List.mem_map.2 ⟨_, h2, bs_self x⟩
theorem notPlain_app (ps : List Par) (p : Par) : notPlain (ps ++ [p]) = notPlain ps ++ notPlain [p] := by unfold notPlain; rw [List.filter_append, List.map_append]
theorem arePlain_app (ps : List Par) (p : Par) : arePlain (ps ++ [p]) = arePlain ps ++ arePlain [p] := by unfold arePlain; rw [List.filter_append, List.map_append]
theorem together_app (ps : List Par) (p : Par) : together ps ≤ together (ps ++ [p]) := by
  unfold together
  rw [List.filter_append, List.map_append, List.sum_append]
  omega
theorem asked_more (ps : List Par) (p : Par) (x : ByteArray) (h : x ∈ askedL ps) : x ∈ askedL (ps ++ [p]) := by
  rw [askedL_mem] at h ⊢
  have ht := together_app ps p
  unfold askedNames at h ⊢
  rw [notPlain_app, arePlain_app]
  split at h
  · rw [if_pos (by omega)]
    rcases List.mem_append.1 h with h | h
    · simp [h]
    · simp [h]
  · split
    · simp [h]
    · simp [h]
theorem asked_self (ps : List Par) (p : Par) (hp : plain8 p = false) : lowN p ∈ askedL (ps ++ [p]) := by
  rw [askedL_mem]
  have h : lowN p ∈ notPlain (ps ++ [p]) := by
    rw [notPlain_app]
    refine List.mem_append.2 (.inr ?_)
    unfold notPlain
    rw [List.filter_cons_of_pos (by simp [hp])]
    simp
  unfold askedNames
  split
  · exact List.mem_append.2 (.inl h)
  · exact h
theorem wp_appq {o : Oper} {a : Act} {K : Act → World → Prop} {Q : Exit → Act → World → Prop} (s x : Operand)
    (ho : o.op = .call { callee := .builtin .append, args := #[s, x], argTypes := #[22, 22] })
    (B : Nat) (W : World) (v : Value) (ps : List Par) (hs : a.eval s = v) (hown : OwnP W B v ps) (hl : ps.length ≤ 100000) (hB : B ≤ W.heap.size)
    (p : Par) (bx : Nat) (hx : a.eval x = .slice (some ⟨bx, 0, none⟩) 1 1) (c0 : W.cell? ⟨bx, 0, none⟩ = some (.string p.1)) (c1 : W.cell? ⟨bx, 1, none⟩ = some (.string p.2))
    (h : ∀ g cap w', OwnP w' B (.slice (some ⟨g, 0, none⟩) (ps.length + 1) cap) (ps ++ [p]) → Below B W w' → K (a.put o.dst (.slice (some ⟨g, 0, none⟩) (ps.length + 1) cap)) w') :
    Oper.wp Tryd.prog o a W K Q := by
  obtain ⟨i0, hi0, hz0, hz1, hz2⟩ := info_parts infoP
  refine wp_append_lies W s x 22 ho B 24 i0 (.agg #[.string ⟨#[]⟩, .string ⟨#[]⟩]) 2 32 Tryd.underlying22 hi0 hz0 hz1 hz2 rfl (by omega) v ps.length _ hs hown ⟨bx, 0, none⟩ 1 1 [.string p.1, .string p.2] hx rfl
    (fun j u hj => ?_) (by simp [Value.oneCell']) (by omega) (by unfold maxLen; omega) (by omega) hB _ rfl ?_
  · rw [WideShapes.add_plain]
    match j, hj with
    | 0, hj => cases hj; exact c0
    | 1, hj => cases hj; exact c1
    | j + 2, hj => simp at hj
  · intro g cap w' hown1 hgrow _ hlt
    refine h g cap w' ?_ ((Below.refl B W).grown hgrow hB (fun k hk => (hown.lt k hk).1))
    unfold OwnP
    rw [List.length_append, parCells_app]
    exact hown1
theorem cloneP_own (ps : List Par) (a0 : Option Addr) (len cap b off : Nat) (hlen : len ≤ 1000) (w : World) (hx : Pars w a0 len b off ps) :
    Calls Tryd.prog 8 #[.slice a0 len cap] w fun e w' => (∃ v, e = .returned v ∧ OwnP w' w.heap.size v ps) ∧ Below w.heap.size w w' := by
  rcases Nat.eq_zero_or_pos len with h0 | h0
  · subst h0
    obtain rfl : ps = [] := List.eq_nil_of_length_eq_zero hx.len_eq
    have h1 := sliceNilP
    have h2 := sliceNoneP
    clear hx
    cases a0 with
    | none =>
      go_enter Tryd.func8, Tryd.ntmps8
      go_wp2
      go_ret
      exact ⟨⟨_, rfl, ownP_nil _ _⟩, Below.refl _ _⟩
    | some p =>
      go_enter Tryd.func8, Tryd.ntmps8
      go_wp2
      go_ret
      exact ⟨⟨_, rfl, ⟨rfl, .inr ⟨w.heap.size, 0, #[], rfl, Nat.le_refl _, heap_alloc_new w _, Nat.le_refl _, Nat.zero_le _, rfl, rfl⟩⟩⟩, (Below.refl _ _).alloc (Nat.le_refl _) _⟩
  · have hl := hx.len_eq
    refine (cloneP_any ps a0 len cap b off hlen w hx h0).mono ?_
    rintro e w' ⟨⟨g, cap', rfl, hown⟩, hb⟩
    refine ⟨⟨_, rfl, ?_⟩, hb⟩
    unfold OwnP
    rw [hl]
    exact hown
end Go.Proofs.YtlmfhbffknganabDoor

/- A parameter in a block of its own, that stays. -/
namespace Go.Proofs.YtlmfhbffknganabDoor
open Go.RowKit

structure KeepW (w W : World) : Prop where
  bel : Below w.heap.size w W
  siz : w.heap.size < W.heap.size
abbrev BoxP (w : World) (x y : ByteArray) (W : World) : Prop :=
  W.cell? ⟨w.heap.size, 0, none⟩ = some (.string x) ∧ W.cell? ⟨w.heap.size, 1, none⟩ = some (.string y) ∧ KeepW w W
theorem BoxP.step {w W W' : World} {x y : ByteArray} (h : BoxP w x y W) (hb : Below W.heap.size W W') : BoxP w x y W' := by
  obtain ⟨h0, h1, h4, h5⟩ := h
  have hz := hb.size
  exact ⟨(hb.cell (p := ⟨w.heap.size, 0, none⟩) h5).trans h0, (hb.cell (p := ⟨w.heap.size, 1, none⟩) h5).trans h1, h4.trans (hb.mono h4.size), by omega⟩
theorem boxP_new (w : World) (x y : ByteArray) : BoxP w x y (w.alloc (.cells #[.string x, .string y] 24)) :=
  ⟨cells_new _ _ _ 0, cells_new _ _ _ 1, (Below.refl _ _).alloc (Nat.le_refl _) _, by simp⟩
end Go.Proofs.YtlmfhbffknganabDoor

/- The library's contracts that are leant on, laid at this program's numbers. -/
namespace Go.Proofs.YtlmfhbffknganabDoor
open Go.Shelf Go.RowKit
def lays109_ren : Go.Shelf.Ren := ⟨fun | 109 => 23 | n => n, fun | 31 => 27 | 9 => 9 | 3 => 3 | 0 => 0 | 4 => 4 | n => n, fun | n => n⟩
theorem lays109 : Go.Proofs.Lays.n109 Tryd.prog lays109_ren := {
  mixed := by kernel_rfl
  f109 := Tryd.func23.trans (congrArg some (by kernel_rfl))
  t0 := Tryd.underlying0
  a0 := Tryd.isAgg0
  z0 := Tryd.sizeOf0
  v0 := Tryd.zeroValue0
  t3 := Tryd.underlying3
  a3 := Tryd.isAgg3
  z3 := Tryd.sizeOf3
  v3 := Tryd.zeroValue3
  t4 := Tryd.underlying4
  a4 := Tryd.isAgg4
  z4 := Tryd.sizeOf4
  v4 := Tryd.zeroValue4
  t9 := Tryd.underlying9
  a9 := Tryd.isAgg9
  z9 := Tryd.sizeOf9
  v9 := Tryd.zeroValue9
  t31 := Tryd.underlying27
  a31 := Tryd.isAgg27
  z31 := Tryd.sizeOf27
  v31 := Tryd.zeroValue27 }
def lays110_ren : Go.Shelf.Ren := ⟨fun | 110 => 9 | 109 => 23 | n => n, fun | 31 => 27 | 9 => 9 | 4 => 4 | 3 => 3 | 0 => 0 | n => n, fun | n => n⟩
theorem lays110 : Go.Proofs.Lays.n110 Tryd.prog lays110_ren := {
  mixed := by kernel_rfl
  f109 := Tryd.func23.trans (congrArg some (by kernel_rfl))
  f110 := Tryd.func9.trans (congrArg some (by kernel_rfl))
  t0 := Tryd.underlying0
  a0 := Tryd.isAgg0
  z0 := Tryd.sizeOf0
  v0 := Tryd.zeroValue0
  t3 := Tryd.underlying3
  a3 := Tryd.isAgg3
  z3 := Tryd.sizeOf3
  v3 := Tryd.zeroValue3
  t4 := Tryd.underlying4
  a4 := Tryd.isAgg4
  z4 := Tryd.sizeOf4
  v4 := Tryd.zeroValue4
  t9 := Tryd.underlying9
  a9 := Tryd.isAgg9
  z9 := Tryd.sizeOf9
  v9 := Tryd.zeroValue9
  t31 := Tryd.underlying27
  a31 := Tryd.isAgg27
  z31 := Tryd.sizeOf27
  v31 := Tryd.zeroValue27 }
end Go.Proofs.YtlmfhbffknganabDoor

/- A region driven by hand: an operation taken first. -/
namespace Go.Proofs.YtlmfhbffknganabDoor
open Go.RowKit

section
variable {P : Program} {ops : Array Oper} {Q : Exit → Act → World → Prop} {md : Region.Mode} {S : World → Prop}
theorem takeH {i : Nat} {oi : Oper} {d : Option Tmp} {v : Value} {fuel : Nat} {listed : Array Bool} {a : Act} {w : World} (hi : ops[i]? = some oi) (hd : oi.dst = d)
    (hs : Region.noSelect ops = true) (hf : Region.free md ops listed i = true) (hr : (Region.ready md ops listed).contains i = true)
    (hQ : ∀ c a w, Q (.panic c) (a.put oi.dst v) w → Q (.panic c) a w) (hw : Region.wanted oi (yielded ops a.tmps) = true) (hy : ∀ w, S w → (execOp a.eval oi).run P w = .ok (.value v) w) (hS : S w)
    (h : wpAnyH P md ops Q S fuel (listed.setIfInBounds i true) (a.put d v) w) : wpAnyH P md ops Q S (fuel + 1) listed a w := by
  subst hd
  exact wpAnyH_take hi hs hf hr hQ (Or.inl ⟨hw, hy⟩) hS h
theorem skipH {i : Nat} {oi : Oper} {d : Option Tmp} {fuel : Nat} {listed : Array Bool} {a : Act} {w : World} (hi : ops[i]? = some oi) (hd : oi.dst = d)
    (hs : Region.noSelect ops = true) (hf : Region.free md ops listed i = true) (hr : (Region.ready md ops listed).contains i = true)
    (hQ : ∀ c a w, Q (.panic c) (a.put oi.dst undef) w → Q (.panic c) a w) (hw : Region.wanted oi (yielded ops a.tmps) = false) (hS : S w)
    (h : wpAnyH P md ops Q S fuel (listed.setIfInBounds i true) (a.put d undef) w) : wpAnyH P md ops Q S (fuel + 1) listed a w := by
  subst hd
  exact wpAnyH_take hi hs hf hr hQ (Or.inr ⟨hw, rfl⟩) hS h
end
end Go.Proofs.YtlmfhbffknganabDoor
