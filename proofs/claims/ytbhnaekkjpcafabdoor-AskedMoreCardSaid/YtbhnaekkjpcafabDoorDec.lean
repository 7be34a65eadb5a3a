/- Letters read one by one, six bits each: the plain arithmetic of what Base64 wrote being read again, and of nothing else being read. -/
import Derived.Test.YtbhnaekkjpcafabDoorB64
import Derived.Test.YtbhnaekkjpcafabDoorIb
namespace Go.Proofs.YtbhnaekkjpcafabDoor
open Go.RowKit

def ixL (c : UInt8) : Int := ixOf lets c
theorem ixL_cases (c : UInt8) : (ixL c = -1 ∧ c ∉ lets) ∨ ∃ n : Nat, n < 64 ∧ ixL c = n ∧ let64 n = c := ixOf_cases lets c
theorem let_mem (n : Nat) (h : n < 64) : let64 n ∈ lets := by
  have : ∀ p : Fin 64, let64 p ∈ lets := by decide
  exact this ⟨n, h⟩
theorem let_inj (a b : Nat) (ha : a < 64) (hb : b < 64) (h : let64 a = let64 b) : a = b := by
  have : ∀ p q : Fin 64, let64 p = let64 q → p = q := by decide +kernel
  have := this ⟨a, ha⟩ ⟨b, hb⟩ h
  injection this
theorem ixL_let (n : Nat) (h : n < 64) : ixL (let64 n) = n := by
  rcases ixL_cases (let64 n) with ⟨_, h2⟩ | ⟨m, h1, h2, h3⟩
  · exact absurd (let_mem n h) h2
  · rw [h2, let_inj m n h1 h h3]
theorem no61 : (61 : UInt8) ∉ lets := by decide

/-- One letter more: the bytes so far, how many bits are held, and which. -/
def stp (st : List UInt8 × Nat × Nat) (x : Nat) : List UInt8 × Nat × Nat :=
  if 2 ≤ st.2.1 then (st.1 ++ [UInt8.ofNat ((st.2.2 * 64 + x) / 2 ^ (st.2.1 - 2))], st.2.1 - 2, (st.2.2 * 64 + x) % 2 ^ (st.2.1 - 2)) else (st.1, st.2.1 + 6, st.2.2 * 64 + x)
def decA (st : List UInt8 × Nat × Nat) (l : List UInt8) : List UInt8 × Nat × Nat := l.foldl (fun st c => stp st (ixL c).toNat) st
theorem decA_snoc (st : List UInt8 × Nat × Nat) (l : List UInt8) (c : UInt8) : decA st (l ++ [c]) = stp (decA st l) (ixL c).toNat := by simp [decA]
theorem decA_let (st : List UInt8 × Nat × Nat) (n : Nat) (h : n < 64) (r : List UInt8) : decA st (let64 n :: r) = decA (stp st n) r := by
  show decA (stp st (ixL (let64 n)).toNat) r = _
  rw [ixL_let n h]
  simp

theorem stp0 (a : List UInt8) (x : Nat) : stp (a, 0, 0) x = (a, 6, x) := by simp [stp]
theorem stp6 (a : List UInt8) (b x : Nat) : stp (a, 6, b) x = (a ++ [UInt8.ofNat ((b * 64 + x) / 16)], 4, (b * 64 + x) % 16) := by simp [stp]
theorem stp4 (a : List UInt8) (b x : Nat) : stp (a, 4, b) x = (a ++ [UInt8.ofNat ((b * 64 + x) / 4)], 2, (b * 64 + x) % 4) := by simp [stp]
theorem stp2 (a : List UInt8) (b x : Nat) : stp (a, 2, b) x = (a ++ [UInt8.ofNat (b * 64 + x)], 0, 0) := by simp [stp]; omega

theorem quad (a r : List UInt8) (x0 x1 x2 x3 : Nat) (h0 : x0 < 64) (h1 : x1 < 64) (h2 : x2 < 64) (h3 : x3 < 64) :
    decA (a, 0, 0) (let64 x0 :: let64 x1 :: let64 x2 :: let64 x3 :: r) = decA (a ++ [UInt8.ofNat ((x0 * 64 + x1) / 16), UInt8.ofNat (((x0 * 64 + x1) % 16 * 64 + x2) / 4), UInt8.ofNat (((x0 * 64 + x1) % 16 * 64 + x2) % 4 * 64 + x3)], 0, 0) r := by
  rw [decA_let _ x0 h0, stp0, decA_let _ x1 h1, stp6, decA_let _ x2 h2, stp4, decA_let _ x3 h3, stp2]
  simp
theorem three (a r : List UInt8) (x0 x1 x2 : Nat) (h0 : x0 < 64) (h1 : x1 < 64) (h2 : x2 < 64) :
    decA (a, 0, 0) (let64 x0 :: let64 x1 :: let64 x2 :: r) = decA (a ++ [UInt8.ofNat ((x0 * 64 + x1) / 16), UInt8.ofNat (((x0 * 64 + x1) % 16 * 64 + x2) / 4)], 2, ((x0 * 64 + x1) % 16 * 64 + x2) % 4) r := by
  rw [decA_let _ x0 h0, stp0, decA_let _ x1 h1, stp6, decA_let _ x2 h2, stp4]
  simp
theorem two (a r : List UInt8) (x0 x1 : Nat) (h0 : x0 < 64) (h1 : x1 < 64) :
    decA (a, 0, 0) (let64 x0 :: let64 x1 :: r) = decA (a ++ [UInt8.ofNat ((x0 * 64 + x1) / 16)], 4, (x0 * 64 + x1) % 16) r := by
  rw [decA_let _ x0 h0, stp0, decA_let _ x1 h1, stp6]

theorem toNat_of (n : Nat) (h : n < 256) : (UInt8.ofNat n).toNat = n := by simp only [UInt8.toNat_ofNat']; omega
theorem of_toNat (n : Nat) (c : UInt8) (h : n = c.toNat) : UInt8.ofNat n = c := by subst h; simp
theorem val3 (a b c : UInt8) : val 3 [a, b, c] = a.toNat * 65536 + b.toNat * 256 + c.toNat := by simp [val]; omega
theorem val2 (a b : UInt8) : val 3 [a, b] = a.toNat * 65536 + b.toNat * 256 := by simp [val]; omega
theorem val1 (a : UInt8) : val 3 [a] = a.toNat * 65536 := by simp [val]; omega

/-- What was written is read. -/
def core : List UInt8 → List UInt8
  | [] => []
  | [a] => (grp [a]).take 2
  | [a, b] => (grp [a, b]).take 3
  | a :: b :: c :: r => grp [a, b, c] ++ core r
def pad : List UInt8 → List UInt8
  | [] => []
  | [_] => [61, 61]
  | [_, _] => [61]
  | _ :: _ :: _ :: r => pad r
theorem enc_core : ∀ l, enc l = core l ++ pad l
  | [] => rfl
  | [a] => by simp [enc, core, pad, grp]
  | [a, b] => by simp [enc, core, pad, grp]
  | a :: b :: c :: r => by simp only [enc, core, pad, enc_core r, List.append_assoc]
theorem pad_cases : ∀ l, pad l = [] ∨ pad l = [61] ∨ pad l = [61, 61]
  | [] => .inl rfl
  | [_] => .inr (.inr rfl)
  | [_, _] => .inr (.inl rfl)
  | _ :: _ :: _ :: r => pad_cases r
theorem core_mem : ∀ l, ∀ c ∈ core l, c ∈ lets
  | [], c, h => by cases h
  | [a], c, h => by
    simp [core, grp] at h
    rcases h with rfl | rfl <;> exact let_mem _ (Nat.mod_lt _ (by decide))
  | [a, b], c, h => by
    simp [core, grp] at h
    rcases h with rfl | rfl | rfl <;> exact let_mem _ (Nat.mod_lt _ (by decide))
  | a :: b :: d :: r, c, h => by
    simp only [core, List.mem_append] at h
    rcases h with h | h
    · simp [grp] at h
      rcases h with rfl | rfl | rfl | rfl <;> exact let_mem _ (Nat.mod_lt _ (by decide))
    · exact core_mem r c h
theorem dec_core : ∀ (l a : List UInt8), ∃ h, decA (a, 0, 0) (core l) = (a ++ l, h, 0)
  | [], a => ⟨0, by simp [core, decA]⟩
  | [x], a => by
    have hx := x.toNat_lt
    refine ⟨4, ?_⟩
    simp only [core, grp, List.take_succ_cons, List.take_zero, val1]
    rw [two _ _ _ _ (by omega) (by omega)]
    rw [of_toNat _ x (by omega), show (x.toNat * 65536 / 262144 % 64 * 64 + x.toNat * 65536 / 4096 % 64) % 16 = 0 by omega]
    rfl
  | [x, y], a => by
    have hx := x.toNat_lt
    have hy := y.toNat_lt
    refine ⟨2, ?_⟩
    simp only [core, grp, List.take_succ_cons, List.take_zero, val2, List.length_cons, List.length_nil]
    rw [if_pos (by omega), three _ _ _ _ _ (by omega) (by omega) (by omega)]
    rw [of_toNat _ x (by omega), of_toNat _ y (by omega)]
    have e : (((x.toNat * 65536 + y.toNat * 256) / 262144 % 64 * 64 + (x.toNat * 65536 + y.toNat * 256) / 4096 % 64) % 16 * 64 + (x.toNat * 65536 + y.toNat * 256) / 64 % 64) % 4 = 0 := by omega
    rw [e]
    rfl
  | x :: y :: z :: r, a => by
    have hx := x.toNat_lt
    have hy := y.toNat_lt
    have hz := z.toNat_lt
    obtain ⟨h, ih⟩ := dec_core r (a ++ [x, y, z])
    refine ⟨h, ?_⟩
    simp only [core, grp, val3, List.length_cons, List.length_nil]
    rw [if_pos (by omega), if_pos (by omega)]
    simp only [List.cons_append, List.nil_append]
    rw [quad _ _ _ _ _ _ (by omega) (by omega) (by omega) (by omega)]
    rw [of_toNat _ x (by omega), of_toNat _ y (by omega), of_toNat _ z (by omega), ih]
    simp

/-- What is read was written so. -/
theorem let_of (c : UInt8) (h : c ∈ lets) : ∃ n : Nat, n < 64 ∧ c = let64 n := by
  rcases ixL_cases c with ⟨_, h2⟩ | ⟨n, h1, _, h3⟩
  · exact absurd h h2
  · exact ⟨n, h1, h3.symm⟩
def padN (n : Nat) : List UInt8 := if n = 2 then [61, 61] else if n = 3 then [61] else []
theorem dec_enc : ∀ (l a : List UInt8), (∀ c ∈ l, c ∈ lets) → l.length % 4 ≠ 1 →
    ∃ o h b, decA (a, 0, 0) l = (a ++ o, h, b) ∧ (b = 0 → enc o = l ++ padN (l.length % 4))
  | [], a, _, _ => ⟨[], 0, 0, by simp [decA], fun _ => rfl⟩
  | [c], _, _, h => by simp at h
  | [c0, c1], a, hm, _ => by
    obtain ⟨x0, h0, rfl⟩ := let_of c0 (hm _ (by simp))
    obtain ⟨x1, h1, rfl⟩ := let_of c1 (hm _ (by simp))
    refine ⟨_, _, _, two _ _ _ _ h0 h1, fun hb => ?_⟩
    simp only [enc, grp, val1, List.length_cons, List.length_nil]
    rw [toNat_of _ (by omega)]
    have e1 : (x0 * 64 + x1) / 16 * 65536 / 262144 % 64 = x0 := by omega
    have e2 : (x0 * 64 + x1) / 16 * 65536 / 4096 % 64 = x1 := by omega
    rw [e1, e2]
    rfl
  | [c0, c1, c2], a, hm, _ => by
    obtain ⟨x0, h0, rfl⟩ := let_of c0 (hm _ (by simp))
    obtain ⟨x1, h1, rfl⟩ := let_of c1 (hm _ (by simp))
    obtain ⟨x2, h2, rfl⟩ := let_of c2 (hm _ (by simp))
    refine ⟨_, _, _, three _ _ _ _ _ h0 h1 h2, fun hb => ?_⟩
    simp only [enc, grp, val2, List.length_cons, List.length_nil]
    rw [toNat_of _ (by omega), toNat_of _ (by omega)]
    have e1 : ((x0 * 64 + x1) / 16 * 65536 + ((x0 * 64 + x1) % 16 * 64 + x2) / 4 * 256) / 262144 % 64 = x0 := by omega
    have e2 : ((x0 * 64 + x1) / 16 * 65536 + ((x0 * 64 + x1) % 16 * 64 + x2) / 4 * 256) / 4096 % 64 = x1 := by omega
    have e3 : ((x0 * 64 + x1) / 16 * 65536 + ((x0 * 64 + x1) % 16 * 64 + x2) / 4 * 256) / 64 % 64 = x2 := by omega
    rw [e1, e2, e3]
    rfl
  | c0 :: c1 :: c2 :: c3 :: r, a, hm, hl => by
    obtain ⟨x0, h0, rfl⟩ := let_of c0 (hm _ (by simp))
    obtain ⟨x1, h1, rfl⟩ := let_of c1 (hm _ (by simp))
    obtain ⟨x2, h2, rfl⟩ := let_of c2 (hm _ (by simp))
    obtain ⟨x3, h3, rfl⟩ := let_of c3 (hm _ (by simp))
    rw [quad _ _ _ _ _ _ h0 h1 h2 h3]
    have hr : ∀ c ∈ r, c ∈ lets := fun c hc => hm c (by simp [hc])
    obtain ⟨o, h, b, e, he⟩ := dec_enc r (a ++ [UInt8.ofNat ((x0 * 64 + x1) / 16), UInt8.ofNat (((x0 * 64 + x1) % 16 * 64 + x2) / 4), UInt8.ofNat (((x0 * 64 + x1) % 16 * 64 + x2) % 4 * 64 + x3)]) hr (by simp at hl; omega)
    refine ⟨[UInt8.ofNat ((x0 * 64 + x1) / 16), UInt8.ofNat (((x0 * 64 + x1) % 16 * 64 + x2) / 4), UInt8.ofNat (((x0 * 64 + x1) % 16 * 64 + x2) % 4 * 64 + x3)] ++ o, h, b, by rw [e, List.append_assoc], fun hb => ?_⟩
    simp only [List.cons_append, List.nil_append, enc, grp, val3, List.length_cons, List.length_nil]
    rw [toNat_of _ (by omega), toNat_of _ (by omega), toNat_of _ (by omega), if_pos (by omega), if_pos (by omega), he hb]
    have e1 : ((x0 * 64 + x1) / 16 * 65536 + ((x0 * 64 + x1) % 16 * 64 + x2) / 4 * 256 + (((x0 * 64 + x1) % 16 * 64 + x2) % 4 * 64 + x3)) / 262144 % 64 = x0 := by omega
    have e2 : ((x0 * 64 + x1) / 16 * 65536 + ((x0 * 64 + x1) % 16 * 64 + x2) / 4 * 256 + (((x0 * 64 + x1) % 16 * 64 + x2) % 4 * 64 + x3)) / 4096 % 64 = x1 := by omega
    have e3 : ((x0 * 64 + x1) / 16 * 65536 + ((x0 * 64 + x1) % 16 * 64 + x2) / 4 * 256 + (((x0 * 64 + x1) % 16 * 64 + x2) % 4 * 64 + x3)) / 64 % 64 = x2 := by omega
    have e4 : ((x0 * 64 + x1) / 16 * 65536 + ((x0 * 64 + x1) % 16 * 64 + x2) / 4 * 256 + (((x0 * 64 + x1) % 16 * 64 + x2) % 4 * 64 + x3)) % 64 = x3 := by omega
    rw [e1, e2, e3, e4, show (r.length + 1 + 1 + 1 + 1) % 4 = r.length % 4 by omega]

/-- A text without one mark at its end. -/
def trim1 (l : List UInt8) : List UInt8 := Lib.trimSuffix l [61]
theorem trim1_yes (x : List UInt8) : trim1 (x ++ [61]) = x := by
  unfold trim1 Lib.trimSuffix Lib.hasSuffix
  have : [61].isSuffixOf (x ++ [61]) = true := by rw [List.isSuffixOf_iff_suffix]; exact List.suffix_append _ _
  rw [if_pos this]
  simp
theorem trim1_cases (l : List UInt8) : (∃ x, l = x ++ [61] ∧ trim1 l = x) ∨ trim1 l = l := by
  unfold trim1 Lib.trimSuffix Lib.hasSuffix
  by_cases h : [61].isSuffixOf l = true
  · left
    obtain ⟨x, hx⟩ := List.isSuffixOf_iff_suffix.1 h
    refine ⟨x, hx.symm, ?_⟩
    rw [if_pos h, ← hx]
    simp
  · right
    rw [if_neg h]
theorem trim1_no (x : List UInt8) (h : ∀ c ∈ x, c ∈ lets) : trim1 x = x := by
  rcases trim1_cases x with ⟨y, e, _⟩ | e
  · exact absurd (h 61 (by rw [e]; simp)) no61
  · exact e
theorem trim_enc (o : List UInt8) : trim1 (trim1 (enc o)) = core o := by
  rw [enc_core]
  have hc := core_mem o
  rcases pad_cases o with e | e | e
  · rw [e, List.append_nil, trim1_no _ hc, trim1_no _ hc]
  · rw [e, trim1_yes, trim1_no _ hc]
  · rw [e, show core o ++ [61, 61] = (core o ++ [61]) ++ [61] by simp, trim1_yes, trim1_yes]
/-- What isn't read was not written. -/
theorem no_letter (s : List UInt8) (c : UInt8) (h : c ∈ trim1 (trim1 s)) (hc : c ∉ lets) : ∀ o, enc o ≠ s := by
  intro o ho
  subst ho
  rw [trim_enc] at h
  exact hc (core_mem o c h)
theorem bits_left (s : List UInt8) (x : List UInt8) (h b : Nat) (hd : decA ([], 0, 0) (trim1 (trim1 s)) = (x, h, b)) (hb : b ≠ 0) : ∀ o, enc o ≠ s := by
  intro o ho
  subst ho
  obtain ⟨h', e⟩ := dec_core o []
  rw [trim_enc, e] at hd
  injection hd with _ hd
  injection hd with _ hd
  exact hb hd.symm
theorem too_few (s : List UInt8) (h : s.length % 4 ≠ 0) : ∀ o, enc o ≠ s := by
  intro o ho
  subst ho
  rw [enc_length] at h
  omega
theorem all_read (s : List UInt8) (x : List UInt8) (h : Nat) (h4 : s.length % 4 = 0) (hl : ∀ c ∈ trim1 (trim1 s), c ∈ lets) (hd : decA ([], 0, 0) (trim1 (trim1 s)) = (x, h, 0)) : enc x = s := by
  have key : ∀ (body p : List UInt8), (∀ c ∈ body, c ∈ lets) → decA ([], 0, 0) body = (x, h, 0) → s = body ++ p → (p = [] ∨ p = [61] ∨ p = [61, 61]) → enc x = s := by
    intro body p hl hd hs hp
    have hlen : body.length % 4 ≠ 1 ∧ p = padN (body.length % 4) := by
      rw [hs, List.length_append] at h4
      rcases hp with rfl | rfl | rfl
      · simp at h4
        rw [h4]; exact ⟨by decide, rfl⟩
      · simp at h4
        have : body.length % 4 = 3 := by omega
        rw [this]; exact ⟨by decide, rfl⟩
      · simp at h4
        have : body.length % 4 = 2 := by omega
        rw [this]; exact ⟨by decide, rfl⟩
    obtain ⟨o, h', b, e, he⟩ := dec_enc body [] hl hlen.1
    rw [hd] at e
    injection e with e1 e2
    injection e2 with e2 e3
    rw [e1, List.nil_append, he e3.symm, ← hlen.2, hs]
  rcases trim1_cases s with ⟨y, e, e2⟩ | e
  · rw [e2] at hl hd
    rcases trim1_cases y with ⟨z, f, f2⟩ | f
    · rw [f2] at hl hd
      exact key z [61, 61] hl hd (by rw [e, f]; simp) (.inr (.inr rfl))
    · rw [f] at hl hd
      exact key y [61] hl hd e (.inr (.inl rfl))
  · rw [e, e] at hl hd
    exact key s [] hl hd (by simp) (.inl rfl)
theorem enc_inj (a b : List UInt8) (h : enc a = enc b) : a = b := by
  obtain ⟨h1, e1⟩ := dec_core a []
  obtain ⟨h2, e2⟩ := dec_core b []
  rw [← trim_enc, h, trim_enc, e2] at e1
  injection e1 with e1
  exact e1.symm
end Go.Proofs.YtbhnaekkjpcafabDoor
