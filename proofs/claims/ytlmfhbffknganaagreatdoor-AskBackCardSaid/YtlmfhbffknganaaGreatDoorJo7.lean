/- Texts of one claim, joined: each begins with what it proves. -/
import Derived.Test.YtlmfhbffknganaaGreatDoorJo3
import Derived.Test.YtlmfhbffknganaaGreatDoorJo1
import Derived.Test.YtlmfhbffknganaaGreatDoorJo4
import Derived.Test.YtlmfhbffknganaaGreatDoorJo6
import Derived.Test.YtlmfhbffknganaaGreatDoorJo5
import Derived.ProofKit
import Derived.OpenShut
import Derived.SliceStrings
import Derived.Carry
import Derived.SizedLaws
import Derived.Deep.Slices
import Derived.Deep.SlicePairs
import Derived.Deep.Strs
import Derived.Lib.SmallJoins
/- Rows of the same challenges are alike, by the library's own functions. -/
namespace Go.Proofs.YtlmfhbffknganaaGreatDoor
open Go.RowKit

set_option maxRecDepth 100000 in
set_option maxHeartbeats 2000000 in
theorem equalP_yes (ps : List Par) (a1 a2 : Option Addr) (n c1 c2 b1 o1 b2 o2 : Nat) (hn : n ≤ 1000000) (w : World) (h1 : Pars w a1 n b1 o1 ps) (h2 : Pars w a2 n b2 o2 ps) :
    Calls Tryz.prog 38 #[.slice a1 n c1, .slice a2 n c2] w fun e w' => e = .returned (.bool true) ∧ Below w.heap.size w w' := by
  have H1 : Hid (Pars w a1 n b1 o1 ps) := h1
  have H2 : Hid (Pars w a2 n b2 o2 ps) := h2
  have hl := h1.len_eq
  clear h1 h2
  go_enter Tryz.func38, Tryz.ntmps38
  go_wp2
  go_loopw [13] (fun i wr => ∃ (k : Nat), k ≤ n ∧ i = .int .i64 k ∧ ∃ q, wr = w.drewN q) (fun i _ => n - (intOf i).toNat)
  case atStart => exact ⟨0, Nat.zero_le _, rfl, 0, rfl⟩
  case round =>
    obtain ⟨k, hk, rfl, q, rfl⟩ := hrel
    by_cases hlt : k < n
    · obtain ⟨p, hpk⟩ : ∃ p, ps[k]? = some p := ⟨ps[k]'(by omega), List.getElem?_eq_getElem (by omega)⟩
      obtain ⟨ha1, _⟩ := H1.out.lies (by omega)
      obtain ⟨ha2, _⟩ := H2.out.lies (by omega)
      subst ha1 ha2
      have x1 := H1.out.one k p hpk
      have x2 := H1.out.two k p hpk
      have y1 := H2.out.one k p hpk
      have y2 := H2.out.two k p hpk
      have hkn : (k : Int) < (n : Int) := by omega
      clear hpk
      go_wp2
      go_quiet (fail)
      go_wp2
      go_roundw
      case rel => exact ⟨k + 1, by omega, by go_num, _, rfl⟩
      case measure => simp [intOf]; omega
    · have hkn : ¬ (k : Int) < (n : Int) := by omega
      go_wp2
      go_ret
      exact ⟨rfl, drewN_at (Below.refl _ _) _⟩
set_option maxRecDepth 100000 in
set_option maxHeartbeats 2000000 in
theorem sameChal_yes (c d : ChV) (hcd : c.x = d.x) (hl : c.len ≤ 1000000) (w : World) (h1 : ChOk w c) (h2 : ChOk w d) :
    Calls Tryz.prog 12 #[.agg #[.string c.x.scheme, .string c.x.token, .slice c.a c.len c.cap], .agg #[.string d.x.scheme, .string d.x.token, .slice d.a d.len d.cap]] w fun e w' => e = .returned (.bool true) ∧ Below w.heap.size w w' := by
  have hle : d.len = c.len := by unfold ChV.len; rw [hcd]
  have hds : d.x.scheme = c.x.scheme := by rw [hcd]
  have hdt : d.x.token = c.x.token := by rw [hcd]
  have h3 : Pars w d.a c.len d.b d.off c.x.params := by
    have := h2
    unfold ChOk at this
    rw [hle, ← hcd] at this
    exact this
  rw [hle, hds, hdt]
  have hb : Below w.heap.size w ((w.alloc (.cells #[.string c.x.scheme, .string c.x.token, .slice c.a c.len c.cap] 34)).alloc (.cells #[.string c.x.scheme, .string c.x.token, .slice d.a c.len d.cap] 34)) := ((Below.refl _ _).alloc (Nat.le_refl _) _).alloc (by simp) _
  have heq := equalP_yes c.x.params c.a d.a c.len c.cap d.cap c.b c.off d.b d.off hl _ (Pars.below h1 hb) (h3.below hb)
  clear h1 h2 h3 hcd hle hds hdt
  go_enter Tryz.func12, Tryz.ntmps12
  go_wp2_with (go_at_call 38; refine heq.mono ?_; rintro e w2 ⟨rfl, hb2⟩)
  go_ret
  exact ⟨rfl, hb.trans (hb2.mono (by simp; omega))⟩
set_option maxRecDepth 100000 in
set_option maxHeartbeats 2000000 in
theorem equalC_yes (cs ds : List ChV) (hx : xsOf cs = xsOf ds) (hl : ∀ c ∈ cs, c.len ≤ 1000000) (a1 a2 : Option Addr) (n c1 c2 b1 o1 b2 o2 : Nat) (hn : n ≤ 1000000) (w : World) (h1 : Chals w a1 n b1 o1 cs) (h2 : Chals w a2 n b2 o2 ds) :
    Calls Tryz.prog 11 #[.slice a1 n c1, .slice a2 n c2, .func (.func 12) #[] #[]] w fun e w' => e = .returned (.bool true) ∧ Below w.heap.size w w' := by
  have H1 : Hid (Chals w a1 n b1 o1 cs) := h1
  have H2 : Hid (Chals w a2 n b2 o2 ds) := h2
  have HL : Hid (∀ c ∈ cs, c.len ≤ 1000000) := hl
  have HX : Hid (xsOf cs = xsOf ds) := hx
  have hlen := h1.len_eq
  have hlen2 := h2.len_eq
  have hen := enters_at Tryz.func12 (by kernel_rfl) rfl
  clear h1 h2 hl hx
  go_enter Tryz.func11, Tryz.ntmps11
  go_wp2
  go_loopw [17] (fun i wr => ∃ (k : Nat), k ≤ n ∧ i = .int .i64 k ∧ Below w.heap.size w wr) (fun i _ => n - (intOf i).toNat)
  case atStart => exact ⟨0, Nat.zero_le _, rfl, Below.refl _ _⟩
  case round =>
    obtain ⟨k, hk, rfl, hb⟩ := hrel
    by_cases hlt : k < n
    · obtain ⟨c, hck⟩ : ∃ c, cs[k]? = some c := ⟨cs[k]'(by omega), List.getElem?_eq_getElem (by omega)⟩
      obtain ⟨d, hdk⟩ : ∃ d, ds[k]? = some d := ⟨ds[k]'(by omega), List.getElem?_eq_getElem (by omega)⟩
      have hcd : c.x = d.x := Option.some.inj ((xsOf_at hck).symm.trans ((congrArg (·[k]?) HX.out).trans (xsOf_at hdk)))
      have hX1 := H1.out.below hb
      have hX2 := H2.out.below hb
      obtain ⟨ha1, hl1⟩ := hX1.lies (by omega)
      obtain ⟨ha2, hl2⟩ := hX2.lies (by omega)
      subst ha1 ha2
      have x1 := hX1.one k c hck
      have x2 := hX1.two k c hck
      have x3 := hX1.three k c hck
      have y1 := hX2.one k d hdk
      have y2 := hX2.two k d hdk
      have y3 := hX2.three k d hdk
      have hkn : (k : Int) < (n : Int) := by omega
      have hbs : w.heap.size ≤ wr.heap.size := hb.size
      have hb2 : Below wr.heap.size wr ((wr.alloc (.cells #[.string c.x.scheme, .string c.x.token, .slice c.a c.len c.cap] 34)).alloc (.cells #[.string d.x.scheme, .string d.x.token, .slice d.a d.len d.cap] 34)) := ((Below.refl _ _).alloc (Nat.le_refl _) _).alloc (by simp) _
      have hs := sameChal_yes c d hcd (HL.out c (List.mem_of_getElem? hck)) _ ((hX1.pars c (List.mem_of_getElem? hck)).below hb2) ((hX2.pars d (List.mem_of_getElem? hdk)).below hb2)
      have HB2 : Hid (Below w.heap.size w ((wr.alloc (.cells #[.string c.x.scheme, .string c.x.token, .slice c.a c.len c.cap] 34)).alloc (.cells #[.string d.x.scheme, .string d.x.token, .slice d.a d.len d.cap] 34))) := hb.trans (hb2.mono hbs)
      clear hck hdk hcd hX1 hX2 hb2
      go_wp2_with fail
      refine hs.mono ?_
      rintro e w3 ⟨rfl, hb3⟩
      have HB3 : Hid (Below w.heap.size w w3) := HB2.out.trans (hb3.mono HB2.out.size)
      clear hb3 hs
      go_wp2
      go_roundw
      case rel => exact ⟨k + 1, by omega, by go_num, HB3.out⟩
      case measure => simp [intOf]; omega
    · have hkn : ¬ (k : Int) < (n : Int) := by omega
      go_wp2
      go_ret
      exact ⟨rfl, hb⟩
end Go.Proofs.YtlmfhbffknganaaGreatDoor

/- Challenges that are written are read as they are, over lists of bytes. -/
namespace Go.Proofs.YtlmfhbffknganaaGreatDoor

theorem kinds : ∀ c : UInt8, (tokB c = true → c ≠ 61 ∧ c ≠ 44 ∧ c ≠ 34 ∧ blankB c = false ∧ gapB c = false) ∧ (tkB c = true → c ≠ 61 ∧ c ≠ 44 ∧ blankB c = false) := by
  intro c
  have : ∀ n : Fin 256, (tokB (UInt8.ofNat n.1) = true → UInt8.ofNat n.1 ≠ 61 ∧ UInt8.ofNat n.1 ≠ 44 ∧ UInt8.ofNat n.1 ≠ 34 ∧ blankB (UInt8.ofNat n.1) = false ∧ gapB (UInt8.ofNat n.1) = false) ∧ (tkB (UInt8.ofNat n.1) = true → UInt8.ofNat n.1 ≠ 61 ∧ UInt8.ofNat n.1 ≠ 44 ∧ blankB (UInt8.ofNat n.1) = false) := by decide +kernel
  have h := this ⟨c.toNat, c.toNat_lt⟩
  simpa using h
/-- Nothing, or a comma ahead. -/
def Ends (m : List UInt8) : Prop := m = [] ∨ ∃ t, m = 44 :: t
theorem tw_end (f : UInt8 → Bool) (hf : f 44 = false) {m : List UInt8} (h : Ends m) : m.takeWhile f = [] ∧ m.dropWhile f = m := by
  rcases h with rfl | ⟨t, rfl⟩
  · exact ⟨rfl, rfl⟩
  · exact ⟨by rw [List.takeWhile_cons, hf]; rfl, by rw [List.dropWhile_cons, hf]; rfl⟩
theorem stops_end {m : List UInt8} (h : Ends m) : stopsL m = true := by
  rcases h with rfl | ⟨t, rfl⟩
  · rfl
  · rfl
theorem tw_app (f : UInt8 → Bool) {a m : List UInt8} (ha : a.all f = true) (hm : m.takeWhile f = []) : (a ++ m).takeWhile f = a := by
  rw [List.takeWhile_append_of_pos (by simpa [List.all_eq_true] using ha), hm, List.append_nil]
theorem dw_app (f : UInt8 → Bool) {a m : List UInt8} (ha : a.all f = true) (hm : m.dropWhile f = m) : (a ++ m).dropWhile f = m := by
  rw [List.dropWhile_append_of_pos (by simpa [List.all_eq_true] using ha), hm]
theorem dw_first (f : UInt8 → Bool) {c : UInt8} (t : List UInt8) (h : f c = false) : (c :: t).dropWhile f = c :: t ∧ (c :: t).takeWhile f = [] := by
  rw [List.dropWhile_cons, List.takeWhile_cons, h]
  exact ⟨rfl, rfl⟩
theorem isL_cons {l : List UInt8} (h : isL l = true) : ∃ c t, l = c :: t ∧ tokB c = true ∧ l.all tokB = true := by
  unfold isL at h
  rw [Bool.and_eq_true] at h
  cases l with
  | nil => cases h.1
  | cons c t =>
    refine ⟨c, t, rfl, ?_, h.2⟩
    have := h.2
    rw [List.all_cons, Bool.and_eq_true] at this
    exact this.1
/-- A parameter that is not like those ahead. -/
def Unlike : List Par → List Par → Prop
  | _, [] => True
  | acc, p :: r => toldL acc p.1 = false ∧ Unlike (acc ++ [p]) r
/-- A parameter's text, without the blank. -/
def parN (p : Par) (v : List UInt8) : List UInt8 := p.1.data.toList ++ 61 :: v
theorem parT_is {p : Par} {a : List UInt8} (h : parT p = some a) : ∃ v, valueO p.2.data.toList = some v ∧ a = 32 :: parN p v := by
  unfold parT at h
  obtain ⟨v, hv, rfl⟩ := Option.map_eq_some_iff.1 h
  exact ⟨v, hv, rfl⟩
theorem value_first {s v : List UInt8} (h : valueO s = some v) : ∃ c t, v = c :: t ∧ (tokB c = true ∨ c = 34) := by
  unfold valueO at h
  split at h
  · rename_i hs
    cases h
    obtain ⟨c, t, rfl, hc, _⟩ := isL_cons hs
    exact ⟨c, t, rfl, .inl hc⟩
  · unfold quoteO at h
    split at h
    · cases h
      exact ⟨34, _, rfl, .inr rfl⟩
    · cases h
theorem first_kinds {c : UInt8} (h : tokB c = true ∨ c = 34) : c ≠ 61 ∧ c ≠ 44 ∧ blankB c = false ∧ eqB c = false := by
  have : c ≠ 61 ∧ c ≠ 44 ∧ blankB c = false := by
    rcases h with h | rfl
    · exact ⟨((kinds c).1 h).1, ((kinds c).1 h).2.1, ((kinds c).1 h).2.2.2.1⟩
    · decide
  exact ⟨this.1, this.2.1, this.2.2, beq_eq_false_iff_ne.2 this.1⟩
theorem name_is {p : Par} {v R : List UInt8} (hn : isL p.1.data.toList = true) : nameL (parN p v ++ R) = some (p.1, v ++ R) := by
  obtain ⟨c, t, e, hc, ha⟩ := isL_cons hn
  unfold nameL parN
  have h1 : (p.1.data.toList ++ 61 :: v ++ R).takeWhile tokB = p.1.data.toList := by
    rw [List.append_assoc]
    exact tw_app tokB ha (dw_first tokB _ (by decide)).2
  have h2 : (p.1.data.toList ++ 61 :: v ++ R).dropWhile tokB = 61 :: (v ++ R) := by
    rw [List.append_assoc]
    exact dw_app tokB ha (dw_first tokB _ (by decide)).1
  rw [h1, h2, (dw_first blankB _ (by decide)).1, if_neg (by rw [e]; simp)]
  show some (bs p.1.data.toList, v ++ R) = _
  rw [bs_self]
theorem value_is {p : Par} {v R : List UInt8} (hv : valueO p.2.data.toList = some v) (hR : Ends R) : valueL ((v ++ R).dropWhile blankB) = some (p.2, R) := by
  obtain ⟨c, t, e, hc⟩ := value_first hv
  have hb : (v ++ R).dropWhile blankB = v ++ R := by
    rw [e]
    exact (dw_first blankB _ (first_kinds hc).2.2.1).1
  rw [hb]
  have hm : ∀ c t, R = c :: t → tokB c = false := by
    intro c t h
    rcases hR with rfl | ⟨t', rfl⟩
    · cases h
    · cases h; decide
  rcases value_word _ v R hm hv with ⟨hs, rfl, htw⟩ | ⟨hs, htw, hq⟩
  · unfold valueL
    obtain ⟨c', t', e', _, ha⟩ := isL_cons hs
    rw [htw, if_neg (by rw [e']; simp), bs_self]
    congr 2
    exact dw_app tokB ha (tw_end tokB (by decide) hR).2
  · unfold valueL
    rw [if_pos htw, hq]
    show some (bs p.2.data.toList, (v ++ R).drop v.length) = _
    rw [bs_self, List.drop_left]
/-- What stands between two parameters. -/
theorem parsF_is : ∀ {r : List Par} {a : List UInt8}, parsT false r = some a → (r = [] ∧ a = []) ∨ ∃ p r' v b, r = p :: r' ∧ valueO p.2.data.toList = some v ∧ parsT false r' = some b ∧ a = 44 :: 32 :: (parN p v ++ b)
  | [], a, h => by cases h; exact .inl ⟨rfl, rfl⟩
  | p :: r', a, h => by
    rw [parsT] at h
    rcases hp : parT p with _ | q
    · rw [hp] at h; cases h
    · rw [hp] at h
      obtain ⟨b, hb, rfl⟩ := Option.map_eq_some_iff.1 h
      obtain ⟨v, hv, rfl⟩ := parT_is hp
      exact .inr ⟨p, r', v, b, rfl, hv, hb, by simp [sepP]⟩
theorem ends_app {a m : List UInt8} {r : List Par} (h : parsT false r = some a) (hm : Ends m) : Ends (a ++ m) := by
  rcases parsF_is h with ⟨_, rfl⟩ | ⟨p, r', v, b, _, _, _, rfl⟩
  · exact hm
  · exact .inr ⟨_, rfl⟩
theorem params_print : ∀ (r : List Par) (p : Par) (acc : List Par) (f : Nat) (v b m : List UInt8), (∀ q ∈ p :: r, isL q.1.data.toList = true) → Unlike acc (p :: r) → acc.length + (p :: r).length ≤ 16 →
    valueO p.2.data.toList = some v → parsT false r = some b → Ends m → nameL (m.dropWhile gapB) = none → (parN p v ++ b ++ m).length < f →
    paramsL f acc (parN p v ++ b ++ m) = .ok (acc ++ p :: r, m.dropWhile gapB)
  | r, p, acc, 0, v, b, m, _, _, _, _, _, _, _, hf => absurd hf (Nat.not_lt_zero _)
  | r, p, acc, f + 1, v, b, m, hi, hu, hl, hv, hb, hm, hnm, hf => by
    have hE := ends_app hb hm
    have hpar : paramL acc (parN p v ++ b ++ m) = .ok (p, b ++ m) := by
      unfold paramL
      rw [List.append_assoc, name_is (hi p (by simp))]
      simp only [value_is hv hE]
      rw [hu.1, if_neg (by simp), if_neg (by simp at hl; omega)]
    rw [paramsL, hpar]
    simp only [(tw_end blankB (by decide) hE).2, stops_end hE, if_true]
    rcases parsF_is hb with ⟨rfl, rfl⟩ | ⟨q, r', v', b', rfl, hv', hb', rfl⟩
    · rw [List.nil_append, hnm]
      rfl
    · obtain ⟨c, t, e, hc, _⟩ := isL_cons (hi q (by simp))
      have hg : (44 :: 32 :: (parN q v' ++ b') ++ m).dropWhile gapB = parN q v' ++ b' ++ m := by
        rw [List.cons_append, List.cons_append, List.dropWhile_cons_of_pos (by decide), List.dropWhile_cons_of_pos (by decide)]
        unfold parN
        rw [e]
        exact (dw_first gapB _ ((kinds c).1 hc).2.2.2.2).1
      rw [hg, List.append_assoc, name_is (hi q (by simp))]
      simp only [Option.isSome_some, if_true]
      rw [← List.append_assoc, params_print r' q (acc ++ [p]) f v' b' m (fun x hx => hi x (by simp at hx ⊢; exact .inr hx)) hu.2 (by simp at hl ⊢; omega) hv' hb' hm hnm (by simp [parN] at hf ⊢; omega)]
      simp
theorem token_none {p : Par} {v R : List UInt8} (hn : isL p.1.data.toList = true) (hv : valueO p.2.data.toList = some v) : tokenL (parN p v ++ R) = none := by
  obtain ⟨c, t, e, hc⟩ := value_first hv
  obtain ⟨k1, k2, k3, k4⟩ := first_kinds hc
  unfold tokenL
  rw [if_neg]
  rintro ⟨_, hs⟩
  unfold parN at hs
  by_cases ha : p.1.data.toList.all tkB = true
  · rw [List.append_assoc, List.cons_append, dw_app tkB ha (dw_first tkB _ (by decide)).1, List.dropWhile_cons_of_pos (by decide), e, List.cons_append, (dw_first eqB _ k4).1, (dw_first blankB _ k3).1] at hs
    unfold stopsL at hs
    exact k2 (by simpa using hs)
  · obtain ⟨c', t', e', _, hall⟩ := isL_cons hn
    have hdw : ∃ d u, p.1.data.toList.dropWhile tkB = d :: u ∧ d ∈ p.1.data.toList := by
      cases h : p.1.data.toList.dropWhile tkB with
      | nil => exact absurd ((dw_nil _ _).1 h) ha
      | cons d u => exact ⟨d, u, rfl, (List.dropWhile_sublist _).subset (by rw [h]; simp)⟩
    obtain ⟨d, u, hd, hmem⟩ := hdw
    have hdt : tokB d = true := List.all_eq_true.1 hall d hmem
    obtain ⟨j1, j2, _, j3, _⟩ := (kinds d).1 hdt
    have hfull : (p.1.data.toList ++ 61 :: v ++ R).dropWhile tkB = d :: (u ++ 61 :: v ++ R) := by
      rw [List.append_assoc, List.dropWhile_append, hd]
      simp
    rw [hfull, (dw_first eqB _ (beq_eq_false_iff_ne.2 j1)).1, (dw_first blankB _ j3).1] at hs
    unfold stopsL at hs
    exact j2 (by simpa using hs)
/-- A Token as it is read. -/
def TokOk (t : List UInt8) : Prop := ∃ b e, t = b ++ e ∧ b ≠ [] ∧ b.all tkB = true ∧ e.all eqB = true
/-- A challenge that can be told so. -/
def Good (x : Chal) : Prop := isL x.scheme.data.toList = true ∧ (x.token.size = 0 ∨ TokOk x.token.data.toList ∧ x.params = []) ∧ (∀ q ∈ x.params, isL q.1.data.toList = true) ∧ Unlike [] x.params ∧ x.params.length ≤ 16
theorem empty_of {s : ByteArray} (h : s.size = 0) : s = ⟨#[]⟩ := ByteArray.ext (Array.eq_empty_of_size_eq_zero h)
theorem tokOk_first {t : List UInt8} (h : TokOk t) : ∃ c u, t = c :: u ∧ tkB c = true := by
  obtain ⟨b, e, rfl, hb, ha, _⟩ := h
  cases b with
  | nil => exact absurd rfl hb
  | cons c u =>
    rw [List.all_cons, Bool.and_eq_true] at ha
    exact ⟨c, u ++ e, rfl, ha.1⟩
theorem token_is {t m : List UInt8} (h : TokOk t) (hm : Ends m) : tokenL (t ++ m) = some (bs t, m) := by
  obtain ⟨b, e, rfl, hb, ha, he⟩ := h
  have hem : (e ++ m).dropWhile tkB = e ++ m := by
    cases e with
    | nil => exact (tw_end tkB (by decide) hm).2
    | cons c u =>
      rw [List.all_cons, Bool.and_eq_true] at he
      have hc : c = 61 := by simpa [eqB] using he.1
      subst hc
      exact (dw_first tkB _ (by decide)).1
  have h1 : (b ++ e ++ m).dropWhile tkB = e ++ m := by rw [List.append_assoc]; exact dw_app tkB ha hem
  have h2 : (e ++ m).dropWhile eqB = m := dw_app eqB he (tw_end eqB (by decide) hm).2
  unfold tokenL
  rw [h1, h2, (tw_end blankB (by decide) hm).2, if_pos ⟨by have := List.length_pos_iff.2 hb; simp; omega, stops_end hm⟩]
  congr 3
  rw [List.length_append, Nat.add_sub_cancel, List.take_left]
theorem chal_print {x : Chal} {t m : List UInt8} (hg : Good x) (ht : chalT x = some t) (ahead : Nat) (ha : ahead < 8) (hm : Ends m) (hnm : nameL (m.dropWhile gapB) = none) : ∃ u, chalL ahead (t ++ m) = .ok (x, u) ∧ u.dropWhile gapB = m.dropWhile gapB := by
  obtain ⟨h1, h2, h3, h4, h5⟩ := hg
  obtain ⟨c, s', es, hc, hall⟩ := isL_cons h1
  unfold chalT at ht
  obtain ⟨b, hb, rfl⟩ := Option.map_eq_some_iff.1 ht
  have hne : x.scheme.data.toList ≠ [] := by rw [es]; simp
  rcases h2 with h2 | ⟨h2, hp⟩
  · have htk := empty_of h2
    have htt : tokT x.token = [] := by unfold tokT; rw [if_pos h2]
    rw [htt, List.append_nil]
    rcases hps : x.params with _ | ⟨p, r⟩
    · rw [hps] at hb
      cases hb
      rw [List.append_nil]
      refine ⟨m, ?_, rfl⟩
      unfold chalL
      rw [tw_app tokB hall (tw_end tokB (by decide) hm).1, dw_app tokB hall (tw_end tokB (by decide) hm).2, (tw_end blankB (by decide) hm).2, stops_end hm, if_neg hne, if_neg (by omega), if_pos rfl, bs_self]
      rcases x with ⟨a1, a2, a3⟩
      simp only at hps htk
      rw [hps, htk]
    · rw [hps] at hb h3 h4 h5
      rw [parsT] at hb
      rcases hpt : parT p with _ | q
      · rw [hpt] at hb; cases hb
      · rw [hpt] at hb
        obtain ⟨b', hb', rfl⟩ := Option.map_eq_some_iff.1 hb
        obtain ⟨v, hv, rfl⟩ := parT_is hpt
        have e1 : x.scheme.data.toList ++ (sepP true ++ 32 :: parN p v ++ b') ++ m = x.scheme.data.toList ++ 32 :: (parN p v ++ b' ++ m) := by simp [sepP]
        rw [e1]
        obtain ⟨d, u', ed, hd, _⟩ := isL_cons (h3 p (by simp))
        have hb1 : (32 :: (parN p v ++ b' ++ m)).dropWhile blankB = parN p v ++ b' ++ m := by
          rw [List.dropWhile_cons_of_pos (by decide)]
          unfold parN
          rw [ed]
          exact (dw_first blankB _ ((kinds d).1 hd).2.2.2.1).1
        have hst : stopsL (parN p v ++ b' ++ m) = false := by
          unfold parN
          rw [ed]
          exact beq_eq_false_iff_ne.2 ((kinds d).1 hd).2.1
        refine ⟨m.dropWhile gapB, ?_, ?_⟩
        · unfold chalL
          rw [tw_app tokB hall (dw_first tokB _ (by decide)).2, dw_app tokB hall (dw_first tokB _ (by decide)).1, hb1, hst, if_neg hne, if_neg (by omega), if_neg (by simp), if_neg (by unfold runL; rw [List.takeWhile_cons_of_pos (by decide)]; simp), bs_self]
          unfold insideL
          rw [List.append_assoc, token_none (h3 p (by simp)) hv, ← List.append_assoc]
          simp only []
          rw [params_print r p [] _ v b' m h3 h4 (by simpa using h5) hv hb' hm hnm (by omega)]
          rcases x with ⟨a1, a2, a3⟩
          simp only at hps htk
          rw [hps, htk]
          rfl
        · have : ∀ l : List UInt8, (l.dropWhile gapB).dropWhile gapB = l.dropWhile gapB := fun l => by
            induction l with
            | nil => rfl
            | cons c t ih =>
              by_cases h : gapB c = true
              · rw [List.dropWhile_cons_of_pos h, ih]
              · rw [List.dropWhile_cons_of_neg h, List.dropWhile_cons_of_neg h]
          exact this m
  · rw [hp] at hb
    cases hb
    obtain ⟨d, u', ed, hd⟩ := tokOk_first h2
    have hz : x.token.size ≠ 0 := by
      intro h
      have := empty_of h
      rw [this] at ed
      cases ed
    have htt : tokT x.token = 32 :: x.token.data.toList := by unfold tokT; rw [if_neg hz]
    rw [htt, List.append_nil, List.append_assoc, List.cons_append]
    have hb1 : (32 :: (x.token.data.toList ++ m)).dropWhile blankB = x.token.data.toList ++ m := by
      rw [List.dropWhile_cons_of_pos (by decide), ed]
      exact (dw_first blankB _ ((kinds d).2 hd).2.2).1
    have hst : stopsL (x.token.data.toList ++ m) = false := by
      rw [ed]
      exact beq_eq_false_iff_ne.2 ((kinds d).2 hd).2.1
    refine ⟨m, ?_, rfl⟩
    unfold chalL
    rw [tw_app tokB hall (dw_first tokB _ (by decide)).2, dw_app tokB hall (dw_first tokB _ (by decide)).1, hb1, hst, if_neg hne, if_neg (by omega), if_neg (by simp), if_neg (by unfold runL; rw [List.takeWhile_cons_of_pos (by decide)]; simp), bs_self]
    unfold insideL
    rw [token_is h2 hm]
    simp only []
    rcases x with ⟨a1, a2, a3⟩
    simp only at hp
    rw [hp, bs_self]
theorem head_next {x : Chal} {a T : List UInt8} (hg : Good x) (ha : chalT x = some a) (hT : Ends T) : nameL (a ++ T) = none ∧ (a ++ T).dropWhile gapB = a ++ T ∧ a ≠ [] := by
  obtain ⟨h1, h2, h3, h4, h5⟩ := hg
  obtain ⟨c, s', es, hc, hall⟩ := isL_cons h1
  unfold chalT at ha
  obtain ⟨b, hb, rfl⟩ := Option.map_eq_some_iff.1 ha
  have hrest : ∃ R, x.scheme.data.toList ++ tokT x.token ++ b ++ T = x.scheme.data.toList ++ R ∧ (Ends R ∨ ∃ d u, R = 32 :: d :: u ∧ d ≠ 61 ∧ blankB d = false) := by
    refine ⟨tokT x.token ++ b ++ T, by simp, ?_⟩
    rcases h2 with h2 | ⟨h2, hp⟩
    · have htt : tokT x.token = [] := by unfold tokT; rw [if_pos h2]
      rw [htt, List.nil_append]
      rcases hps : x.params with _ | ⟨p, r⟩
      · rw [hps] at hb
        cases hb
        exact .inl hT
      · rw [hps] at hb h3
        rw [parsT] at hb
        rcases hpt : parT p with _ | q
        · rw [hpt] at hb; cases hb
        · rw [hpt] at hb
          obtain ⟨b', hb', rfl⟩ := Option.map_eq_some_iff.1 hb
          obtain ⟨v, hv, rfl⟩ := parT_is hpt
          obtain ⟨d, u', ed, hd, _⟩ := isL_cons (h3 p (by simp))
          refine .inr ⟨d, u' ++ 61 :: v ++ b' ++ T, ?_, ((kinds d).1 hd).1, ((kinds d).1 hd).2.2.2.1⟩
          unfold parN
          rw [ed]
          simp [sepP]
    · rw [hp] at hb
      cases hb
      obtain ⟨d, u', ed, hd⟩ := tokOk_first h2
      have hz : x.token.size ≠ 0 := by
        intro h
        have := empty_of h
        rw [this] at ed
        cases ed
      have htt : tokT x.token = 32 :: x.token.data.toList := by unfold tokT; rw [if_neg hz]
      rw [htt, ed]
      exact .inr ⟨d, u' ++ [] ++ T, by simp, ((kinds d).2 hd).1, ((kinds d).2 hd).2.2⟩
  obtain ⟨R, hR, hcase⟩ := hrest
  refine ⟨?_, ?_, by rw [es]; simp⟩
  · rw [hR]
    unfold nameL
    rcases hcase with hE | ⟨d, u, rfl, hd1, hd2⟩
    · rw [dw_app tokB hall (tw_end tokB (by decide) hE).2, (tw_end blankB (by decide) hE).2]
      split
      · rfl
      · rcases hE with rfl | ⟨t, rfl⟩ <;> rfl
    · rw [dw_app tokB hall (dw_first tokB _ (by decide)).1, List.dropWhile_cons_of_pos (by decide), (dw_first blankB _ hd2).1]
      split
      · rfl
      · show Option.map _ (if d = 61 then some u else none) = none
        rw [if_neg hd1]
        rfl
  · rw [hR, es]
    exact (dw_first gapB _ ((kinds c).1 hc).2.2.2.2).1
theorem parse_gapsL {f : Nat} {acc : List Chal} {u v : List UInt8} (h : u.dropWhile gapB = v.dropWhile gapB) : parseL (f + 1) acc u = parseL (f + 1) acc v := by rw [parseL, parseL, h]
theorem print_ends : ∀ {xs : List Chal} {i : Nat} {T : List UInt8}, printL (i + 1) xs = .ok T → Ends T
  | [], i, T, h => by cases h; exact .inl rfl
  | x :: r, i, T, h => by
    rw [printL] at h
    rcases hc : chalT x with _ | a
    · rw [hc] at h; cases h
    · rw [hc] at h
      rcases hr : printL (i + 1 + 1) r with e | b
      · simp only [hr] at h; cases h
      · simp only [hr] at h
        cases h
        exact .inr ⟨32 :: (a ++ b), by simp [sepC]⟩
theorem parse_print : ∀ (xs : List Chal) (acc : List Chal) (f i : Nat) (T : List UInt8), (∀ x ∈ xs, Good x) → acc.length + xs.length ≤ 8 → printL i xs = .ok T → T.length < f → parseL f acc T = .ok (acc ++ xs)
  | xs, acc, 0, i, T, _, _, _, hf => absurd hf (Nat.not_lt_zero _)
  | [], acc, f + 1, i, T, _, _, h, _ => by
    cases h
    rw [parseL, List.append_nil]
    rfl
  | x :: r, acc, f + 1, i, T, hg, hl, h, hf => by
    rw [printL] at h
    rcases hc : chalT x with _ | a
    · rw [hc] at h; cases h
    · rw [hc] at h
      rcases hr : printL (i + 1) r with e | b
      · simp only [hr] at h; cases h
      · simp only [hr] at h
        cases h
        have hE := print_ends hr
        obtain ⟨n1, n2, n3⟩ := head_next (hg x (by simp)) hc hE
        have hdw : (sepC i ++ a ++ b).dropWhile gapB = a ++ b := by
          unfold sepC
          split
          · rw [List.nil_append]; exact n2
          · rw [List.append_assoc, List.cons_append, List.dropWhile_cons_of_pos (by decide), List.cons_append, List.dropWhile_cons_of_pos (by decide), List.nil_append]
            exact n2
        have hnb : nameL (b.dropWhile gapB) = none := by
          cases r with
          | nil => cases hr; rfl
          | cons y r' =>
            rw [printL] at hr
            rcases hc' : chalT y with _ | a'
            · rw [hc'] at hr; cases hr
            · rw [hc'] at hr
              rcases hr' : printL (i + 1 + 1) r' with e | b'
              · simp only [hr'] at hr; cases hr
              · simp only [hr'] at hr
                cases hr
                have hE' := print_ends hr'
                obtain ⟨k1, k2, _⟩ := head_next (hg y (by simp)) hc' hE'
                have : (sepC (i + 1) ++ a' ++ b').dropWhile gapB = a' ++ b' := by
                  unfold sepC
                  rw [if_neg (by omega), List.append_assoc, List.cons_append, List.dropWhile_cons_of_pos (by decide), List.cons_append, List.dropWhile_cons_of_pos (by decide), List.nil_append]
                  exact k2
                rw [this]
                exact k1
        obtain ⟨u, hu1, hu2⟩ := chal_print (hg x (by simp)) hc acc.length (by simp at hl; omega) hE hnb
        rw [parseL, hdw, if_neg (by intro e; exact n3 (List.append_eq_nil_iff.1 e).1), hu1]
        simp only []
        have hf0 : 0 < f := by
          have := List.length_pos_iff.2 n3
          simp at hf
          omega
        obtain ⟨f', rfl⟩ : ∃ f', f = f' + 1 := ⟨f - 1, by omega⟩
        rw [parse_gapsL hu2, parse_print r (acc ++ [x]) (f' + 1) (i + 1) b (fun y hy => hg y (by simp [hy])) (by simp at hl ⊢; omega) hr (by have := List.length_pos_iff.2 n3; simp at hf; omega)]
        simp
/-- What is written so is read as it is. -/
theorem ask_print {xs : List Chal} {T : List UInt8} (hg : ∀ x ∈ xs, Good x) (hl : xs.length ≤ 8) (h : printL 0 xs = .ok T) : askL T = .ok xs := by
  unfold askL
  rw [parse_print xs [] _ 0 T hg (by simpa using hl) h (by omega)]
  rfl
end Go.Proofs.YtlmfhbffknganaaGreatDoor

/- Challenges that can be told so, as the laws draw them. -/
namespace Go.Proofs.YtlmfhbffknganaaGreatDoor
open Go.RowKit Go.Shelf

theorem same_comm (a b : List UInt8) : sameL a b = sameL b a := by unfold sameL; exact Bool.beq_comm
theorem unlike_snoc : ∀ (l acc : List Par) (p : Par), Unlike acc l → toldL (acc ++ l) p.1 = false → Unlike acc (l ++ [p])
  | [], acc, p, _, h => ⟨by rw [List.append_nil] at h; exact h, trivial⟩
  | q :: r, acc, p, hu, h => ⟨hu.1, unlike_snoc r (acc ++ [q]) p hu.2 (by rw [List.append_assoc]; exact h)⟩
/-- The first j parameters are few bytes, of words unlike. -/
def InK (ps : List Par) (j : Nat) : Prop := (∀ p ∈ ps.take j, p.1.size + p.2.size ≤ 100 ∧ isL p.1.data.toList = true) ∧ Unlike [] (ps.take j)
theorem inK_step {ps : List Par} {j : Nat} {p : Par} (h : InK ps j) (hp : ps[j]? = some p) (hs : p.1.size + p.2.size ≤ 100) (hi : isL p.1.data.toList = true) (ht : toldL (ps.take j) p.1 = false) : InK ps (j + 1) := by
  obtain ⟨hj, e⟩ := List.getElem?_eq_some_iff.1 hp
  have et : ps.take (j + 1) = ps.take j ++ [p] := by rw [List.take_succ_eq_append_getElem hj, e]
  unfold InK
  rw [et]
  refine ⟨fun q hq => ?_, unlike_snoc _ _ _ h.2 ht⟩
  rcases List.mem_append.1 hq with h1 | h1
  · exact h.1 q h1
  · rw [List.mem_singleton.1 h1]; exact ⟨hs, hi⟩
/-- A challenge that is fair. -/
def FairC (x : Chal) : Prop := x.scheme.size + x.token.size ≤ 60 ∧ x.params.length ≤ 16 ∧ Good x ∧ ∀ p ∈ x.params, p.1.size + p.2.size ≤ 100
theorem trim_nil (l : List UInt8) (h : Lib.trimS l tkset.data.toList = []) : l.all tkB = true := by
  unfold Lib.trimS at h
  rw [trim_tk] at h
  have h1 : (Lib.trimRightS l tkset.data.toList).all tkB = true := (dw_nil _ _).1 h
  unfold Lib.trimRightS at h1
  have e : (fun c => tkset.data.toList.contains c) = tkB := funext tk_all
  rw [e, List.all_reverse] at h1
  have h2 : l.reverse.dropWhile tkB = [] := by
    cases hd : l.reverse.dropWhile tkB with
    | nil => rfl
    | cons c t =>
      rw [hd, List.all_cons, Bool.and_eq_true] at h1
      have := List.head?_dropWhile_not tkB l.reverse
      rw [hd] at this
      simp [h1.1] at this
  have h3 := (dw_nil _ _).1 h2
  rw [List.all_reverse] at h3
  exact h3
theorem fair_of {x : Chal} (h1 : x.scheme.size + x.token.size ≤ 60) (h2 : x.params.length ≤ 16) (h3 : isL x.scheme.data.toList = true) (h4 : x.token.size = 0 ∨ x.params = [] ∧ x.token.data.toList.all tkB = true) (h5 : InK x.params x.params.length) : FairC x := by
  unfold InK at h5
  rw [List.take_length] at h5
  refine ⟨h1, h2, ⟨h3, ?_, fun q hq => (h5.1 q hq).2, h5.2, h2⟩, fun p hp => (h5.1 p hp).1⟩
  by_cases h0 : x.token.size = 0
  · exact .inl h0
  · rcases h4 with h | h
    · exact absurd h h0
    · refine .inr ⟨⟨x.token.data.toList, [], by simp, fun e => h0 ?_, h.2, rfl⟩, h.1⟩
      rw [← len_data, e]
      rfl
theorem trimAll_any (p : ByteArray) (hp : p.size ≤ 5000) (w : World) :
    Calls Tryz.prog 29 #[.string p, .string tkset] w fun e w' => ∃ t : ByteArray, e = .returned (.string t) ∧ Hid (t.size = 0 → p.data.toList.all tkB = true) ∧ Below w.heap.size w w' := by
  refine (Any.strings_Trim_laid lays160 (by kernel_rfl) p tkset w (by omega) (by decide) (ascii_of_all (by decide +kernel))).mono ?_
  rintro e w' ⟨rfl, hb⟩
  refine ⟨_, rfl, fun h => trim_nil _ ?_, hb⟩
  exact List.eq_nil_of_length_eq_zero h
theorem any_find {f : Par → Bool} {ps : List Par} : ps.any f = (ps.find? f).isSome := by
  induction ps with
  | nil => rfl
  | cons p r ih =>
    rw [List.any_cons, List.find?_cons]
    cases f p
    · rw [Bool.false_or, ih]
    · rfl
set_option maxHeartbeats 1000000 in
theorem containsP_any (K : Nat) (c : Value) (f : Par → Bool) (ps : List Par) (a0 : Option Addr) (len cap b off : Nat) (hlen : len ≤ 1000000) (w : World) (hx : Pars w a0 len b off ps)
    (says : ∀ w', Below w.heap.size w w' → ∀ p ∈ ps, Calls Tryz.prog K #[.agg #[.string p.1, .string p.2], c] w' fun e w'' => e = .returned (.bool (f p)) ∧ Below w'.heap.size w' w'')
    (hen : ∀ (args : Array Value) (w : World), (callFunc K args).run Tryz.prog w = .ok (.enter K args) w) :
    Calls Tryz.prog 30 #[.slice a0 len cap, .func (.func K) #[] #[c]] w fun e w' => e = .returned (.bool (ps.any f)) ∧ Below w.heap.size w w' := by
  go_enter Tryz.func30, Tryz.ntmps30
  go_wp2_with fail
  refine (indexP_any K c f ps a0 len cap b off hlen _ hx says hen).mono ?_
  rintro e w' ⟨⟨r, rfl, hr⟩, hb⟩
  rcases hr.out with ⟨rfl, h⟩ | ⟨k, p, rfl, _, h⟩
  · have HA : Hid (ps.any f = false) := by show _ = _; rw [any_find, h]; rfl
    clear hr h
    go_wp2
    go_ret
    exact ⟨by rw [HA.out]; rfl, hb⟩
  · have HA : Hid (ps.any f = true) := by show _ = _; rw [any_find, h]; rfl
    have h0 : (0 : Int) ≤ (k : Int) := by omega
    clear hr h
    go_wp2
    go_ret
    exact ⟨by rw [HA.out]; first | rfl | simp [h0], hb⟩
set_option maxHeartbeats 1000000 in
theorem fairOne_any (q : Par) (n : ByteArray) (hq : q.1.size ≤ 4000) (hn : n.size ≤ 4000) (c : Nat) (w : World) (hc : w.cell? ⟨c, 0, none⟩ = some (.string n)) :
    Calls Tryz.prog 31 #[.agg #[.string q.1, .string q.2], .pointer (some ⟨c, 0, none⟩)] w fun e w' => e = .returned (.bool (sameL n.data.toList q.1.data.toList)) ∧ Below w.heap.size w w' := by
  have hcl : c < w.heap.size := by
    rcases Nat.lt_or_ge c w.heap.size with h1 | h1
    · exact h1
    · simp [World.cell?, Array.getElem?_eq_none h1] at hc
  go_enter Tryz.func31, Tryz.ntmps31
  go_wp2_with fail
  refine (same_any _ _ hn hq _).mono ?_
  rintro e w2 ⟨rfl, hb2⟩
  go_wp2
  go_ret
  exact ⟨rfl, ((Below.refl _ _).alloc (Nat.le_refl _) _).trans (hb2.mono (by simp))⟩
end Go.Proofs.YtlmfhbffknganaaGreatDoor

/- Whether challenges are fair. -/
namespace Go.Proofs.YtlmfhbffknganaaGreatDoor
open Go.RowKit Go.Shelf

theorem mt_yes {s : ByteArray} (h : s.size = 0) : s.toList.isEmpty = true := by
  rw [ByteArray.toList_eq]
  have : s.data.toList.length = 0 := by rw [Array.length_toList]; exact h
  rw [List.eq_nil_of_length_eq_zero this]
  rfl
theorem mt_no {s : ByteArray} (h : s.size ≠ 0) : s.toList.isEmpty = false := by
  rw [ByteArray.toList_eq]
  cases e : s.data.toList with
  | nil =>
    have : s.data.toList.length = s.size := Array.length_toList
    rw [e] at this
    exact absurd this.symm h
  | cons x r => rfl
theorem fair_all {cs : List ChV} {k : Nat} {c : ChV} (h : ∀ d ∈ cs.take k, FairC d.x) (hc : cs[k]? = some c) (hf : FairC c.x) : ∀ d ∈ cs.take (k + 1), FairC d.x := by
  obtain ⟨hk, e⟩ := List.getElem?_eq_some_iff.1 hc
  rw [List.take_succ_eq_append_getElem hk, e]
  intro d hd
  rcases List.mem_append.1 hd with h1 | h1
  · exact h d h1
  · rw [List.mem_singleton.1 h1]; exact hf
theorem pars_take {w : World} {a0 : Option Addr} {len b off : Nat} {ps : List Par} (h : Pars w a0 len b off ps) (j : Nat) (hj : j ≤ len) : Pars w a0 j b off (ps.take j) := by
  have hl := h.len_eq
  refine ⟨by rw [List.length_take]; omega, fun h0 => h.lies (by omega), fun i p hp => h.one i p ?_, fun i p hp => h.two i p ?_⟩
  · rw [List.getElem?_take] at hp
    split at hp
    · exact hp
    · cases hp
  · rw [List.getElem?_take] at hp
    split at hp
    · exact hp
    · cases hp
/-- What fair answers. -/
def FarAns (cs : List ChV) (len : Nat) (e : Ending) : Prop := ∃ r : Bool, e = .returned (.bool r) ∧ (r = true → len ≤ 8 ∧ ∀ c ∈ cs, FairC c.x)
theorem far_no (cs : List ChV) (len : Nat) : FarAns cs len (.returned (.bool false)) := ⟨false, rfl, fun e => by cases e⟩
set_option maxRecDepth 100000 in
set_option maxHeartbeats 8000000 in
theorem fair_any (cs : List ChV) (hh : ∀ c ∈ cs, Held c.x) (a0 : Option Addr) (len cap b off : Nat) (hlen : len ≤ 9223372036854775807) (hpl : ∀ c ∈ cs, Room c) (w : World) (hx : Chals w a0 len b off cs) :
    Calls Tryz.prog 8 #[.slice a0 len cap] w fun e w' => FarAns cs len e ∧ Below w.heap.size w w' := by
  have HX : Hid (Chals w a0 len b off cs) := hx
  have hl := hx.len_eq
  clear hx
  by_cases h8 : (8 : Int) < (len : Int)
  · go_enter Tryz.func8, Tryz.ntmps8
    go_wp2
    go_ret
    exact ⟨far_no _ _, Below.refl _ _⟩
  have HH : Hid (∀ c ∈ cs, Held c.x) := hh
  have HPL : Hid (∀ c ∈ cs, Room c) := hpl
  clear hh hpl
  go_enter Tryz.func8, Tryz.ntmps8
  go_wp2
  go_loopw [12] (fun i wr => ∃ (k : Nat), k ≤ len ∧ i = .int .i64 k ∧ Hid ((∀ c ∈ cs.take k, FairC c.x) ∧ Below w.heap.size w wr)) (fun i _ => len - (intOf i).toNat)
  case atStart => exact ⟨0, Nat.zero_le _, rfl, ⟨fun c hc => by simp at hc, Below.refl _ _⟩⟩
  case round =>
    obtain ⟨k, hk, rfl, HK⟩ := hrel
    by_cases hlt : k < len
    · obtain ⟨c, hck⟩ : ∃ c, cs[k]? = some c := ⟨cs[k]'(by omega), List.getElem?_eq_getElem (by omega)⟩
      have HC : Hid (cs[k]? = some c) := hck
      have HM : Hid (c ∈ cs) := List.mem_of_getElem? hck
      have hX := HX.out.below HK.out.2
      obtain ⟨ha0, hbl⟩ := hX.lies (by omega)
      have hc1 := hX.one k c hck
      have hc2 := hX.two k c hck
      have hc3 := hX.three k c hck
      obtain ⟨hrc, hrm, hpl⟩ := HPL.out c HM.out
      obtain ⟨ca, HCA⟩ : ∃ ca, Hid (c.a = ca) := ⟨_, rfl⟩
      have hPP := hX.pars c HM.out
      unfold ChOk at hPP
      rw [HCA.out] at hc3 hPP
      obtain ⟨hz1, hz2, hz3⟩ := HH.out c HM.out
      have HZ3 : Hid (∀ p ∈ c.x.params, p.1.size ≤ 140737488355328 ∧ p.2.size ≤ 140737488355328) := hz3
      have hb1 : Below wr.heap.size wr (wr.alloc (.cells #[.string c.x.scheme, .string c.x.token, .slice ca c.len c.cap] 34)) := (Below.refl _ _).alloc (Nat.le_refl _) _
      have HP : Hid (Pars (wr.alloc (.cells #[.string c.x.scheme, .string c.x.token, .slice ca c.len c.cap] 34)) ca c.len c.b c.off c.x.params) := hPP.below hb1
      have HB1 : Hid (Below w.heap.size w (wr.alloc (.cells #[.string c.x.scheme, .string c.x.token, .slice ca c.len c.cap] 34))) := HK.out.2.trans (hb1.mono HK.out.2.size)
      have hkL : (k : Int) < (len : Int) := by omega
      subst ha0
      clear hck hX hb1 hz3 hPP
      by_cases h60 : (60 : Int) < (c.x.scheme.size : Int) + (c.x.token.size : Int)
      · go_wp2
        go_ret
        exact ⟨far_no _ _, HB1.out⟩
      by_cases h16 : (16 : Int) < (c.len : Int)
      · go_wp2
        go_ret
        exact ⟨far_no _ _, HB1.out⟩
      cases hi : isL c.x.scheme.data.toList
      · go_wp2_with fail
        refine (is_any c.x.scheme (by omega) _).mono ?_
        rintro e w2 ⟨rfl, hw⟩
        obtain rfl := hw.symm
        rw [hi]
        go_wp2
        go_ret
        exact ⟨far_no _ _, HB1.out⟩
      have HI : Hid (isL c.x.scheme.data.toList = true) := hi
      clear hi
      have hbox : ∀ (j : Nat) (v : Value), #[Value.string c.x.scheme, .string c.x.token, .slice ca c.len c.cap][j]? = some v → (wr.alloc (.cells #[.string c.x.scheme, .string c.x.token, .slice ca c.len c.cap] 34)).cell? ⟨wr.heap.size, j, none⟩ = some v := fun j v hv => (World.cell?_alloc_mark _ _ _ _ _).trans hv
      go_wp2_with fail
      refine (is_any c.x.scheme (by omega) _).mono ?_
      rintro e w2 ⟨rfl, hw⟩
      obtain rfl := hw.symm
      rw [HI.out]
      clear hw
      have hwz : (wr.alloc (.cells #[.string c.x.scheme, .string c.x.token, .slice ca c.len c.cap] 34)).heap.size = wr.heap.size + 1 := by simp
      have b1 := hbox 1 _ rfl
      have b2 := hbox 2 _ rfl
      generalize hW4 : wr.alloc (.cells #[.string c.x.scheme, .string c.x.token, .slice ca c.len c.cap] 34) = W4 at HP HB1 hwz b1 b2 ⊢
      clear hW4 hbox
      by_cases h0 : c.x.token.size = 0
      · have he : c.x.token.toList.isEmpty = true := mt_yes h0
        have HBX : Hid (∀ w', Below W4.heap.size W4 w' → w'.cell? ⟨wr.heap.size, 2, none⟩ = some (.slice ca c.len c.cap)) := fun w' hb => (hb.cell (p := ⟨wr.heap.size, 2, none⟩) (by show wr.heap.size < _; omega)).trans b2
        go_wp2
        go_loopw [56] (fun i w5 => ∃ (j : Nat), j ≤ c.len ∧ i = .int .i64 j ∧ Hid (InK c.x.params j ∧ Below W4.heap.size W4 w5)) (fun i _ => c.len - (intOf i).toNat)
        case atStart => exact ⟨0, Nat.zero_le _, rfl, ⟨⟨fun p hp => by simp at hp, trivial⟩, Below.refl _ _⟩⟩
        case round =>
          obtain ⟨j, hj, rfl, HJ⟩ := hrel
          by_cases hjl : j < c.len
          · obtain ⟨p, hpj⟩ : ∃ p, c.x.params[j]? = some p := ⟨c.x.params[j]'hjl, List.getElem?_eq_getElem hjl⟩
            have HPJ : Hid (c.x.params[j]? = some p) := hpj
            have hP := HP.out.below HJ.out.2
            obtain ⟨hca, hcb⟩ := hP.lies (by omega)
            have hp1 := hP.one j p hpj
            have hp2 := hP.two j p hpj
            obtain ⟨hz4, hz5⟩ := HZ3.out p (List.mem_of_getElem? hpj)
            have hb6 : Below wr.heap.size wr (wr.alloc (.cells #[.string p.1, .string p.2] 44)) := (Below.refl _ _).alloc (Nat.le_refl _) _
            have HP6 : Hid (Pars (wr.alloc (.cells #[.string p.1, .string p.2] 44)) ca j c.b c.off (c.x.params.take j)) := (pars_take hP j hj).below hb6
            have HB6 : Hid (Below W4.heap.size W4 (wr.alloc (.cells #[.string p.1, .string p.2] 44))) := HJ.out.2.trans (hb6.mono HJ.out.2.size)
            have HB7 : Hid (Below w.heap.size w (wr.alloc (.cells #[.string p.1, .string p.2] 44))) := HB1.out.trans (HB6.out.mono HB1.out.size)
            have b6 := HBX.out _ HB6.out
            have hcell : (wr.alloc (.cells #[.string p.1, .string p.2] 44)).cell? ⟨wr.heap.size, 0, none⟩ = some (.string p.1) := World.cell?_alloc_mark _ _ _ _ _
            have HN : Hid ((wr.alloc (.cells #[.string p.1, .string p.2] 44)).cell? ⟨wr.heap.size, 0, none⟩ = some (.string p.1) ∧ wr.heap.size < (wr.alloc (.cells #[.string p.1, .string p.2] 44)).heap.size) := ⟨hcell, by simp⟩
            clear hcell
            have hjL : (j : Int) < (c.len : Int) := by omega
            subst hca
            clear hpj hP hb6
            by_cases h100 : (100 : Int) < (p.1.size : Int) + (p.2.size : Int)
            · go_wp2
              go_ret
              exact ⟨far_no _ _, HB7.out⟩
            cases hi : isL p.1.data.toList
            · go_wp2_with fail
              refine (is_any p.1 (by omega) _).mono ?_
              rintro e w2 ⟨rfl, hw⟩
              obtain rfl := hw.symm
              rw [hi]
              go_wp2
              go_ret
              exact ⟨far_no _ _, HB7.out⟩
            have HIP : Hid (isL p.1.data.toList = true) := hi
            clear hi
            go_wp2_with fail
            refine (is_any p.1 (by omega) _).mono ?_
            rintro e w2 ⟨rfl, hw⟩
            obtain rfl := hw.symm
            rw [HIP.out]
            clear hw
            have hjc : j ≤ c.cap := by omega
            have HSY : Hid (∀ w', Below (wr.alloc (.cells #[.string p.1, .string p.2] 44)).heap.size (wr.alloc (.cells #[.string p.1, .string p.2] 44)) w' → ∀ q ∈ c.x.params.take j, Calls Tryz.prog 31 #[.agg #[.string q.1, .string q.2], .pointer (some ⟨wr.heap.size, 0, none⟩)] w' fun e w'' => e = .returned (.bool (sameL p.1.data.toList q.1.data.toList)) ∧ Below w'.heap.size w' w'') := fun w' hb q hq => fairOne_any q p.1 (by have := (HJ.out.1.1 q hq).1; omega) (by omega) _ _ ((hb.cell (p := ⟨wr.heap.size, 0, none⟩) HN.out.2).trans HN.out.1)
            generalize hW6 : wr.alloc (.cells #[.string p.1, .string p.2] 44) = W6 at b6 HP6 HB6 HB7 HN HSY ⊢
            clear hW6
            go_wp2_with fail
            refine (containsP_any 31 _ (fun q => sameL p.1.data.toList q.1.data.toList) (c.x.params.take j) _ j _ c.b c.off (by omega) W6 HP6.out HSY.out (fun _ _ => rfl)).mono ?_
            rintro e w7 ⟨rfl, hb7⟩
            have HB8 : Hid (Below W4.heap.size W4 w7 ∧ Below w.heap.size w w7) := ⟨HB6.out.trans (hb7.mono HB6.out.size), HB7.out.trans (hb7.mono HB7.out.size)⟩
            clear hb7
            cases ht : (c.x.params.take j).any (fun q => sameL p.1.data.toList q.1.data.toList)
            · have HT : Hid (toldL (c.x.params.take j) p.1 = false) := by
                show _ = _
                rw [← ht]
                unfold toldL
                congr 1
                funext q
                exact same_comm _ _
              go_wp2
              go_roundw
              case rel => exact ⟨j + 1, by omega, by go_num, ⟨inK_step HJ.out.1 HPJ.out (by omega) HIP.out HT.out, HB8.out.1⟩⟩
              case measure => simp [intOf]; omega
            · go_wp2
              go_ret
              exact ⟨far_no _ _, HB8.out.2⟩
          · have hjL : ¬ (j : Int) < (c.len : Int) := by omega
            have HF : Hid (FairC c.x) := fair_of (by omega) (by unfold ChV.len at h16; omega) HI.out (.inl h0) (by
              have e0 : j = c.x.params.length := by unfold ChV.len at hj hjl; omega
              rw [← e0]
              exact HJ.out.1)
            have HB5 : Hid (Below w.heap.size w wr) := HB1.out.trans (HJ.out.2.mono HB1.out.size)
            go_wp2
            go_roundw
            case rel => exact ⟨k + 1, by omega, by go_num, ⟨fair_all HK.out.1 HC.out HF.out, HB5.out⟩⟩
            case measure => simp [intOf]; omega
      · have he : c.x.token.toList.isEmpty = false := mt_no h0
        by_cases hp0 : (0 : Int) < (c.len : Int)
        · go_wp2
          go_ret
          exact ⟨far_no _ _, HB1.out⟩
        · go_wp2_with fail
          refine (trimAll_any c.x.token (by omega) _).mono ?_
          rintro e w3 ⟨t, rfl, HT, hb3⟩
          have b3 : w3.cell? ⟨wr.heap.size, 2, none⟩ = some (.slice ca c.len c.cap) := (hb3.cell (p := ⟨wr.heap.size, 2, none⟩) (by show wr.heap.size < _; omega)).trans b2
          have HB3 : Hid (Below w.heap.size w w3) := HB1.out.trans (hb3.mono HB1.out.size)
          by_cases ht0 : t.size = 0
          · have he2 : t.toList.isEmpty = true := mt_yes ht0
            have HF : Hid (FairC c.x) := fair_of (by omega) (by unfold ChV.len at h16; omega) HI.out (.inr ⟨List.eq_nil_of_length_eq_zero (by unfold ChV.len at hp0; omega), HT.out ht0⟩) (by
              have e0 : c.x.params = [] := List.eq_nil_of_length_eq_zero (by unfold ChV.len at hp0; omega)
              rw [e0]
              exact ⟨fun p hp => (by cases hp), trivial⟩)
            clear hb3
            go_wp2
            refine wp_loop_rounds 1 ?_
            rw [rounds_succ]
            go_wp2
            go_roundw
            case rel => exact ⟨k + 1, by omega, by go_num, ⟨fair_all HK.out.1 HC.out HF.out, HB3.out⟩⟩
            case measure => simp [intOf]; omega
          · have he2 : t.toList.isEmpty = false := mt_no ht0
            clear hb3
            go_wp2
            go_ret
            exact ⟨far_no _ _, HB3.out⟩
    · have HA : Hid (∀ c ∈ cs, FairC c.x) := by
        have := HK.out.1
        rw [List.take_of_length_le (by omega)] at this
        exact this
      go_wp2
      go_ret
      exact ⟨⟨_, rfl, fun _ => ⟨by omega, HA.out⟩⟩, HK.out.2⟩
end Go.Proofs.YtlmfhbffknganaaGreatDoor

/- The law AskBack, walked. -/
namespace Go.Proofs.YtlmfhbffknganaaGreatDoor
open Go.RowKit

theorem fair_W {x : Chal} (h : FairC x) : chW x ≤ 3300 := by
  have h1 := parW_le x.params 100 (fun p hp => by have := h.2.2.2 p hp; omega)
  have h2 : x.params.length * (2 * 100) ≤ 16 * (2 * 100) := Nat.mul_le_mul_right _ h.2.1
  have h3 := h.1
  unfold chW
  omega
theorem fair_prtW (cs : List ChV) (h : ∀ c ∈ cs, FairC c.x) : prtW (xsOf cs) ≤ cs.length * 7000 := by
  induction cs with
  | nil => simp [xsOf, prtW]
  | cons c r ih =>
    have h1 := h c (by simp)
    have h2 := ih (fun d hd => h d (by simp [hd]))
    have h3 := fair_W h1
    have h4 := h1.2.1
    show 2 * chW c.x + 5 * c.x.params.length + 3 + prtW (xsOf r) ≤ _
    rw [List.length_cons, Nat.succ_mul]
    omega
theorem fair_slim {cs : List ChV} (h : ∀ c ∈ cs, FairC c.x) (hl : cs.length ≤ 8) : Slim cs := by
  refine ⟨by omega, fun c hc => ?_, ?_⟩
  · have h1 := h c hc
    have h2 := h1.1
    exact ⟨⟨by have := h1.2.1; omega, fun p hp => by have := h1.2.2.2 p hp; omega⟩, by omega, by omega⟩
  · have h1 := fair_prtW cs h
    have h2 : cs.length * 7000 ≤ 8 * 7000 := Nat.mul_le_mul_right _ hl
    omega
set_option maxRecDepth 100000 in
set_option maxHeartbeats 4000000 in
theorem askBack_walk (a0 : Option Addr) (len cap b off : Nat) (cs : List ChV) (hlen : len ≤ 9223372036854775807) (hr : ∀ c ∈ cs, Room c) (hh : ∀ c ∈ cs, Held c.x) (w : World) (hx : Chals w a0 len b off cs) :
    Calls Tryz.prog 3 #[.slice a0 len cap] w fun e w' => e = .returned (.bool true) ∧ Below w.heap.size w w' := by
  have HX : Hid (Chals w a0 len b off cs) := hx
  have hl := hx.len_eq
  clear hx
  go_enter Tryz.func3, Tryz.ntmps3
  go_wp2_with fail
  refine (asked_any _).mono ?_
  rintro e w1 ⟨rfl, hb1⟩
  go_wp2_with fail
  refine (worded_any _).mono ?_
  rintro e w2 ⟨rfl, hb2⟩
  have HB2 : Hid (Below w.heap.size w w2) := hb1.trans (hb2.mono hb1.size)
  clear hb1 hb2
  go_wp2_with fail
  refine (fair_any cs hh a0 len cap b off hlen hr _ (HX.out.below HB2.out)).mono ?_
  rintro e w3 ⟨⟨r, rfl, hf⟩, hb3⟩
  have HB3 : Hid (Below w.heap.size w w3) := HB2.out.trans (hb3.mono HB2.out.size)
  clear hb3 hr hh
  cases r
  · clear hf
    go_wp2
    go_ret
    exact ⟨rfl, HB3.out⟩
  obtain ⟨h8, hF⟩ := hf rfl
  have HF : Hid (∀ c ∈ cs, FairC c.x) := hF
  have HS : Hid (Slim cs) := fair_slim hF (by omega)
  have HC3 : Hid (Chals w3 a0 len b off cs) := HX.out.below HB3.out
  clear hf hF
  go_wp2_with fail
  refine (print_any cs HS.out a0 len cap b off _ HC3.out).mono ?_
  rintro e w4 ⟨⟨T, hT, hl', rfl⟩ | ⟨k, g', hT, rfl, _⟩, hb4⟩
  · obtain ⟨t, Ht⟩ : ∃ t, Hid (bs T = t) := ⟨_, rfl⟩
    rw [Ht.out]
    have HTL : Hid (t.data.toList = T) := by show _ = _; rw [← Ht.out, bs_data]
    have HAK : Hid (askL T = .ok (xsOf cs)) := ask_print (fun x hx => by obtain ⟨c, hc, rfl⟩ := List.mem_map.1 hx; exact (HF.out c hc).2.2.1) (by rw [xsOf_len]; omega) hT
    have htz : t.size ≤ 8000000 := by
      have h1 := HS.out.2.2
      have h2 : t.size = T.length := by rw [← Ht.out, bs_size]
      omega
    have HB4 : Hid (Below w.heap.size w w4 ∧ Chals w4 a0 len b off cs) := ⟨HB3.out.trans (hb4.mono HB3.out.size), HC3.out.below hb4⟩
    clear hT hl' hb4
    by_cases h3000 : (3000 : Int) < (t.size : Int)
    · go_wp2
      go_ret
      exact ⟨rfl, HB4.out.1⟩
    · go_wp2_with fail
      refine (parse_any t (by omega) _).mono ?_
      rintro e w5 ⟨⟨cs2, v2, k1, k2, k3, rfl, hown2⟩ | ⟨n2, left2, v2, k1, _⟩, hb5⟩
      · obtain ⟨a2, cap2, g2, ds2, rfl, hC2, hx2, _, _⟩ := hown2.chals
        have hxx : xsOf cs = xsOf ds2 := by
          have := HAK.out
          rw [← HTL.out, k1] at this
          rw [hx2]
          exact (Except.ok.inj this).symm
        have hll : cs2.length = len := by
          have e1 := congrArg List.length hxx
          rw [xsOf_len, xsOf_len] at e1
          have e2 := hC2.len_eq
          omega
        rw [hll] at hC2 ⊢
        have heq := equalC_yes cs ds2 hxx (fun c hc => by have := (HF.out c hc).2.1; show c.x.params.length ≤ _; omega) a0 a2 len cap cap2 b off g2 0 (by omega) w5 (HB4.out.2.below hb5) hC2
        have HB5 : Hid (Below w.heap.size w w5) := HB4.out.1.trans (hb5.mono HB4.out.1.size)
        clear k1 k2 k3 hown2 hC2 hx2 hxx hll hb5
        go_wp2_with fail
        refine heq.mono ?_
        rintro e w6 ⟨rfl, hb6⟩
        clear heq
        go_wp2
        go_ret
        exact ⟨rfl, HB5.out.trans (hb6.mono HB5.out.size)⟩
      · have := HAK.out
        rw [← HTL.out, k1] at this
        cases this
  · have HB4 : Hid (Below w.heap.size w w4) := HB3.out.trans (hb4.mono HB3.out.size)
    clear hb4 hT
    go_wp2
    go_ret
    exact ⟨rfl, HB4.out⟩
end Go.Proofs.YtlmfhbffknganaaGreatDoor

/- What came in: no text of it is longer than a machine can hold. -/
namespace Go.Proofs.YtlmfhbffknganaaGreatDoor
open Go.ChangeShapes Go.WideShapes Go.ChangeAt Go.RowKit Go.Joins

theorem laidOutP : laidOutB Tryz.prog = true := by kernel_rfl
theorem weightsAll_mem {H : Type} {P : Program} {e : TypeId} : ∀ {ds : List (DataW H)} {d : DataW H}, d ∈ ds → ∀ n ∈ d.weights P e, n ∈ DataW.weightsAll P e ds
  | d0 :: ds, d, hd, n, hn => by
    rw [DataW.weightsAll, List.mem_append]
    rcases List.mem_cons.1 hd with rfl | h
    · exact .inl hn
    · exact .inr (weightsAll_mem h n hn)
theorem weights_slice {H : Type} {t e : TypeId} (ht : Tryz.prog.underlying t = some (.slice e)) {ds es : List (DataW H)} {d : DataW H} (hd : d ∈ ds) : ∀ n ∈ d.weights Tryz.prog e, n ∈ (DataW.slice ds es).weights Tryz.prog t := by
  intro n hn
  rw [DataW.weights, ht]
  simp only [List.mem_cons, List.mem_append]
  exact .inr (.inl (weightsAll_mem hd n hn))
/-- No text of it is longer than a machine can hold. -/
def Reach {H : Type} (t : TypeId) (d : DataW H) : Prop := ∀ n ∈ d.weights Tryz.prog t, n ≤ 140737488355328
theorem reach_all {H : Type} {ts : List TypeId} {ds : List (DataW H)} (h : (DataW.weightsEach Tryz.prog ts ds).all (· ≤ reachBytes) = true) {j : Nat} {t : TypeId} {d : DataW H} (ht : ts[j]? = some t) (hd : ds[j]? = some d) : Reach t d := fun n hn => by
  have h1 := List.all_eq_true.1 h _ (DataW.weights_mem_each ht hd n hn)
  have h2 : n ≤ reachBytes := of_decide_eq_true h1
  have := reachBytes_lt
  have e3 : (2 : Nat) ^ 47 = 140737488355328 := by decide
  omega
theorem reach_string {H : Type} {t : TypeId} {s : ByteArray} (h : Reach (H := H) t (.lit (.string s.data.toList))) : s.size ≤ 140737488355328 := by
  have := h s.data.toList.length (by simp [DataW.weights])
  rw [Array.length_toList] at this
  exact this
def strOf : Value → ByteArray
  | .string s => s
  | _ => ⟨#[]⟩
end Go.Proofs.YtlmfhbffknganaaGreatDoor

/- Parameters that came in: one, and a row of them. -/
namespace Go.Proofs.YtlmfhbffknganaaGreatDoor
open Go.ChangeShapes Go.WideShapes Go.ChangeAt Go.RowKit Go.Joins

theorem cellsP : Tryz.prog.cellsOf 44 = 2 := by kernel_rfl
section
variable {H : Type} {enc : TypeId × Value → H} {W : World}
theorem open_pars {fuel : Nat} {v : Value} {x : DataW H × List MemPlace} (h : DataW.trod enc Tryz.prog W 0 (fun _ => true) true fuel 32 [v] = some x) :
    ∃ (a0 : Option Addr) (len cap b off : Nat) (ps : List Par), v = .slice a0 len cap ∧ (len ≤ cap ∧ cap ≤ 9223372036854775807) ∧ Pars W a0 len b off ps ∧ (Reach 32 x.1 → ∀ p ∈ ps, p.1.size ≤ 140737488355328 ∧ p.2.size ≤ 140737488355328) := by
  rcases Go.Deep.open_slice_pairs Tryz.underlying32 Tryz.underlying44 cellsP rfl rfl (by kernel_rfl) (by kernel_rfl) h with ⟨hcs, hx⟩ | ⟨a, len, cap, m, n, V0, V1, D0, D1, P0, P1, hcs, _, hl, hm, hmm, hx, hall⟩
  · simp only [List.cons.injEq, and_true] at hcs
    exact ⟨none, 0, 0, 0, 0, [], hcs, ⟨by omega, by omega⟩, ⟨rfl, fun h => absurd h (by omega), (fun j p hp => by simp at hp), (fun j p hp => by simp at hp)⟩, fun _ p hp => by cases hp⟩
  · simp only [List.cons.injEq, and_true] at hcs
    simp only [if_true] at hmm
    obtain rfl := hmm.symm
    unfold maxLen at hm
    have hS : ∀ i, i < len → V0 i = .string (strOf (V0 i)) ∧ V1 i = .string (strOf (V1 i)) ∧ D0 i = .lit (.string (strOf (V0 i)).data.toList) ∧ D1 i = .lit (.string (strOf (V1 i)).data.toList) := fun i hi => by
      obtain ⟨_, _, t0, t1⟩ := hall i (by omega)
      obtain ⟨s0, e0, x0, _⟩ := DataW.trod_string Tryz.underlying9 t0
      obtain ⟨s1, e1, x1, _⟩ := DataW.trod_string Tryz.underlying9 t1
      simp only [List.cons.injEq, and_true] at e0 e1
      simp only [Prod.mk.injEq] at x0 x1
      rw [e0, e1, x0.1, x1.1]
      exact ⟨rfl, rfl, rfl, rfl⟩
    obtain ⟨b, off, spot⟩ := a
    have hget : ∀ (j : Nat) (p : Par), ((List.range len).map fun i => ((strOf (V0 i), strOf (V1 i)) : Par))[j]? = some p → j < len ∧ p = (strOf (V0 j), strOf (V1 j)) := fun j p hp => by
      rw [List.getElem?_map] at hp
      by_cases hj : j < len
      · rw [List.getElem?_range hj] at hp
        simp only [Option.map_some, Option.some.injEq] at hp
        exact ⟨hj, hp.symm⟩
      · rw [List.getElem?_eq_none (by simp; omega)] at hp
        cases hp
    have hspot : 0 < len → spot = none := fun h0 => by simpa [Addr.add] using World.cell?_spot (hall 0 (by omega)).1
    refine ⟨some ⟨b, off, spot⟩, len, cap, b, off, (List.range len).map fun i => (strOf (V0 i), strOf (V1 i)), hcs, ⟨by omega, by omega⟩, ⟨by simp, fun h0 => ?_, fun j p hp => ?_, fun j p hp => ?_⟩, fun hr p hp => ?_⟩
    · obtain rfl := hspot h0
      refine ⟨rfl, ?_⟩
      have hc := (hall 0 (by omega)).1
      rcases Nat.lt_or_ge b W.heap.size with h1 | h1
      · exact h1
      · simp [World.cell?, Addr.add, Array.getElem?_eq_none h1] at hc
    · obtain ⟨hj, rfl⟩ := hget j p hp
      obtain rfl := hspot (by omega)
      rw [← add_plain]
      exact (hall j (by omega)).1.trans (congrArg some (hS j hj).1)
    · obtain ⟨hj, rfl⟩ := hget j p hp
      obtain rfl := hspot (by omega)
      rw [Nat.add_assoc, ← add_plain]
      exact (hall j (by omega)).2.1.trans (congrArg some (hS j hj).2.1)
    · obtain ⟨i, hi, rfl⟩ := List.mem_map.1 hp
      have hi' : i < len := List.mem_range.1 hi
      have hw : ∀ n ∈ (DataW.agg [D0 i, D1 i]).weights Tryz.prog 44, n ≤ 140737488355328 := fun n hn => by
        refine hr n ?_
        rw [hx]
        exact weights_slice Tryz.underlying32 (List.mem_map.2 ⟨i, hi, rfl⟩) n hn
      rw [(hS i hi').2.2.1, (hS i hi').2.2.2] at hw
      have w0 := hw (strOf (V0 i)).data.toList.length (by simp [DataW.weights, DataW.weightsEach, Tryz.underlying44])
      have w1 := hw (strOf (V1 i)).data.toList.length (by simp [DataW.weights, DataW.weightsEach, Tryz.underlying44])
      rw [Array.length_toList] at w0 w1
      exact ⟨w0, w1⟩
set_option maxRecDepth 100000 in
/-- A parameter that came in. -/
theorem open_param {b0 : Nat} {v : Value} {d : DataW H} {p : List MemPlace} (hv : Value.okWide Tryz.prog W .any b0 44 v) (h : DataW.Trod enc Tryz.prog W 0 (fun _ => true) true 44 v d p) :
    ∃ x y : ByteArray, v = .agg #[.string x, .string y] ∧ (Reach 44 d → x.size ≤ 140737488355328 ∧ y.size ≤ 140737488355328) := by
  obtain ⟨c0, c1, y0, y1, m, rfl, rfl, rfl, g0, g1⟩ := open_agg2 Tryz.underlying44 (by kernel_rfl) (by kernel_rfl) hv h
  obtain ⟨s0, e0, rfl, _⟩ := DataW.trod_string Tryz.underlying9 g0
  obtain ⟨s1, e1, rfl, _⟩ := DataW.trod_string Tryz.underlying9 g1
  simp only [List.cons.injEq, and_true] at e0 e1
  subst e0 e1
  refine ⟨s0, s1, rfl, fun hw => ?_⟩
  have w0 := hw s0.data.toList.length (by simp [DataW.weights, DataW.weightsEach, Tryz.underlying44])
  have w1 := hw s1.data.toList.length (by simp [DataW.weights, DataW.weightsEach, Tryz.underlying44])
  rw [Array.length_toList] at w0 w1
  exact ⟨w0, w1⟩
/-- A row of parameters that came in. -/
theorem open_parsT {v : Value} {d : DataW H} {p : List MemPlace} {a0 : Option Addr} {len cap : Nat} (h : DataW.Trod enc Tryz.prog W 0 (fun _ => true) true 32 v d p) (hv : v = .slice a0 len cap) :
    ∃ (b off : Nat) (ps : List Par), (len ≤ cap ∧ cap ≤ 9223372036854775807) ∧ Pars W a0 len b off ps ∧ (Reach 32 d → ∀ q ∈ ps, q.1.size ≤ 140737488355328 ∧ q.2.size ≤ 140737488355328) := by
  subst hv
  obtain ⟨fuel, hf⟩ := h
  obtain ⟨a1, n1, c1, b, off, ps, e, hl, hp, hr⟩ := open_pars (v := .slice a0 len cap) hf
  injection e with e1 e2 e3
  subst e1 e2 e3
  exact ⟨b, off, ps, hl, hp, hr⟩
end
end Go.Proofs.YtlmfhbffknganaaGreatDoor

/- Challenges that came in: opened down to their parameters. -/
namespace Go.Proofs.YtlmfhbffknganaaGreatDoor
open Go.ChangeShapes Go.WideShapes Go.ChangeAt Go.RowKit Go.Joins

theorem cellsC : Tryz.prog.cellsOf 34 = 3 := by kernel_rfl
section
variable {H : Type} {enc : TypeId × Value → H} {W : World}
theorem open_chalOf {n : Nat} {v0 v1 v2 : Value} {y0 y1 y2 : DataW H × List MemPlace} (h0 : DataW.trod enc Tryz.prog W 0 (fun _ => true) true n 9 [v0] = some y0) (h1 : DataW.trod enc Tryz.prog W 0 (fun _ => true) true n 9 [v1] = some y1) (h2 : DataW.trod enc Tryz.prog W 0 (fun _ => true) true n 32 [v2] = some y2) :
    ∃ c : ChV, v0 = .string c.x.scheme ∧ v1 = .string c.x.token ∧ v2 = .slice c.a c.len c.cap ∧ ChOk W c ∧ Room c ∧ (Reach 34 (.agg [y0.1, y1.1, y2.1]) → Held c.x) := by
  obtain ⟨s0, e0, rfl, _⟩ := DataW.trod_string Tryz.underlying9 h0
  obtain ⟨s1, e1, rfl, _⟩ := DataW.trod_string Tryz.underlying9 h1
  obtain ⟨a0, len, cap, b, off, ps, e2, hl, hp, hr⟩ := open_pars h2
  simp only [List.cons.injEq, and_true] at e0 e1
  have hlen := hp.len_eq
  refine ⟨⟨⟨s0, s1, ps⟩, a0, cap, b, off⟩, e0, e1, ?_, ?_, ?_, fun hw => ?_⟩
  · rw [e2, ← hlen]; rfl
  · show Pars W a0 ps.length b off ps
    rw [hlen]; exact hp
  · exact ⟨by show ps.length ≤ cap; omega, hl.2, by show ps.length ≤ _; omega⟩
  · have w0 := hw s0.data.toList.length (by simp [DataW.weights, DataW.weightsEach, Tryz.underlying34])
    have w1 := hw s1.data.toList.length (by simp [DataW.weights, DataW.weightsEach, Tryz.underlying34])
    rw [Array.length_toList] at w0 w1
    refine ⟨w0, w1, hr fun n hn => hw n ?_⟩
    simp [DataW.weights, DataW.weightsEach, Tryz.underlying34]
    exact .inr (.inr hn)
set_option maxRecDepth 100000 in
/-- A challenge that came in. -/
theorem open_chal {b0 : Nat} {v : Value} {d : DataW H} {p : List MemPlace} (hv : Value.okWide Tryz.prog W .any b0 34 v) (h : DataW.Trod enc Tryz.prog W 0 (fun _ => true) true 34 v d p) :
    ∃ c : ChV, v = .agg #[.string c.x.scheme, .string c.x.token, .slice c.a c.len c.cap] ∧ ChOk W c ∧ Room c ∧ (Reach 34 d → Held c.x) := by
  obtain ⟨c0, c1, c2, y0, y1, y2, m, rfl, rfl, rfl, g0, g1, g2⟩ := open_agg3 Tryz.underlying34 (by kernel_rfl) cellsC hv h
  obtain ⟨c, rfl, rfl, rfl, h1, h2, h3⟩ := open_chalOf g0 g1 g2
  exact ⟨c, rfl, h1, h2, h3⟩
end
end Go.Proofs.YtlmfhbffknganaaGreatDoor

/- Rows of challenges that came in: opened down to their parameters. -/
namespace Go.Proofs.YtlmfhbffknganaaGreatDoor
open Go.ChangeShapes Go.WideShapes Go.ChangeAt Go.RowKit Go.Joins

instance : Inhabited ChV := ⟨⟨⟨⟨#[]⟩, ⟨#[]⟩, []⟩, none, 0, 0, 0⟩⟩
section
variable {H : Type} {enc : TypeId × Value → H} {W : World}
set_option maxRecDepth 100000 in
theorem open_chals {fuel : Nat} {v : Value} {x : DataW H × List MemPlace} (h : DataW.trod enc Tryz.prog W 0 (fun _ => true) true fuel 22 [v] = some x) :
    ∃ (a0 : Option Addr) (len cap b off : Nat) (cs : List ChV), v = .slice a0 len cap ∧ len ≤ 9223372036854775807 ∧ Chals W a0 len b off cs ∧ (∀ c ∈ cs, Room c) ∧ (Reach 22 x.1 → ∀ c ∈ cs, Held c.x) := by
  rcases Go.Deep.open_slice Tryz.underlying22 h with ⟨hcs, hx⟩ | ⟨a, len, cap, m, n, D, Pl, hcs, _, hl, hm, hmm, hx, hall⟩
  · simp only [List.cons.injEq, and_true] at hcs
    exact ⟨none, 0, 0, 0, 0, [], hcs, by omega, ⟨rfl, fun h => absurd h (by omega), (fun j p hp => by simp at hp), (fun j p hp => by simp at hp), (fun j p hp => by simp at hp), fun c hc => by cases hc⟩, (fun c hc => by cases hc), fun _ c hc => by cases hc⟩
  · simp only [List.cons.injEq, and_true] at hcs
    simp only [if_true] at hmm
    obtain rfl := hmm.symm
    unfold maxLen at hm
    rw [cellsC] at hall
    have each : ∀ i, i < cap → ∃ c : ChV, W.cell? (a.add (i * 3)) = some (.string c.x.scheme) ∧ W.cell? (a.add (i * 3 + 1)) = some (.string c.x.token) ∧ W.cell? (a.add (i * 3 + 2)) = some (.slice c.a c.len c.cap) ∧ ChOk W c ∧ Room c ∧ (Reach 34 (D i) → Held c.x) := fun i hi => by
      obtain ⟨cs', h1, h2⟩ := hall i hi
      obtain ⟨_, hlen, hcell⟩ := World.cells?_some h1
      obtain ⟨y0, y1, y2, k, hxy, _, g0, g1, g2⟩ := Go.Deep.trod_struct3 Tryz.underlying34 h2
      match cs', hlen with
      | [v0, v1, v2], _ =>
        have c9 : Tryz.prog.cellsOf 9 = 1 := by kernel_rfl
        have cP : Tryz.prog.cellsOf 32 = 1 := by kernel_rfl
        simp [c9, cP] at g0 g1 g2
        obtain ⟨c, rfl, rfl, rfl, k1, k2, k3⟩ := open_chalOf g0 g1 g2
        simp only [Prod.mk.injEq] at hxy
        have e0 := hcell 0 (by omega)
        have e1 := hcell 1 (by omega)
        have e2 := hcell 2 (by omega)
        rw [Go.Deep.add_add] at e0 e1 e2
        exact ⟨c, by simpa using e0, by simpa using e1, by simpa using e2, k1, k2, fun hr => k3 (by rw [← hxy.1]; exact hr)⟩
    obtain ⟨C, hC⟩ := Go.Deep.choose_lt each
    obtain ⟨b, off, spot⟩ := a
    have hget : ∀ (j : Nat) (c : ChV), ((List.range len).map C)[j]? = some c → j < len ∧ c = C j := fun j p hp => by
      rw [List.getElem?_map] at hp
      by_cases hj : j < len
      · rw [List.getElem?_range hj] at hp
        simp only [Option.map_some, Option.some.injEq] at hp
        exact ⟨hj, hp.symm⟩
      · rw [List.getElem?_eq_none (by simp; omega)] at hp
        cases hp
    have hspot : 0 < len → spot = none := fun h0 => by simpa [Addr.add] using World.cell?_spot (hC 0 (by omega)).1
    refine ⟨some ⟨b, off, spot⟩, len, cap, b, off, (List.range len).map C, hcs, by omega, ⟨by simp, fun h0 => ?_, fun j c hc => ?_, fun j c hc => ?_, fun j c hc => ?_, fun c hc => ?_⟩, fun c hc => ?_, fun hr c hc => ?_⟩
    · obtain rfl := hspot h0
      refine ⟨rfl, ?_⟩
      have hc := (hC 0 (by omega)).1
      rcases Nat.lt_or_ge b W.heap.size with h1 | h1
      · exact h1
      · simp [World.cell?, Addr.add, Array.getElem?_eq_none h1] at hc
    · obtain ⟨hj, rfl⟩ := hget j c hc
      obtain rfl := hspot (by omega)
      rw [← add_plain]
      exact (hC j (by omega)).1
    · obtain ⟨hj, rfl⟩ := hget j c hc
      obtain rfl := hspot (by omega)
      rw [Nat.add_assoc, ← add_plain]
      exact (hC j (by omega)).2.1
    · obtain ⟨hj, rfl⟩ := hget j c hc
      obtain rfl := hspot (by omega)
      rw [Nat.add_assoc, ← add_plain]
      exact (hC j (by omega)).2.2.1
    · obtain ⟨i, hi, rfl⟩ := List.mem_map.1 hc
      exact (hC i (by have := List.mem_range.1 hi; omega)).2.2.2.1
    · obtain ⟨i, hi, rfl⟩ := List.mem_map.1 hc
      exact (hC i (by have := List.mem_range.1 hi; omega)).2.2.2.2.1
    · obtain ⟨i, hi, rfl⟩ := List.mem_map.1 hc
      refine (hC i (by have := List.mem_range.1 hi; omega)).2.2.2.2.2 fun n hn => hr n ?_
      rw [hx]
      exact weights_slice Tryz.underlying22 (List.mem_map.2 ⟨i, hi, rfl⟩) n hn
/-- A row of challenges that came in. -/
theorem open_chalsT {v : Value} {d : DataW H} {p : List MemPlace} {a : Option Addr} {n k : Nat} (h : DataW.Trod enc Tryz.prog W 0 (fun _ => true) true 22 v d p) (hv : v = .slice a n k) :
    ∃ (b off : Nat) (cs : List ChV), n ≤ 9223372036854775807 ∧ Chals W a n b off cs ∧ (∀ c ∈ cs, Room c) ∧ (Reach 22 d → ∀ c ∈ cs, Held c.x) := by
  subst hv
  obtain ⟨fuel, hf⟩ := h
  obtain ⟨a0, len, cap, b, off, cs, e, h1, h2, h3, h4⟩ := open_chals (v := .slice a n k) (by simpa [Value.cells] using hf)
  injection e with e1 e2 e3
  subst e1 e2 e3
  exact ⟨b, off, cs, h1, h2, h3, h4⟩
end
end Go.Proofs.YtlmfhbffknganaaGreatDoor
