/- The reader's parameters, by the program. -/
import Derived.Test.YtooaiamfbmjmnaaGreatDoorRdp
import Derived.Test.YtooaiamfbmjmnaaGreatDoorAppP
import Derived.Deep.Onto
namespace Go.Proofs.YtooaiamfbmjmnaaGreatDoor
open Go.RowKit

/-- Names and values that are not too long. -/
def Small (ps : List Par) : Prop := ps.length ≤ 16 ∧ ∀ p ∈ ps, p.1.size ≤ 3000 ∧ p.2.size ≤ 3000
theorem small_snoc {ps : List Par} {p : Par} (h : Small ps) (hl : ps.length < 16) (h1 : p.1.size ≤ 3000) (h2 : p.2.size ≤ 3000) : Small (ps ++ [p]) := by
  refine ⟨by simp; omega, fun q hq => ?_⟩
  rcases List.mem_append.1 hq with hq | hq
  · exact h.2 q hq
  · rw [List.mem_singleton.1 hq]; exact ⟨h1, h2⟩
theorem param_few {acc : List Par} {r u : List UInt8} {p : Par} (h : paramL acc r = .ok (p, u)) : acc.length < 16 := by
  unfold paramL at h
  rcases hn : nameL r with _ | ⟨n, t⟩
  · rw [hn] at h; cases h
  · rw [hn] at h
    rcases hv : valueL (t.dropWhile blankB) with _ | ⟨v, u'⟩
    · simp only [hv] at h; cases h
    · simp only [hv] at h
      split at h
      · cases h
      · split at h
        · cases h
        · omega
/-- What the reader's params answers. -/
def ParsAns (b : Nat) (s : ByteArray) (r : List UInt8) (B : Nat) (e : Ending) (w' : World) : Prop :=
  (∃ (ps : List Par) (u : List UInt8) (v : Value), paramsL (r.length + 1) [] r = .ok (ps, u) ∧ Small ps ∧ e = .returned (.tuple #[v, .nilIface]) ∧ OwnP w' B v ps ∧ CurR w' b s u) ∨
  (∃ (n left : Nat) (v : Value), paramsL (r.length + 1) [] r = .error (n, left) ∧ e = .returned (.tuple #[.slice none 0 0, v]) ∧ IsAt w' v B n ((s.size - left : Nat) : Int))
/-- What is known at the loop's head. -/
def PsAt (r : List UInt8) (more : Bool) (acc : List Par) (r' : List UInt8) : Prop :=
  match more with
  | true => ∃ f, r'.length < f ∧ paramsL (r.length + 1) [] r = paramsL f acc r'
  | false => paramsL (r.length + 1) [] r = .ok (acc, r')
theorem psAt_err {r r' : List UInt8} {acc : List Par} {x : Nat × Nat} (h : PsAt r true acc r') (hp : paramL acc r' = .error x) : paramsL (r.length + 1) [] r = .error x := by
  obtain ⟨f, hf, e⟩ := h
  obtain ⟨g, rfl⟩ : ∃ g, f = g + 1 := ⟨f - 1, by omega⟩
  rw [e, paramsL, hp]
theorem psAt_bad {r r' u : List UInt8} {acc : List Par} {p : Par} (h : PsAt r true acc r') (hp : paramL acc r' = .ok (p, u)) (hs : stopsL (u.dropWhile blankB) = false) : paramsL (r.length + 1) [] r = .error (3, (u.dropWhile blankB).length) := by
  obtain ⟨f, hf, e⟩ := h
  obtain ⟨g, rfl⟩ : ∃ g, f = g + 1 := ⟨f - 1, by omega⟩
  rw [e, paramsL, hp]
  simp only [hs]
  rfl
theorem psAt_next {r r' u : List UInt8} {acc : List Par} {p : Par} (h : PsAt r true acc r') (hp : paramL acc r' = .ok (p, u)) (hs : stopsL (u.dropWhile blankB) = true) : PsAt r (nameL ((u.dropWhile blankB).dropWhile gapB)).isSome (acc ++ [p]) ((u.dropWhile blankB).dropWhile gapB) := by
  obtain ⟨f, hf, e⟩ := h
  obtain ⟨g, rfl⟩ : ∃ g, f = g + 1 := ⟨f - 1, by omega⟩
  have e2 : paramsL (g + 1) acc r' = if (nameL ((u.dropWhile blankB).dropWhile gapB)).isSome then paramsL g (acc ++ [p]) ((u.dropWhile blankB).dropWhile gapB) else .ok (acc ++ [p], (u.dropWhile blankB).dropWhile gapB) := by
    rw [paramsL, hp]
    simp only [hs, if_true]
  rw [e2] at e
  have h1 := paramL_len _ _ _ _ hp
  have h2 := dw_len blankB u
  have h3 := dw_len gapB (u.dropWhile blankB)
  cases hn : (nameL ((u.dropWhile blankB).dropWhile gapB)).isSome
  · rw [hn] at e
    exact e
  · rw [hn] at e
    exact ⟨g, by omega, e⟩
theorem next_len {r' u : List UInt8} {acc : List Par} {p : Par} (hp : paramL acc r' = .ok (p, u)) : ((u.dropWhile blankB).dropWhile gapB).length < r'.length := by
  have h1 := paramL_len _ _ _ _ hp
  have h2 := dw_len blankB u
  have h3 := dw_len gapB (u.dropWhile blankB)
  omega
theorem grown_other {w0 w w' : World} {b : Nat} {row : Option Nat} (h : w0.grownBy w (some b)) (hg : w.grownBy w' row) (hrow : ∀ k, row = some k → w0.heap.size ≤ k) : w0.grownBy w' (some b) :=
  ⟨hg.os.trans h.os, hg.tape.trans h.tape, hg.output.trans h.output, Nat.le_trans h.size hg.size, fun i hi hr => (hg.block i (Nat.lt_of_lt_of_le hi h.size) (fun e => by have := hrow i e.symm; omega)).trans (h.block i hi hr)⟩
set_option maxRecDepth 100000 in
set_option maxHeartbeats 4000000 in
theorem params_any (b : Nat) (s : ByteArray) (hs : s.size ≤ 3000) (r : List UInt8) (w : World) (hc : CurR w b s r) :
    Calls Tryz.prog 93 #[.agg #[.pointer (some ⟨b, 0, none⟩), .string s]] w fun e w' => ParsAns b s r w.heap.size e w' ∧ w.grownBy w' (some b) := by
  have hbl := hc.lt
  have hB1 : Below w.heap.size w (w.alloc (.cells #[.pointer (some ⟨b, 0, none⟩), .string s] 79)) := (Below.refl _ _).alloc (Nat.le_refl _) _
  have hne : some w.heap.size ≠ some b := by intro e; injection e with e; omega
  generalize hW0 : (w.alloc (.cells #[.pointer (some ⟨b, 0, none⟩), .string s] 79)) = W0 at hB1
  have HBT : Hid (∀ w', W0.grownBy w' (some b) → w'.cell? ⟨w.heap.size, 0, none⟩ = some (.pointer (some ⟨b, 0, none⟩)) ∧ w'.cell? ⟨w.heap.size, 1, none⟩ = some (.string s)) := fun w' hg => box_reader (by rw [hW0]; exact hg) hne
  have HC1 : Hid (CurR W0 b s r ∧ w.grownBy W0 (some b) ∧ W0.heap.size = w.heap.size + 1) := ⟨hc.below hB1, grown_below hB1 _, by rw [← hW0]; simp⟩
  clear hc hB1
  go_enter Tryz.func93, Tryz.ntmps93
  go_wp2
  clear hW0
  go_loopg [4, 5] (r.length + 1) (fun gh v m wr => ∃ (more : Bool) (acc : List Par) (a : Option Addr) (n cap : Nat) (r' : List UInt8), (if more then r'.length + 1 else 0) ≤ gh ∧ v = .slice a n cap ∧ n ≤ 16 ∧ m = .bool more ∧ Hid (n = acc.length ∧ PsAt r more acc r' ∧ Small acc ∧ OwnP wr (w.heap.size + 1) (.slice a n cap) acc ∧ CurR wr b s r' ∧ W0.grownBy wr (some b)))
  case atStart => exact ⟨true, [], none, 0, 0, r, by simp, rfl, by omega, rfl, ⟨rfl, ⟨r.length + 1, by omega, rfl⟩, ⟨by simp, fun p hp => by cases hp⟩, ownP_nil _ _, HC1.out.1, grown_drewN _ 0 _⟩⟩
  case round =>
    obtain ⟨more, acc, a, n, cap, r', hgh, rfl, hn, rfl, HI⟩ := hrel
    cases more
    · have HA : Hid (paramsL (r.length + 1) [] r = .ok (acc, r')) := HI.out.2.1
      go_wp2
      go_ret2
      exact ⟨.inl ⟨acc, r', _, HA, HI.out.2.2.1, rfl, World.ownsRow.mono HI.out.2.2.2.1 (by omega), HI.out.2.2.2.2.1⟩, grown_trans HC1.out.2.1 HI.out.2.2.2.2.2⟩
    · obtain ⟨hx0, hx1⟩ := HBT.out wr HI.out.2.2.2.2.2
      obtain ⟨a', cap', g, hv, hP, hBg⟩ := HI.out.2.2.2.1.pars
      injection hv with hv1 hv2 hv3
      subst hv1 hv3
      have HP : Hid (Pars wr a n g 0 acc ∧ (0 < n → g ≠ b)) := by rw [HI.out.1]; exact ⟨hP, fun h => by have := hBg h; omega⟩
      clear hP hBg hv2
      go_wp2_with fail
      refine (param_any b s hs r' acc (fun p hp => (HI.out.2.2.1.2 p hp).1) a n cap g 0 (by omega) _ HI.out.2.2.2.2.1 HP.out.1 HP.out.2).mono ?_
      rintro e w2 ⟨hpa, hg2⟩
      have HG2 : Hid (W0.grownBy w2 (some b) ∧ OwnP w2 (w.heap.size + 1) (.slice a n cap) acc) := ⟨grown_trans HI.out.2.2.2.2.2 hg2, HI.out.2.2.2.1.grown hg2 (by omega)⟩
      have hwz : w.heap.size + 1 ≤ w2.heap.size := by have := HG2.out.1.size; have := HC1.out.2.2; omega
      have HWR : Hid (w.heap.size ≤ wr.heap.size) := by have := HI.out.2.2.2.2.2.size; have := HC1.out.2.2; show _ ≤ _; omega
      clear hg2 hx0 hx1
      rcases hpa with ⟨p, u, hpl, hp1, hp2, rfl, hc2⟩ | ⟨en, left, ev, hpl, rfl, hat⟩
      · have HPL : Hid (paramL acc r' = .ok (p, u)) := hpl
        have hacc16 : n < 16 := by have := param_few hpl; have := HI.out.1; omega
        have HS2 : Hid (Small (acc ++ [p])) := small_snoc HI.out.2.2.1 (param_few hpl) hp1 hp2
        have hb3 : Below w2.heap.size w2 (w2.alloc (.cells #[.string p.1, .string p.2] 31)) := (Below.refl _ _).alloc (Nat.le_refl _) _
        have HG3 : Hid (W0.grownBy (w2.alloc (.cells #[.string p.1, .string p.2] 31)) (some b) ∧ OwnP (w2.alloc (.cells #[.string p.1, .string p.2] 31)) (w.heap.size + 1) (.slice a n cap) acc ∧ CurR (w2.alloc (.cells #[.string p.1, .string p.2] 31)) b s u) := ⟨grown_trans HG2.out.1 (grown_below hb3 _), HG2.out.2.below hb3, hc2.below hb3⟩
        clear hpl hc2 hb3
        go_wp2_with (at_builtin; refine wp_appp rfl _ _ rfl (w.heap.size + 1) (w2.alloc (.cells #[.string p.1, .string p.2] 31)) (.slice a n cap) acc n rfl HG3.out.2.1 HI.out.1.symm (by omega) (by simp; omega) p (w2.heap.size + 1) (by simp) rfl ?_; intro g4 cap4 w4 hown4 hg4 hlt4; have HO4 : Hid (OwnP w4 (w.heap.size + 1) (.slice (some ⟨g4, 0, none⟩) (n + 1) cap4) (acc ++ [p]) ∧ CurR w4 b s u ∧ W0.grownBy w4 (some b)) := ⟨hown4, (HG3.out.2.2.below ((Below.refl _ _).alloc (Nat.le_refl _) _)).grown hg4 (fun e => by have := (HG3.out.2.1.lt _ e.symm).1; omega), grown_other (grown_trans HG3.out.1 (grown_alloc _ _ _)) hg4 (fun k e => by have := (HG3.out.2.1.lt _ e).1; have := HC1.out.2.2; omega)⟩; clear hown4 hg4 hlt4; obtain ⟨hy0, hy1⟩ := HBT.out w4 HO4.out.2.2)
        refine (rd_blanks b s hs u _ HO4.out.2.1).mono ?_
        rintro e w5 ⟨rfl, hc5, hg5⟩
        have HO5 : Hid (OwnP w5 (w.heap.size + 1) (.slice (some ⟨g4, 0, none⟩) (n + 1) cap4) (acc ++ [p]) ∧ CurR w5 b s (u.dropWhile blankB) ∧ W0.grownBy w5 (some b)) := ⟨HO4.out.1.grown hg5 (by omega), hc5, grown_trans HO4.out.2.2 hg5⟩
        clear hc5 hg5 HO4 hy0 hy1
        obtain ⟨hy0, hy1⟩ := HBT.out w5 HO5.out.2.2
        go_wp2_with fail
        refine (over_at b s _ _ HO5.out.2.1).mono ?_
        rintro e w6 ⟨rfl, hc6, hg6⟩
        have HO6 : Hid (OwnP w6 (w.heap.size + 1) (.slice (some ⟨g4, 0, none⟩) (n + 1) cap4) (acc ++ [p]) ∧ CurR w6 b s (u.dropWhile blankB) ∧ W0.grownBy w6 (some b)) := ⟨HO5.out.1.grown hg6 (by omega), hc6, grown_trans HO5.out.2.2 hg6⟩
        clear hc6 hg6 HO5 hy0 hy1
        obtain ⟨hy0, hy1⟩ := HBT.out w6 HO6.out.2.2
        have HW6 : Hid (w.heap.size ≤ w6.heap.size) := by have := HO6.out.2.2.size; have := HC1.out.2.2; show _ ≤ _; omega
        cases hst : stopsL (u.dropWhile blankB)
        · have HA : Hid (paramsL (r.length + 1) [] r = .error (3, (u.dropWhile blankB).length)) := psAt_bad HI.out.2.1 HPL.out hst
          have hat := rd_at b s _ _ HO6.out.2.1
          obtain ⟨k, HK⟩ : ∃ k, Hid (s.size - (u.dropWhile blankB).length = k) := ⟨_, rfl⟩
          rw [HK.out] at hat
          go_wp2_with (go_at_call 88; refine hat.mono ?_; rintro e w1 ⟨rfl, hw1⟩; obtain rfl := hw1.symm; clear hw1 hat)
          refine (wrong_any 3 k _).mono ?_
          rintro e w7 ⟨⟨g, rfl, hg0, hg1, hgB, hgl⟩, hbw⟩
          have HAT : Hid (IsAt w7 (.iface 115 (.pointer (some ⟨g, 0, none⟩))) w6.heap.size 3 k) := ⟨g, rfl, hg0, hg1, hgB, hgl⟩
          have HG7 : Hid (w.grownBy w7 (some b)) := grown_trans HC1.out.2.1 (grown_trans HO6.out.2.2 (grown_below hbw _))
          clear hg0 hg1 hbw
          go_wp2
          go_ret2
          exact ⟨.inr ⟨3, _, _, HA, rfl, by rw [HK.out]; exact HAT.out.mono HW6.out⟩, HG7⟩
        · have HN : Hid (PsAt r (nameL ((u.dropWhile blankB).dropWhile gapB)).isSome (acc ++ [p]) ((u.dropWhile blankB).dropWhile gapB)) := psAt_next HI.out.2.1 HPL.out hst
          have HNL : Hid (((u.dropWhile blankB).dropWhile gapB).length < r'.length) := next_len HPL.out
          clear hst
          go_wp2_with fail
          refine (gaps_any b s hs _ _ HO6.out.2.1).mono ?_
          rintro e w7 ⟨rfl, hc7, hg7⟩
          have HO7 : Hid (OwnP w7 (w.heap.size + 1) (.slice (some ⟨g4, 0, none⟩) (n + 1) cap4) (acc ++ [p]) ∧ CurR w7 b s ((u.dropWhile blankB).dropWhile gapB) ∧ W0.grownBy w7 (some b)) := ⟨HO6.out.1.grown hg7 (by omega), hc7, grown_trans HO6.out.2.2 hg7⟩
          clear hc7 hg7 HO6 hy0 hy1 HW6
          obtain ⟨hy0, hy1⟩ := HBT.out w7 HO7.out.2.2
          go_wp2_with fail
          refine (nameAhead_any b s hs _ _ HO7.out.2.1).mono ?_
          rintro e w8 ⟨rfl, hc8, hg8⟩
          have HO8 : Hid (OwnP w8 (w.heap.size + 1) (.slice (some ⟨g4, 0, none⟩) (n + 1) cap4) (acc ++ [p]) ∧ CurR w8 b s ((u.dropWhile blankB).dropWhile gapB) ∧ W0.grownBy w8 (some b)) := ⟨HO7.out.1.grown hg8 (by omega), hc8, grown_trans HO7.out.2.2 hg8⟩
          clear hc8 hg8 HO7 hy0 hy1
          obtain ⟨m, HM⟩ : ∃ m, Hid ((nameL ((u.dropWhile blankB).dropWhile gapB)).isSome = m) := ⟨_, rfl⟩
          rw [HM.out] at HN ⊢
          have HGH : Hid (r'.length + 1 ≤ gk) := by show _ ≤ _; simpa using hgh
          go_wp2
          go_roundg (((u.dropWhile blankB).dropWhile gapB).length + 1)
          case measure => have := HNL.out; have := HGH.out; omega
          case rel => exact ⟨m, acc ++ [p], _, n + 1, cap4, _, by split <;> omega, rfl, by omega, rfl, ⟨by rw [List.length_append, ← HI.out.1]; rfl, HN.out, HS2.out, HO8.out.1, HO8.out.2.1, HO8.out.2.2⟩⟩
      · have HA : Hid (paramsL (r.length + 1) [] r = .error (en, left)) := psAt_err HI.out.2.1 hpl
        obtain ⟨eg, rfl, eg0, eg1, egB, egl⟩ := hat
        have HAT : Hid (IsAt w2 (.iface 115 (.pointer (some ⟨eg, 0, none⟩))) wr.heap.size en ((s.size - left : Nat) : Int)) := ⟨eg, rfl, eg0, eg1, egB, egl⟩
        clear hpl eg0 eg1
        go_wp2
        go_ret2
        exact ⟨.inr ⟨en, left, _, HA, rfl, (HAT.out.below ((Below.refl _ _).alloc (Nat.le_refl _) _)).mono HWR.out⟩, grown_trans HC1.out.2.1 (grown_trans HG2.out.1 (grown_alloc _ _ _))⟩
end Go.Proofs.YtooaiamfbmjmnaaGreatDoor
