/- A header's challenges, by the program. -/
import Derived.Test.YtooaiamfbmjmnaaGreatDoorRch
import Derived.Test.YtooaiamfbmjmnaaGreatDoorAppC
import Derived.Test.YtooaiamfbmjmnaaGreatDoorDra
namespace Go.Proofs.YtooaiamfbmjmnaaGreatDoor
open Go.RowKit

theorem gap_twice (l : List UInt8) : (l.dropWhile gapB).dropWhile gapB = l.dropWhile gapB := by
  induction l with
  | nil => rfl
  | cons c t ih =>
    by_cases h : gapB c = true
    · rw [List.dropWhile_cons_of_pos h, ih]
    · rw [List.dropWhile_cons_of_neg h, List.dropWhile_cons_of_neg h]
/-- Challenges as they are read. -/
def Slight (c : ChV) : Prop := Small c.x.params ∧ c.x.scheme.size ≤ 3000 ∧ c.x.token.size ≤ 3000
/-- What is known at the loop's head. -/
def PrAt (l : List UInt8) (acc : List Chal) (g : List UInt8) : Prop := (∃ f, g.length < f ∧ askL l = parseL f acc g) ∧ g.dropWhile gapB = g
theorem prAt_end {l : List UInt8} {acc : List Chal} (h : PrAt l acc []) : askL l = .ok acc := by
  obtain ⟨⟨f, hf, e⟩, _⟩ := h
  obtain ⟨g, rfl⟩ : ∃ g, f = g + 1 := ⟨f - 1, by omega⟩
  rw [e, parseL]
  rfl
theorem prAt_err {l g : List UInt8} {acc : List Chal} {x : Nat × Nat} (h : PrAt l acc g) (hg : g ≠ []) (hc : chalL acc.length g = .error x) : askL l = .error x := by
  obtain ⟨⟨f, hf, e⟩, hgg⟩ := h
  obtain ⟨f', rfl⟩ : ∃ f', f = f' + 1 := ⟨f - 1, by omega⟩
  rw [e, parseL, hgg, if_neg hg, hc]
theorem prAt_next {l g u : List UInt8} {acc : List Chal} {x : Chal} (h : PrAt l acc g) (hg : g ≠ []) (hc : chalL acc.length g = .ok (x, u)) : PrAt l (acc ++ [x]) (u.dropWhile gapB) := by
  obtain ⟨⟨f, hf, e⟩, hgg⟩ := h
  obtain ⟨f', rfl⟩ : ∃ f', f = f' + 1 := ⟨f - 1, by omega⟩
  have hl := chalL_len _ _ _ _ hc
  have e2 : parseL (f' + 1) acc g = parseL f' (acc ++ [x]) u := by rw [parseL, hgg, if_neg hg, hc]
  rw [e2] at e
  have hf' : u.length < f' := by omega
  obtain ⟨f2, rfl⟩ : ∃ f2, f' = f2 + 1 := ⟨f' - 1, by omega⟩
  have e3 : parseL (f2 + 1) (acc ++ [x]) u = parseL (f2 + 1) (acc ++ [x]) (u.dropWhile gapB) := by rw [parseL, parseL, gap_twice]
  exact ⟨⟨f2 + 1, by have := dw_len gapB u; omega, e.trans e3⟩, gap_twice u⟩
theorem prAt_start (l : List UInt8) : PrAt l [] (l.dropWhile gapB) := by
  refine ⟨⟨l.length + 1, by have := dw_len gapB l; omega, ?_⟩, gap_twice l⟩
  unfold askL
  rw [parseL, parseL, gap_twice]
theorem chal_few {ahead : Nat} {r u : List UInt8} {x : Chal} (h : chalL ahead r = .ok (x, u)) : ahead < 8 := by
  unfold chalL at h
  split at h
  · cases h
  · split at h
    · cases h
    · omega
/-- What Parse answers. -/
def PsrAns (s : ByteArray) (B : Nat) (e : Ending) (w' : World) : Prop :=
  (∃ (cs : List ChV) (v : Value), askL s.data.toList = .ok (xsOf cs) ∧ cs.length ≤ 8 ∧ (∀ c ∈ cs, Slight c) ∧ e = .returned (.tuple #[v, .nilIface]) ∧ OwnC w' B v cs) ∨
  (∃ (n left : Nat) (v : Value), askL s.data.toList = .error (n, left) ∧ e = .returned (.tuple #[.slice none 0 0, v]) ∧ IsAt w' v B n ((s.size - left : Nat) : Int))
theorem parse_long (s : ByteArray) (hs : 3000 < s.size) (w : World) :
    Calls Tryz.prog 20 #[.string s] w fun e w' => e = .returned (.tuple #[.slice none 0 0, .iface 41 (.int .i64 4)]) ∧ w' = w := by
  have hs' : (3000 : Int) < (s.size : Int) := by omega
  go_enter Tryz.func20, Tryz.ntmps20
  go_wp2
  go_ret2
  exact ⟨rfl, rfl⟩
theorem xsOf_snoc (cs : List ChV) (c : ChV) : xsOf (cs ++ [c]) = xsOf cs ++ [c.x] := by unfold xsOf; simp
theorem xsOf_len (cs : List ChV) : (xsOf cs).length = cs.length := by unfold xsOf; simp
set_option maxRecDepth 100000 in
set_option maxHeartbeats 4000000 in
theorem parse_any (s : ByteArray) (hs : s.size ≤ 3000) (w : World) :
    Calls Tryz.prog 20 #[.string s] w fun e w' => PsrAns s (w.heap.size + 1) e w' ∧ Below w.heap.size w w' := by
  have hs' : ¬ (3000 : Int) < (s.size : Int) := by omega
  go_enter Tryz.func20, Tryz.ntmps20
  go_wp2_with (go_at_call 50; refine (on_any s _).mono ?_; rintro e w1 ⟨rfl, hc1, hb1, hz1⟩)
  have hb2 : Below w1.heap.size w1 (w1.alloc (.cells #[.pointer (some ⟨w.heap.size, 0, none⟩), .string s] 79)) := (Below.refl _ _).alloc (Nat.le_refl _) _
  have hbox : ∀ j v, #[Value.pointer (some ⟨w.heap.size, 0, none⟩), .string s][j]? = some v → (w1.alloc (.cells #[.pointer (some ⟨w.heap.size, 0, none⟩), .string s] 79)).cell? ⟨w1.heap.size, j, none⟩ = some v := fun j v hv => (World.cell?_alloc_mark _ _ _ _ _).trans hv
  have hc2 : CurR w1 w.heap.size s s.data.toList := ⟨by rw [len_data, Nat.sub_self]; exact hc1, List.suffix_refl _⟩
  have hz2 : (w1.alloc (.cells #[.pointer (some ⟨w.heap.size, 0, none⟩), .string s] 79)).heap.size = w1.heap.size + 1 := by simp
  generalize hW2 : w1.alloc (.cells #[.pointer (some ⟨w.heap.size, 0, none⟩), .string s] 79) = W2 at hb2 hbox hz2 ⊢
  have HC2 : Hid (CurR W2 w.heap.size s s.data.toList ∧ Below w.heap.size w W2 ∧ W2.heap.size = w1.heap.size + 1) := ⟨hc2.below hb2, hb1.trans (hb2.mono hb1.size), hz2⟩
  have HBT : Hid (∀ w', W2.grownBy w' (some w.heap.size) → w'.cell? ⟨w1.heap.size, 0, none⟩ = some (.pointer (some ⟨w.heap.size, 0, none⟩)) ∧ w'.cell? ⟨w1.heap.size, 1, none⟩ = some (.string s)) := fun w' hg => ⟨hg.cell (hbox 0 _ rfl) (by intro e; injection e with e; have e' : w1.heap.size = w.heap.size := e; omega), hg.cell (hbox 1 _ rfl) (by intro e; injection e with e; have e' : w1.heap.size = w.heap.size := e; omega)⟩
  have HBL : Hid (∀ w', W2.grownBy w' (some w.heap.size) → Below w.heap.size w w') := fun w' hg => HC2.out.2.1.grown hg HC2.out.2.1.size (fun i hi => by injection hi with hi; omega)
  clear hc1 hb1 hb2 hbox hc2 hz2 hW2
  refine (gaps_any w.heap.size s hs _ _ HC2.out.1).mono ?_
  rintro e w3 ⟨rfl, hc3, hg3⟩
  have HC3 : Hid (CurR w3 w.heap.size s (s.data.toList.dropWhile gapB) ∧ W2.grownBy w3 (some w.heap.size)) := ⟨hc3, hg3⟩
  clear hc3 hg3
  go_wp2
  go_loopg [4] (s.data.toList.dropWhile gapB).length (fun gh v wr => ∃ (cs : List ChV) (a : Option Addr) (n cap : Nat) (g : List UInt8), g.length = gh ∧ v = .slice a n cap ∧ n ≤ 8 ∧ Hid (n = cs.length ∧ PrAt s.data.toList (xsOf cs) g ∧ (∀ c ∈ cs, Slight c) ∧ OwnC wr W2.heap.size (.slice a n cap) cs ∧ CurR wr w.heap.size s g ∧ W2.grownBy wr (some w.heap.size)))
  case atStart => exact ⟨[], none, 0, 0, _, rfl, rfl, by omega, ⟨rfl, prAt_start _, fun c hc => (by cases hc), ownC_nil _ _, HC3.out.1, HC3.out.2⟩⟩
  case round =>
    obtain ⟨cs, a, n, cap, g, hgl, rfl, hn, HI⟩ := hrel
    have hwz : w1.heap.size + 1 ≤ wr.heap.size := by have := HI.out.2.2.2.2.2.size; have := HC2.out.2.2; omega
    obtain ⟨hx0, hx1⟩ := HBT.out wr HI.out.2.2.2.2.2
    by_cases hg0 : g = []
    · have HA : Hid (askL s.data.toList = .ok (xsOf cs)) := by
        have := HI.out.2.1
        rw [hg0] at this
        exact prAt_end this
      have HE : Hid (g.isEmpty = true) := by show _ = _; rw [hg0]; rfl
      clear hg0
      go_wp2_with fail
      refine (rd_end w.heap.size s g _ HI.out.2.2.2.2.1).mono ?_
      rintro e w4 ⟨rfl, q, rfl⟩
      rw [HE.out]
      go_wp2
      go_ret2
      exact ⟨.inl ⟨cs, _, HA, by have := HI.out.1; omega, HI.out.2.2.1, rfl, ⟨World.ownsRow.mono (HI.out.2.2.2.1.below (drewN_at (Below.refl _ _) _)).1 (by have := HC2.out.2.2; omega), fun c hc => World.ownsRow.mono ((HI.out.2.2.2.1.below (drewN_at (Below.refl _ _) _)).2 c hc) (by have := HC2.out.2.2; omega)⟩⟩, drewN_at (HBL.out _ HI.out.2.2.2.2.2) _⟩
    · have HE : Hid (g.isEmpty = false) := by
        show _ = _
        cases g with
        | nil => exact absurd rfl hg0
        | cons x y => rfl
      have HG0 : Hid (g ≠ []) := hg0
      clear hg0
      go_wp2_with fail
      refine (rd_end w.heap.size s g _ HI.out.2.2.2.2.1).mono ?_
      rintro e w4 ⟨rfl, q, rfl⟩
      rw [HE.out]
      have HI4 : Hid (CurR (wr.drewN q) w.heap.size s g ∧ W2.grownBy (wr.drewN q) (some w.heap.size) ∧ OwnC (wr.drewN q) W2.heap.size (.slice a n cap) cs) := ⟨HI.out.2.2.2.2.1.drewN q, grown_trans HI.out.2.2.2.2.2 (grown_drewN _ _ _), HI.out.2.2.2.1.below (drewN_at (Below.refl _ _) _)⟩
      obtain ⟨hy0, hy1⟩ := HBT.out _ HI4.out.2.1
      clear hx0 hx1
      go_wp2_with fail
      refine (challenge_any w.heap.size s hs n (by omega) g _ HI4.out.1).mono ?_
      rintro e w5 ⟨hch, hg5⟩
      have HI5 : Hid (W2.grownBy w5 (some w.heap.size) ∧ OwnC w5 W2.heap.size (.slice a n cap) cs) := ⟨grown_trans HI4.out.2.1 hg5, HI4.out.2.2.grown hg5 (by have := HC2.out.2.2; omega)⟩
      have hz5 : w1.heap.size + 1 ≤ w5.heap.size := by have := HI5.out.1.size; have := HC2.out.2.2; omega
      clear hg5 hy0 hy1
      rcases hch with ⟨c, u, hC, hsm, hz6, hz7, rfl, hown, hc5⟩ | ⟨en, left, ev, q1, q2, hC, rfl, hat⟩
      · have HCC : Hid (chalL n g = .ok (c.x, u)) := hC
        have hn8 : n < 8 := chal_few hC
        have hrz : W2.heap.size ≤ (wr.drewN q).heap.size := HI4.out.2.1.size
        have hb6 : Below w5.heap.size w5 (w5.alloc (.cells #[.string c.x.scheme, .string c.x.token, .slice c.a c.len c.cap] 24)) := (Below.refl _ _).alloc (Nat.le_refl _) _
        have HI6 : Hid (W2.grownBy (w5.alloc (.cells #[.string c.x.scheme, .string c.x.token, .slice c.a c.len c.cap] 24)) (some w.heap.size) ∧ OwnC (w5.alloc (.cells #[.string c.x.scheme, .string c.x.token, .slice c.a c.len c.cap] 24)) W2.heap.size (.slice a n cap) cs ∧ OwnP (w5.alloc (.cells #[.string c.x.scheme, .string c.x.token, .slice c.a c.len c.cap] 24)) W2.heap.size (.slice c.a c.len c.cap) c.x.params ∧ CurR (w5.alloc (.cells #[.string c.x.scheme, .string c.x.token, .slice c.a c.len c.cap] 24)) w.heap.size s u) := ⟨grown_trans HI5.out.1 (grown_below hb6 _), HI5.out.2.below hb6, OwnP.below (World.ownsRow.mono hown hrz) hb6, hc5.below hb6⟩
        have HSL : Hid (Slight c) := ⟨hsm, hz6, hz7⟩
        have HNX : Hid (PrAt s.data.toList (xsOf (cs ++ [c])) (u.dropWhile gapB)) := by
          show PrAt _ _ _
          rw [xsOf_snoc]
          exact prAt_next HI.out.2.1 HG0.out (by rw [xsOf_len, ← HI.out.1]; exact hC)
        have HLN : Hid ((u.dropWhile gapB).length < g.length) := by
          have h1 := chalL_len _ _ _ _ hC
          have h2 := dw_len gapB u
          show _ < _
          omega
        clear hC hown hc5 hb6 hrz
        go_wp2_with (at_builtin; refine wp_appc rfl _ _ rfl W2.heap.size (w5.alloc (.cells #[.string c.x.scheme, .string c.x.token, .slice c.a c.len c.cap] 24)) (.slice a n cap) cs n rfl HI6.out.2.1 HI.out.1.symm (by omega) (by have := HC2.out.2.2; simp; omega) c HI6.out.2.2.1 (w5.heap.size + 1) (by simp) rfl ?_; intro g7 cap7 w7 hown7 hg7 hlt7; have HI7 : Hid (OwnC w7 W2.heap.size (.slice (some ⟨g7, 0, none⟩) (n + 1) cap7) (cs ++ [c]) ∧ CurR w7 w.heap.size s u ∧ W2.grownBy w7 (some w.heap.size)) := ⟨hown7, (HI6.out.2.2.2.below ((Below.refl _ _).alloc (Nat.le_refl _) _)).grown hg7 (fun e => by have := (HI6.out.2.1.lt _ e.symm).1; have := HC2.out.2.2; omega), grown_other (grown_trans HI6.out.1 (grown_alloc _ _ _)) hg7 (fun k e => (HI6.out.2.1.lt _ e).1)⟩; clear hown7 hg7 hlt7; obtain ⟨hx0, hx1⟩ := HBT.out w7 HI7.out.2.2)
        refine (gaps_any w.heap.size s hs _ _ HI7.out.2.1).mono ?_
        rintro e w8 ⟨rfl, hc8, hg8⟩
        have HI8 : Hid (OwnC w8 W2.heap.size (.slice (some ⟨g7, 0, none⟩) (n + 1) cap7) (cs ++ [c]) ∧ CurR w8 w.heap.size s (u.dropWhile gapB) ∧ W2.grownBy w8 (some w.heap.size)) := ⟨HI7.out.1.grown hg8 (by have := HC2.out.2.2; omega), hc8, grown_trans HI7.out.2.2 hg8⟩
        clear hc8 hg8 hx0 hx1
        go_wp2
        go_roundg (u.dropWhile gapB).length
        case measure => have := HLN.out; omega
        case rel => exact ⟨cs ++ [c], _, n + 1, cap7, _, rfl, rfl, by omega, ⟨by rw [List.length_append, ← HI.out.1]; rfl, HNX.out, fun d hd => (by rcases List.mem_append.1 hd with hd | hd; exact HI.out.2.2.1 d hd; rw [List.mem_singleton.1 hd]; exact HSL.out), HI8.out.1, HI8.out.2.1, HI8.out.2.2⟩⟩
      · have HA : Hid (askL s.data.toList = .error (en, left)) := prAt_err HI.out.2.1 HG0.out (by rw [xsOf_len, ← HI.out.1]; exact hC)
        obtain ⟨eg, rfl, eg0, eg1, egB, egl⟩ := hat
        have HAT : Hid (IsAt w5 (.iface 115 (.pointer (some ⟨eg, 0, none⟩))) (wr.drewN q).heap.size en ((s.size - left : Nat) : Int)) := ⟨eg, rfl, eg0, eg1, egB, egl⟩
        have HWQ : Hid (w.heap.size + 1 ≤ (wr.drewN q).heap.size) := by show _ ≤ wr.heap.size; omega
        clear hC eg0 eg1
        go_wp2
        go_ret2
        exact ⟨.inr ⟨en, left, _, HA, rfl, (HAT.out.below ((Below.refl _ _).alloc (Nat.le_refl _) _)).mono HWQ.out⟩, (HBL.out _ HI5.out.1).trans (((Below.refl _ _).alloc (Nat.le_refl _) _).mono (by omega))⟩
end Go.Proofs.YtooaiamfbmjmnaaGreatDoor
