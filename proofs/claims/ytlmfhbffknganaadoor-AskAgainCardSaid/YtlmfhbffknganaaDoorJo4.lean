/- Texts of one claim, joined: each begins with what it proves. -/
import Derived.Test.YtlmfhbffknganaaDoorJo3
import Derived.Test.YtlmfhbffknganaaDoorJo1
import Derived.Test.YtlmfhbffknganaaDoorJo2
import Derived.Deep.QuietTactic
import Derived.BigQuiet
import Derived.Deep.Draws
import Derived.Deep.LoopGhost
import Derived.Deep.Cut
import Derived.Deep.CutRange
import Derived.Deep.DeepCutAuto
import Derived.Lib.SlTrimSet
import Derived.Lib.Index
import Derived.Shelf.Strings.Split
/- One challenge more at a row of challenges that a call owns. -/
namespace Go.Proofs.YtlmfhbffknganaaDoor
open Go.RowKit

theorem infoC : (Tryd.prog.info? 33).map (fun i => (i.zero, i.size, i.bytes)) = some (some (.agg #[.string ⟨#[]⟩, .string ⟨#[]⟩, .slice none 0 0]), 3, 56) := by kernel_rfl
def chCells : List ChV → List Value
  | [] => []
  | c :: r => .string c.x.scheme :: .string c.x.token :: .slice c.a c.len c.cap :: chCells r
theorem chCells_app (a b : List ChV) : chCells (a ++ b) = chCells a ++ chCells b := by
  induction a with
  | nil => rfl
  | cons p r ih => simp [chCells, ih]
theorem chCells_at : ∀ (cs : List ChV) (j : Nat) (c : ChV), cs[j]? = some c → (chCells cs)[j * 3]? = some (.string c.x.scheme) ∧ (chCells cs)[j * 3 + 1]? = some (.string c.x.token) ∧ (chCells cs)[j * 3 + 2]? = some (.slice c.a c.len c.cap)
  | [], j, p, h => by simp at h
  | q :: r, 0, p, h => by
    simp at h
    subst h
    exact ⟨rfl, rfl, rfl⟩
  | q :: r, j + 1, p, h => by
    have h' : r[j]? = some p := by simpa using h
    have := chCells_at r j p h'
    rw [show (j + 1) * 3 = j * 3 + 1 + 1 + 1 by omega]
    simpa [chCells] using this
/-- A value of type []api.Challenge that owns these, and their parameters, among the blocks from B on. -/
def OwnC (w : World) (B : Nat) (v : Value) (cs : List ChV) : Prop := w.ownsRow B 33 3 v cs.length (chCells cs) ∧ ∀ c ∈ cs, OwnP w B (.slice c.a c.len c.cap) c.x.params
theorem OwnC.lt {w : World} {B : Nat} {v : Value} {cs : List ChV} (h : OwnC w B v cs) : ∀ k, v.ownBlock = some k → B ≤ k ∧ k < w.heap.size := World.ownsRow.lt h.1
theorem OwnC.grown {w w' : World} {B b : Nat} {v : Value} {cs : List ChV} (h : OwnC w B v cs) (hg : w.grownBy w' (some b)) (hb : b < B) : OwnC w' B v cs := by
  refine ⟨World.ownsRow.kept h.1 hg (.inr ?_), fun c hc => (h.2 c hc).grown hg hb⟩
  intro e
  have := (h.lt b e).1
  omega
theorem OwnC.below {w w' : World} {B : Nat} {v : Value} {cs : List ChV} (h : OwnC w B v cs) (hb : Below w.heap.size w w') : OwnC w' B v cs := by
  refine ⟨World.ownsRow.kept (row := none) h.1 ⟨hb.os, hb.tape, hb.output, hb.size, fun i hi _ => hb.block i hi⟩ ?_, fun c hc => (h.2 c hc).below hb⟩
  rcases v.ownBlock with _ | k
  · exact .inl rfl
  · exact .inr (by simp)
theorem ownC_nil (w : World) (B : Nat) : OwnC w B (.slice none 0 0) [] := ⟨⟨rfl, .inl ⟨rfl, rfl⟩⟩, fun c hc => by cases hc⟩
/-- The same challenges, told where their parameters lie. -/
theorem OwnC.chals {w : World} {B : Nat} {v : Value} {cs : List ChV} (h : OwnC w B v cs) : ∃ (a : Option Addr) (cap g : Nat) (ds : List ChV), v = .slice a cs.length cap ∧ Chals w a cs.length g 0 ds ∧ xsOf ds = xsOf cs ∧ (0 < cs.length → B ≤ g) ∧ (∀ c ∈ ds, 0 < c.len → B ≤ c.b) := by
  have hd : ∃ ds : List ChV, ds.length = cs.length ∧ xsOf ds = xsOf cs ∧ (∀ c ∈ ds, ChOk w c) ∧ (∀ c ∈ ds, 0 < c.len → B ≤ c.b) ∧ chCells ds = chCells cs := by
    have h2 := h.2
    clear h
    induction cs with
    | nil => exact ⟨[], rfl, rfl, fun c hc => (by cases hc), fun c hc => (by cases hc), rfl⟩
    | cons c r ih =>
      obtain ⟨ds, e1, e2, e3, e5, e4⟩ := ih (fun d hd => h2 d (by simp [hd]))
      obtain ⟨a, cap, g, hv, hp, hBg⟩ := (h2 c (by simp)).pars
      injection hv with v1 v2 v3
      refine ⟨⟨c.x, c.a, c.cap, g, 0⟩ :: ds, by simp [e1], ?_, ?_, ?_, ?_⟩
      · unfold xsOf at e2 ⊢
        simp [e2]
      · intro d hd
        rcases List.mem_cons.1 hd with rfl | hd
        · show Pars w c.a c.x.params.length g 0 c.x.params
          rw [v1]
          exact hp
        · exact e3 d hd
      · intro d hd
        rcases List.mem_cons.1 hd with rfl | hd
        · exact hBg
        · exact e5 d hd
      · show _ :: _ :: _ :: chCells ds = _
        rw [e4]
        rfl
  obtain ⟨ds, e1, e2, e3, e5, e4⟩ := hd
  rcases h.1.2 with ⟨rfl, h0⟩ | ⟨g, cap, cur, rfl, hBg, hh, _, _, _, ht⟩
  · refine ⟨none, 0, 0, ds, by rw [h0], ⟨e1, fun h1 => absurd h0 (by omega), fun j x hx => ?_, fun j x hx => ?_, fun j x hx => ?_, e3⟩, e2, fun h1 => by omega, e5⟩
    · have := (List.getElem?_eq_some_iff.1 hx).1; omega
    · have := (List.getElem?_eq_some_iff.1 hx).1; omega
    · have := (List.getElem?_eq_some_iff.1 hx).1; omega
  · refine ⟨_, cap, g, ds, rfl, ⟨e1, fun _ => ⟨rfl, (Array.getElem?_eq_some_iff.1 hh).1⟩, fun j x hx => ?_, fun j x hx => ?_, fun j x hx => ?_, e3⟩, e2, fun _ => hBg, e5⟩
    · have hj := World.ownsRow.cells h.1 (g := g) rfl (j * 3) (.string x.x.scheme) (by rw [← e4]; exact (chCells_at ds j x hx).1)
      rw [WideShapes.add_plain] at hj
      exact hj
    · have hj := World.ownsRow.cells h.1 (g := g) rfl (j * 3 + 1) (.string x.x.token) (by rw [← e4]; exact (chCells_at ds j x hx).2.1)
      rw [WideShapes.add_plain] at hj
      rw [Nat.add_assoc]
      exact hj
    · have hj := World.ownsRow.cells h.1 (g := g) rfl (j * 3 + 2) (.slice x.a x.len x.cap) (by rw [← e4]; exact (chCells_at ds j x hx).2.2)
      rw [WideShapes.add_plain] at hj
      rw [Nat.add_assoc]
      exact hj
theorem own_apart {w : World} {B B2 : Nat} {v u : Value} {cs : List ChV} {ps : List Par} (h : OwnC w B v cs) (hp : OwnP w B2 u ps) : u.ownBlock = none ∨ u.ownBlock ≠ v.ownBlock := by
  rcases hp.2 with ⟨rfl, h0⟩ | ⟨g, cap, cur, rfl, _, hh, _⟩
  · exact .inl rfl
  · refine .inr fun e => ?_
    rcases h.1.2 with ⟨rfl, h0⟩ | ⟨g2, cap2, cur2, rfl, _, hh2, _⟩
    · cases e
    · have e2 : g = g2 := by simpa [Value.ownBlock] using e
      subst e2
      rw [hh] at hh2
      injection hh2 with hh2
      injection hh2 with _ h3
      exact absurd h3 (by decide)
theorem wp_appc {ops : Array Oper} {rest : List Oper} {o : Oper} {a : Act} {Q : Exit → Act → World → Prop} (hgd : o.guard = none) (s x : Operand)
    (ho : o.op = .call { callee := .builtin .append, args := #[s, x], argTypes := #[23, 23] })
    (B : Nat) (wr : World) (v : Value) (cs : List ChV) (n : Nat) (hs : a.eval s = v) (hown : OwnC wr B v cs) (hn : cs.length = n) (hl : n ≤ 100000) (hB : B ≤ wr.heap.size)
    (c : ChV) (hc : OwnP wr B (.slice c.a c.len c.cap) c.x.params) (H : Nat) (hH : wr.heap.size = H) (hx : a.eval x = .slice (some ⟨H, 0, none⟩) 1 1)
    (h : ∀ g cap w', OwnC w' B (.slice (some ⟨g, 0, none⟩) (n + 1) cap) (cs ++ [c]) → (wr.alloc (.cells #[.string c.x.scheme, .string c.x.token, .slice c.a c.len c.cap] 33)).grownBy w' v.ownBlock → g < w'.heap.size → wpList Tryd.prog ops Q rest (a.put o.dst (.slice (some ⟨g, 0, none⟩) (n + 1) cap)) w') :
    wpList Tryd.prog ops Q (o :: rest) a (wr.alloc (.cells #[.string c.x.scheme, .string c.x.token, .slice c.a c.len c.cap] 33)) := by
  subst hn hH
  have hb1 : Below wr.heap.size wr (wr.alloc (.cells #[.string c.x.scheme, .string c.x.token, .slice c.a c.len c.cap] 33)) := (Below.refl _ _).alloc (Nat.le_refl _) _
  obtain ⟨i0, hi0, hz0, hz1, hz2⟩ := info_parts infoC
  refine wpList_append_lies _ hgd s x 23 ho B 33 i0 (.agg #[.string ⟨#[]⟩, .string ⟨#[]⟩, .slice none 0 0]) 3 56 Tryd.underlying23 hi0 hz0 hz1 hz2 rfl (by omega) v cs.length _ hs (World.ownsRow.alloc hown.1 _) ⟨wr.heap.size, 0, none⟩ 1 1 [.string c.x.scheme, .string c.x.token, .slice c.a c.len c.cap] hx rfl
    (World.news_of_block (cs := #[.string c.x.scheme, .string c.x.token, .slice c.a c.len c.cap]) (t := 33) (fr := (0, 0)) (heap_alloc_new wr _)) (by simp [Value.oneCell']) (by omega) (by unfold maxLen; omega) (by omega) (by simp; omega) _ rfl ?_
  intro g cap w' hown1 hgrow _ hlt
  refine h g cap w' ⟨?_, fun d hd => ?_⟩ hgrow hlt
  · rw [List.length_append, chCells_app]
    exact hown1
  · have hd' : OwnP wr B (.slice d.a d.len d.cap) d.x.params := by
      rcases List.mem_append.1 hd with hd | hd
      · exact hown.2 d hd
      · rw [List.mem_singleton.1 hd]; exact hc
    exact World.ownsRow.kept (hd'.below hb1) hgrow (own_apart hown hd')
end Go.Proofs.YtlmfhbffknganaaDoor

/- A world that has drawn an order is the same. -/
namespace Go.Proofs.YtlmfhbffknganaaDoor
open Go.RowKit

theorem drewN_at {B : Nat} {a w : World} (h : Below B a w) (n : Nat) : Below B a (w.drewN n) := h.trans ⟨rfl, rfl, rfl, Nat.le_refl _, fun _ _ => rfl⟩
end Go.Proofs.YtlmfhbffknganaaDoor

/- A header's challenges, by the program. -/
namespace Go.Proofs.YtlmfhbffknganaaDoor
open Go.RowKit

theorem gap_twice (l : List UInt8) : (l.dropWhile gapB).dropWhile gapB = l.dropWhile gapB := by
  induction l with
  | nil => rfl
  | cons c t ih =>
    by_cases h : gapB c = true
    · rw [List.dropWhile_cons_of_pos h, ih]
    · rw [List.dropWhile_cons_of_neg h, List.dropWhile_cons_of_neg h]
/-- Challenges as they are read. -/
def Slight (c : ChV) : Prop := Small c.x.params ∧ c.x.scheme.size ≤ 3000 ∧ c.x.token.size ≤ 3000
/-- What is known at the loop's head. -/
def PrAt (l : List UInt8) (acc : List Chal) (g : List UInt8) : Prop := (∃ f, g.length < f ∧ askL l = parseL f acc g) ∧ g.dropWhile gapB = g
theorem prAt_end {l : List UInt8} {acc : List Chal} (h : PrAt l acc []) : askL l = .ok acc := by
  obtain ⟨⟨f, hf, e⟩, _⟩ := h
  obtain ⟨g, rfl⟩ : ∃ g, f = g + 1 := ⟨f - 1, by omega⟩
  rw [e, parseL]
  rfl
theorem prAt_err {l g : List UInt8} {acc : List Chal} {x : Nat × Nat} (h : PrAt l acc g) (hg : g ≠ []) (hc : chalL acc.length g = .error x) : askL l = .error x := by
  obtain ⟨⟨f, hf, e⟩, hgg⟩ := h
  obtain ⟨f', rfl⟩ : ∃ f', f = f' + 1 := ⟨f - 1, by omega⟩
  rw [e, parseL, hgg, if_neg hg, hc]
theorem prAt_next {l g u : List UInt8} {acc : List Chal} {x : Chal} (h : PrAt l acc g) (hg : g ≠ []) (hc : chalL acc.length g = .ok (x, u)) : PrAt l (acc ++ [x]) (u.dropWhile gapB) := by
  obtain ⟨⟨f, hf, e⟩, hgg⟩ := h
  obtain ⟨f', rfl⟩ : ∃ f', f = f' + 1 := ⟨f - 1, by omega⟩
  have hl := chalL_len _ _ _ _ hc
  have e2 : parseL (f' + 1) acc g = parseL f' (acc ++ [x]) u := by rw [parseL, hgg, if_neg hg, hc]
  rw [e2] at e
  have hf' : u.length < f' := by omega
  obtain ⟨f2, rfl⟩ : ∃ f2, f' = f2 + 1 := ⟨f' - 1, by omega⟩
  have e3 : parseL (f2 + 1) (acc ++ [x]) u = parseL (f2 + 1) (acc ++ [x]) (u.dropWhile gapB) := by rw [parseL, parseL, gap_twice]
  exact ⟨⟨f2 + 1, by have := dw_len gapB u; omega, e.trans e3⟩, gap_twice u⟩
theorem prAt_start (l : List UInt8) : PrAt l [] (l.dropWhile gapB) := by
  refine ⟨⟨l.length + 1, by have := dw_len gapB l; omega, ?_⟩, gap_twice l⟩
  unfold askL
  rw [parseL, parseL, gap_twice]
theorem chal_few {ahead : Nat} {r u : List UInt8} {x : Chal} (h : chalL ahead r = .ok (x, u)) : ahead < 8 := by
  unfold chalL at h
  split at h
  · cases h
  · split at h
    · cases h
    · omega
/-- What Parse answers. -/
def PsrAns (s : ByteArray) (B : Nat) (e : Ending) (w' : World) : Prop :=
  (∃ (cs : List ChV) (v : Value), askL s.data.toList = .ok (xsOf cs) ∧ cs.length ≤ 8 ∧ (∀ c ∈ cs, Slight c) ∧ e = .returned (.tuple #[v, .nilIface]) ∧ OwnC w' B v cs) ∨
  (∃ (n left : Nat) (v : Value), askL s.data.toList = .error (n, left) ∧ e = .returned (.tuple #[.slice none 0 0, v]) ∧ IsAt w' v B n ((s.size - left : Nat) : Int))
theorem parse_long (s : ByteArray) (hs : 3000 < s.size) (w : World) :
    Calls Tryd.prog 7 #[.string s] w fun e w' => e = .returned (.tuple #[.slice none 0 0, .iface 53 (.int .i64 4)]) ∧ w' = w := by
  have hs' : (3000 : Int) < (s.size : Int) := by omega
  go_enter Tryd.func7, Tryd.ntmps7
  go_wp2
  go_ret2
  exact ⟨rfl, rfl⟩
theorem xsOf_snoc (cs : List ChV) (c : ChV) : xsOf (cs ++ [c]) = xsOf cs ++ [c.x] := by unfold xsOf; simp
theorem xsOf_len (cs : List ChV) : (xsOf cs).length = cs.length := by unfold xsOf; simp
set_option maxRecDepth 100000 in
set_option maxHeartbeats 4000000 in
theorem parse_any (s : ByteArray) (hs : s.size ≤ 3000) (w : World) :
    Calls Tryd.prog 7 #[.string s] w fun e w' => PsrAns s (w.heap.size + 1) e w' ∧ Below w.heap.size w w' := by
  have hs' : ¬ (3000 : Int) < (s.size : Int) := by omega
  go_enter Tryd.func7, Tryd.ntmps7
  go_wp2_with (go_at_call 24; refine (on_any s _).mono ?_; rintro e w1 ⟨rfl, hc1, hb1, hz1⟩)
  have hb2 : Below w1.heap.size w1 (w1.alloc (.cells #[.pointer (some ⟨w.heap.size, 0, none⟩), .string s] 57)) := (Below.refl _ _).alloc (Nat.le_refl _) _
  have hbox : ∀ j v, #[Value.pointer (some ⟨w.heap.size, 0, none⟩), .string s][j]? = some v → (w1.alloc (.cells #[.pointer (some ⟨w.heap.size, 0, none⟩), .string s] 57)).cell? ⟨w1.heap.size, j, none⟩ = some v := fun j v hv => (World.cell?_alloc_mark _ _ _ _ _).trans hv
  have hc2 : CurR w1 w.heap.size s s.data.toList := ⟨by rw [len_data, Nat.sub_self]; exact hc1, List.suffix_refl _⟩
  have hz2 : (w1.alloc (.cells #[.pointer (some ⟨w.heap.size, 0, none⟩), .string s] 57)).heap.size = w1.heap.size + 1 := by simp
  generalize hW2 : w1.alloc (.cells #[.pointer (some ⟨w.heap.size, 0, none⟩), .string s] 57) = W2 at hb2 hbox hz2 ⊢
  have HC2 : Hid (CurR W2 w.heap.size s s.data.toList ∧ Below w.heap.size w W2 ∧ W2.heap.size = w1.heap.size + 1) := ⟨hc2.below hb2, hb1.trans (hb2.mono hb1.size), hz2⟩
  have HBT : Hid (∀ w', W2.grownBy w' (some w.heap.size) → w'.cell? ⟨w1.heap.size, 0, none⟩ = some (.pointer (some ⟨w.heap.size, 0, none⟩)) ∧ w'.cell? ⟨w1.heap.size, 1, none⟩ = some (.string s)) := fun w' hg => ⟨hg.cell (hbox 0 _ rfl) (by intro e; injection e with e; have e' : w1.heap.size = w.heap.size := e; omega), hg.cell (hbox 1 _ rfl) (by intro e; injection e with e; have e' : w1.heap.size = w.heap.size := e; omega)⟩
  have HBL : Hid (∀ w', W2.grownBy w' (some w.heap.size) → Below w.heap.size w w') := fun w' hg => HC2.out.2.1.grown hg HC2.out.2.1.size (fun i hi => by injection hi with hi; omega)
  clear hc1 hb1 hb2 hbox hc2 hz2 hW2
  refine (gaps_any w.heap.size s hs _ _ HC2.out.1).mono ?_
  rintro e w3 ⟨rfl, hc3, hg3⟩
  have HC3 : Hid (CurR w3 w.heap.size s (s.data.toList.dropWhile gapB) ∧ W2.grownBy w3 (some w.heap.size)) := ⟨hc3, hg3⟩
  clear hc3 hg3
  go_wp2
  go_loopg [4] (s.data.toList.dropWhile gapB).length (fun gh v wr => ∃ (cs : List ChV) (a : Option Addr) (n cap : Nat) (g : List UInt8), g.length = gh ∧ v = .slice a n cap ∧ n ≤ 8 ∧ Hid (n = cs.length ∧ PrAt s.data.toList (xsOf cs) g ∧ (∀ c ∈ cs, Slight c) ∧ OwnC wr W2.heap.size (.slice a n cap) cs ∧ CurR wr w.heap.size s g ∧ W2.grownBy wr (some w.heap.size)))
  case atStart => exact ⟨[], none, 0, 0, _, rfl, rfl, by omega, ⟨rfl, prAt_start _, fun c hc => (by cases hc), ownC_nil _ _, HC3.out.1, HC3.out.2⟩⟩
  case round =>
    obtain ⟨cs, a, n, cap, g, hgl, rfl, hn, HI⟩ := hrel
    have hwz : w1.heap.size + 1 ≤ wr.heap.size := by have := HI.out.2.2.2.2.2.size; have := HC2.out.2.2; omega
    obtain ⟨hx0, hx1⟩ := HBT.out wr HI.out.2.2.2.2.2
    by_cases hg0 : g = []
    · have HA : Hid (askL s.data.toList = .ok (xsOf cs)) := by
        have := HI.out.2.1
        rw [hg0] at this
        exact prAt_end this
      have HE : Hid (g.isEmpty = true) := by show _ = _; rw [hg0]; rfl
      clear hg0
      go_wp2_with fail
      refine (rd_end w.heap.size s g _ HI.out.2.2.2.2.1).mono ?_
      rintro e w4 ⟨rfl, q, rfl⟩
      rw [HE.out]
      go_wp2
      go_ret2
      exact ⟨.inl ⟨cs, _, HA, by have := HI.out.1; omega, HI.out.2.2.1, rfl, ⟨World.ownsRow.mono (HI.out.2.2.2.1.below (drewN_at (Below.refl _ _) _)).1 (by have := HC2.out.2.2; omega), fun c hc => World.ownsRow.mono ((HI.out.2.2.2.1.below (drewN_at (Below.refl _ _) _)).2 c hc) (by have := HC2.out.2.2; omega)⟩⟩, drewN_at (HBL.out _ HI.out.2.2.2.2.2) _⟩
    · have HE : Hid (g.isEmpty = false) := by
        show _ = _
        cases g with
        | nil => exact absurd rfl hg0
        | cons x y => rfl
      have HG0 : Hid (g ≠ []) := hg0
      clear hg0
      go_wp2_with fail
      refine (rd_end w.heap.size s g _ HI.out.2.2.2.2.1).mono ?_
      rintro e w4 ⟨rfl, q, rfl⟩
      rw [HE.out]
      have HI4 : Hid (CurR (wr.drewN q) w.heap.size s g ∧ W2.grownBy (wr.drewN q) (some w.heap.size) ∧ OwnC (wr.drewN q) W2.heap.size (.slice a n cap) cs) := ⟨HI.out.2.2.2.2.1.drewN q, grown_trans HI.out.2.2.2.2.2 (grown_drewN _ _ _), HI.out.2.2.2.1.below (drewN_at (Below.refl _ _) _)⟩
      obtain ⟨hy0, hy1⟩ := HBT.out _ HI4.out.2.1
      clear hx0 hx1
      go_wp2_with fail
      refine (challenge_any w.heap.size s hs n (by omega) g _ HI4.out.1).mono ?_
      rintro e w5 ⟨hch, hg5⟩
      have HI5 : Hid (W2.grownBy w5 (some w.heap.size) ∧ OwnC w5 W2.heap.size (.slice a n cap) cs) := ⟨grown_trans HI4.out.2.1 hg5, HI4.out.2.2.grown hg5 (by have := HC2.out.2.2; omega)⟩
      have hz5 : w1.heap.size + 1 ≤ w5.heap.size := by have := HI5.out.1.size; have := HC2.out.2.2; omega
      clear hg5 hy0 hy1
      rcases hch with ⟨c, u, hC, hsm, hz6, hz7, rfl, hown, hc5⟩ | ⟨en, left, ev, q1, q2, hC, rfl, hat⟩
      · have HCC : Hid (chalL n g = .ok (c.x, u)) := hC
        have hn8 : n < 8 := chal_few hC
        have hrz : W2.heap.size ≤ (wr.drewN q).heap.size := HI4.out.2.1.size
        have hb6 : Below w5.heap.size w5 (w5.alloc (.cells #[.string c.x.scheme, .string c.x.token, .slice c.a c.len c.cap] 33)) := (Below.refl _ _).alloc (Nat.le_refl _) _
        have HI6 : Hid (W2.grownBy (w5.alloc (.cells #[.string c.x.scheme, .string c.x.token, .slice c.a c.len c.cap] 33)) (some w.heap.size) ∧ OwnC (w5.alloc (.cells #[.string c.x.scheme, .string c.x.token, .slice c.a c.len c.cap] 33)) W2.heap.size (.slice a n cap) cs ∧ OwnP (w5.alloc (.cells #[.string c.x.scheme, .string c.x.token, .slice c.a c.len c.cap] 33)) W2.heap.size (.slice c.a c.len c.cap) c.x.params ∧ CurR (w5.alloc (.cells #[.string c.x.scheme, .string c.x.token, .slice c.a c.len c.cap] 33)) w.heap.size s u) := ⟨grown_trans HI5.out.1 (grown_below hb6 _), HI5.out.2.below hb6, OwnP.below (World.ownsRow.mono hown hrz) hb6, hc5.below hb6⟩
        have HSL : Hid (Slight c) := ⟨hsm, hz6, hz7⟩
        have HNX : Hid (PrAt s.data.toList (xsOf (cs ++ [c])) (u.dropWhile gapB)) := by
          show PrAt _ _ _
          rw [xsOf_snoc]
          exact prAt_next HI.out.2.1 HG0.out (by rw [xsOf_len, ← HI.out.1]; exact hC)
        have HLN : Hid ((u.dropWhile gapB).length < g.length) := by
          have h1 := chalL_len _ _ _ _ hC
          have h2 := dw_len gapB u
          show _ < _
          omega
        clear hC hown hc5 hb6 hrz
        go_wp2_with (at_builtin; refine wp_appc rfl _ _ rfl W2.heap.size (w5.alloc (.cells #[.string c.x.scheme, .string c.x.token, .slice c.a c.len c.cap] 33)) (.slice a n cap) cs n rfl HI6.out.2.1 HI.out.1.symm (by omega) (by have := HC2.out.2.2; simp; omega) c HI6.out.2.2.1 (w5.heap.size + 1) (by simp) rfl ?_; intro g7 cap7 w7 hown7 hg7 hlt7; have HI7 : Hid (OwnC w7 W2.heap.size (.slice (some ⟨g7, 0, none⟩) (n + 1) cap7) (cs ++ [c]) ∧ CurR w7 w.heap.size s u ∧ W2.grownBy w7 (some w.heap.size)) := ⟨hown7, (HI6.out.2.2.2.below ((Below.refl _ _).alloc (Nat.le_refl _) _)).grown hg7 (fun e => by have := (HI6.out.2.1.lt _ e.symm).1; have := HC2.out.2.2; omega), grown_other (grown_trans HI6.out.1 (grown_alloc _ _ _)) hg7 (fun k e => (HI6.out.2.1.lt _ e).1)⟩; clear hown7 hg7 hlt7; obtain ⟨hx0, hx1⟩ := HBT.out w7 HI7.out.2.2)
        refine (gaps_any w.heap.size s hs _ _ HI7.out.2.1).mono ?_
        rintro e w8 ⟨rfl, hc8, hg8⟩
        have HI8 : Hid (OwnC w8 W2.heap.size (.slice (some ⟨g7, 0, none⟩) (n + 1) cap7) (cs ++ [c]) ∧ CurR w8 w.heap.size s (u.dropWhile gapB) ∧ W2.grownBy w8 (some w.heap.size)) := ⟨HI7.out.1.grown hg8 (by have := HC2.out.2.2; omega), hc8, grown_trans HI7.out.2.2 hg8⟩
        clear hc8 hg8 hx0 hx1
        go_wp2
        go_roundg (u.dropWhile gapB).length
        case measure => have := HLN.out; omega
        case rel => exact ⟨cs ++ [c], _, n + 1, cap7, _, rfl, rfl, by omega, ⟨by rw [List.length_append, ← HI.out.1]; rfl, HNX.out, fun d hd => (by rcases List.mem_append.1 hd with hd | hd; exact HI.out.2.2.1 d hd; rw [List.mem_singleton.1 hd]; exact HSL.out), HI8.out.1, HI8.out.2.1, HI8.out.2.2⟩⟩
      · have HA : Hid (askL s.data.toList = .error (en, left)) := prAt_err HI.out.2.1 HG0.out (by rw [xsOf_len, ← HI.out.1]; exact hC)
        obtain ⟨eg, rfl, eg0, eg1, egB, egl⟩ := hat
        have HAT : Hid (IsAt w5 (.iface 67 (.pointer (some ⟨eg, 0, none⟩))) (wr.drewN q).heap.size en ((s.size - left : Nat) : Int)) := ⟨eg, rfl, eg0, eg1, egB, egl⟩
        have HWQ : Hid (w.heap.size + 1 ≤ (wr.drewN q).heap.size) := by show _ ≤ wr.heap.size; omega
        clear hC eg0 eg1
        go_wp2
        go_ret2
        exact ⟨.inr ⟨en, left, _, HA, rfl, (HAT.out.below ((Below.refl _ _).alloc (Nat.le_refl _) _)).mono HWQ.out⟩, (HBL.out _ HI5.out.1).trans (((Below.refl _ _).alloc (Nat.le_refl _) _).mono (by omega))⟩
end Go.Proofs.YtlmfhbffknganaaDoor

/- The value of a parameter, by the program. -/
namespace Go.Proofs.YtlmfhbffknganaaDoor
open Go.RowKit

/-- The value of a parameter. -/
def getL (ps : List Par) (n : List UInt8) : Option ByteArray := (ps.find? fun p => sameL p.1.data.toList n).map (·.2)
/-- Names and values that are not too long. -/
def Few (ps : List Par) : Prop := ps.length ≤ 1000000 ∧ ∀ p ∈ ps, p.1.size ≤ 3000 ∧ p.2.size ≤ 3000
set_option maxHeartbeats 1000000 in
theorem get_none (c : ChV) (n : ByteArray) (hf : Few c.x.params) (hn : n.size ≤ 3000) (w : World) (hx : ChOk w c) (hg : getL c.x.params n.data.toList = none) :
    Calls Tryd.prog 37 #[.agg #[.string c.x.scheme, .string c.x.token, .slice c.a c.len c.cap], .string n] w fun e w' => e = .returned (.tuple #[.string ⟨#[]⟩, .bool false]) ∧ Below w.heap.size w w' := by
  have hb1 : Below w.heap.size w (w.alloc (.cells #[.string c.x.scheme, .string c.x.token, .slice c.a c.len c.cap] 33)) := (Below.refl _ _).alloc (Nat.le_refl _) _
  have HX : Hid (ChOk (w.alloc (.cells #[.string c.x.scheme, .string c.x.token, .slice c.a c.len c.cap] 33)) c) := hx.below hb1
  have HF : Hid (Few c.x.params) := hf
  have HG : Hid (c.x.params.find? (fun p => sameL p.1.data.toList n.data.toList) = none) := by
    have := hg
    unfold getL at this
    exact Option.map_eq_none_iff.1 this
  clear hx hf hg
  go_enter Tryd.func37, Tryd.ntmps37
  go_wp2_with fail
  refine (find_any c.x.params n (fun p hp => Nat.le_trans (HF.out.2 p hp).1 (by omega)) (by omega) c.a c.len c.cap c.b c.off HF.out.1 _ HX.out).mono ?_
  rintro e w2 ⟨⟨r, rfl, HR⟩, hb2⟩
  have hr : r = -1 := by
    rcases HR.out with ⟨h, _⟩ | ⟨k, p, _, _, h⟩
    · exact h
    · rw [HG.out] at h; cases h
  subst hr
  go_wp2
  go_ret2
  exact ⟨rfl, hb1.trans (hb2.mono (by simp))⟩
set_option maxHeartbeats 1000000 in
theorem get_some (c : ChV) (n v : ByteArray) (hf : Few c.x.params) (hn : n.size ≤ 3000) (w : World) (hx : ChOk w c) (hg : getL c.x.params n.data.toList = some v) :
    Calls Tryd.prog 37 #[.agg #[.string c.x.scheme, .string c.x.token, .slice c.a c.len c.cap], .string n] w fun e w' => e = .returned (.tuple #[.string v, .bool true]) ∧ Below w.heap.size w w' := by
  have hb1 : Below w.heap.size w (w.alloc (.cells #[.string c.x.scheme, .string c.x.token, .slice c.a c.len c.cap] 33)) := (Below.refl _ _).alloc (Nat.le_refl _) _
  have HX : Hid (ChOk (w.alloc (.cells #[.string c.x.scheme, .string c.x.token, .slice c.a c.len c.cap] 33)) c) := hx.below hb1
  have HF : Hid (Few c.x.params) := hf
  have HG : Hid (∃ p, c.x.params.find? (fun p => sameL p.1.data.toList n.data.toList) = some p ∧ p.2 = v) := by
    have := hg
    unfold getL at this
    exact Option.map_eq_some_iff.1 this
  clear hx hf hg
  go_enter Tryd.func37, Tryd.ntmps37
  go_wp2_with fail
  refine (find_any c.x.params n (fun p hp => Nat.le_trans (HF.out.2 p hp).1 (by omega)) (by omega) c.a c.len c.cap c.b c.off HF.out.1 _ HX.out).mono ?_
  rintro e w2 ⟨⟨r, rfl, HR⟩, hb2⟩
  obtain ⟨k, hr, hk, hcell, hkl, hvz, hlies⟩ : ∃ k : Nat, r = k ∧ k < c.len ∧ w2.cell? ⟨c.b, c.off + k * 2 + 1, none⟩ = some (.string v) ∧ c.len ≤ 1000000 ∧ v.size ≤ 3000 ∧ c.a = some ⟨c.b, c.off, none⟩ := by
    obtain ⟨q, hq, hqv⟩ := HG.out
    rcases HR.out with ⟨_, h⟩ | ⟨k, p, hr, hk, h⟩
    · rw [hq] at h; cases h
    · rw [hq] at h
      cases h
      have hkl := (List.getElem?_eq_some_iff.1 hk).1
      have h2 := HX.out.below hb2
      refine ⟨k, hr, hkl, ?_, HF.out.1, ?_, ?_⟩
      · rw [← hqv]; exact h2.two k _ hk
      · rw [← hqv]; exact (HF.out.2 _ (List.mem_of_getElem? hk)).2
      · exact (h2.lies (by show 0 < c.len; unfold ChV.len; omega)).1
  subst hr
  have hbx : w2.cell? ⟨w.heap.size, 2, none⟩ = some (.slice c.a c.len c.cap) := (hb2.cell (p := ⟨w.heap.size, 2, none⟩) (by simp)).trans (World.cell?_alloc_mark _ _ _ _ _)
  rw [hlies] at hbx
  have hk0 : (k : Int) < (c.len : Int) := by omega
  have hkn : ¬ (k : Int) < 0 := by omega
  go_wp2_with (go_at_call 71; refine (clone_any v (by omega) _).mono ?_; rintro e w3 ⟨rfl, hb3⟩)
  go_ret2
  exact ⟨rfl, (hb1.trans (hb2.mono (by simp))).trans (hb3.mono (Nat.le_trans (by simp) hb2.size))⟩
theorem getL_none {ps : List Par} {n : List UInt8} (h : ps.find? (fun p => sameL p.1.data.toList n) = none) : getL ps n = none := by unfold getL; rw [h]; rfl
theorem getL_some {ps : List Par} {n : List UInt8} {p : Par} (h : ps.find? (fun p => sameL p.1.data.toList n) = some p) : getL ps n = some p.2 := by unfold getL; rw [h]; rfl
/-- What is answered where a parameter may be there, or not. -/
def optV (o : Option ByteArray) : Value := .tuple #[.string (o.getD ⟨#[]⟩), .bool o.isSome]
theorem get_any (c : ChV) (n : ByteArray) (hf : Few c.x.params) (hn : n.size ≤ 3000) (w : World) (hx : ChOk w c) :
    Calls Tryd.prog 37 #[.agg #[.string c.x.scheme, .string c.x.token, .slice c.a c.len c.cap], .string n] w fun e w' => e = .returned (optV (getL c.x.params n.data.toList)) ∧ Below w.heap.size w w' := by
  rcases h : getL c.x.params n.data.toList with _ | v
  · exact get_none c n hf hn w hx h
  · exact get_some c n v hf hn w hx h
end Go.Proofs.YtlmfhbffknganaaDoor

/- What a challenge asks for, as the document says, over lists of bytes. -/
namespace Go.Proofs.YtlmfhbffknganaaDoor

/-- A challenge that can be answered. -/
structure AskV where
  scheme : Nat
  realm : ByteArray
  nonce : ByteArray
  opq : ByteArray
  sess : Bool
  qop : ByteArray
  stale : Bool
  domain : List ByteArray
def zeroA : AskV := ⟨0, ⟨#[]⟩, ⟨#[]⟩, ⟨#[]⟩, false, ⟨#[]⟩, false, []⟩
def kRealm : List UInt8 := [114, 101, 97, 108, 109]
def kBasic : List UInt8 := [98, 97, 115, 105, 99]
def kDigest : List UInt8 := [100, 105, 103, 101, 115, 116]
def kNonce : List UInt8 := [110, 111, 110, 99, 101]
def kOpq : List UInt8 := [111, 112, 97, 113, 117, 101]
def kStale : List UInt8 := [115, 116, 97, 108, 101]
def kTrue : List UInt8 := [116, 114, 117, 101]
def kAlgo : List UInt8 := [97, 108, 103, 111, 114, 105, 116, 104, 109]
def kQop : List UInt8 := [113, 111, 112]
def kDomain : List UInt8 := [100, 111, 109, 97, 105, 110]
def kMd5 : List UInt8 := [77, 68, 53]
def kMd5s : List UInt8 := [77, 68, 53, 45, 115, 101, 115, 115]
def kSha : List UInt8 := [83, 72, 65, 45, 50, 53, 54]
def kShas : List UInt8 := [83, 72, 65, 45, 50, 53, 54, 45, 115, 101, 115, 115]
def kAuth : List UInt8 := [97, 117, 116, 104]
def kAuthI : List UInt8 := [97, 117, 116, 104, 45, 105, 110, 116]
/-- The scheme that sums are of (0: none that is known), and whether a nonce of one's own is summed. -/
def algoL : Option ByteArray → Nat × Bool
  | none => (2, false)
  | some v =>
    if sameL v.data.toList kMd5 then (2, false) else if sameL v.data.toList kMd5s then (2, true)
    else if sameL v.data.toList kSha then (3, false) else if sameL v.data.toList kShas then (3, true) else (0, false)
/-- The qop that is answered. -/
def qopL : Option ByteArray → Option ByteArray
  | none => some ⟨#[]⟩
  | some t => match listP 0 (splitL 44 t.data.toList) with
    | .error _ => none
    | .ok ws => if 40 < ws.length then none else if ws.any (sameL · kAuth) then some (bs kAuth) else if ws.any (sameL · kAuthI) then some (bs kAuthI) else none
def slashB : List UInt8 → Bool
  | [] => false
  | c :: _ => c == 47
/-- The paths of a domain. -/
def domL (t : List UInt8) : List ByteArray := ((splitL 32 t).filter slashB).map fun p => bs (cleanL p)
def digestL (ps : List Par) (realm : ByteArray) : Option AskV :=
  if (algoL (getL ps kAlgo)).1 = 0 then none
  else match getL ps kNonce with
    | none => none
    | some n => match qopL (getL ps kQop) with
      | none => none
      | some q => some ⟨(algoL (getL ps kAlgo)).1, realm, n, (getL ps kOpq).getD ⟨#[]⟩, (algoL (getL ps kAlgo)).2, q, sameL ((getL ps kStale).getD ⟨#[]⟩).data.toList kTrue, domL ((getL ps kDomain).getD ⟨#[]⟩).data.toList⟩
def knownL (x : Chal) : Option AskV :=
  match getL x.params kRealm with
  | none => none
  | some r => if sameL x.scheme.data.toList kBasic then some ⟨1, r, ⟨#[]⟩, ⟨#[]⟩, false, ⟨#[]⟩, false, []⟩ else if sameL x.scheme.data.toList kDigest then digestL x.params r else none
/-- An ask as a value, its paths at dv. -/
def askVal (a : AskV) (dv : Value) : Value := .agg #[.int .i64 (a.scheme : Int), .string a.realm, .string a.nonce, .string a.opq, .bool a.sess, .string a.qop, .bool a.stale, dv]
theorem algo_le (o : Option ByteArray) : (algoL o).1 ≤ 3 := by
  unfold algoL
  split
  · decide
  · split
    · decide
    · split
      · decide
      · split
        · decide
        · split <;> decide
theorem known_le (x : Chal) (a : AskV) (h : knownL x = some a) : 1 ≤ a.scheme ∧ a.scheme ≤ 3 := by
  unfold knownL at h
  split at h
  · cases h
  · split at h
    · cases h; exact ⟨by show 1 ≤ 1; omega, by show 1 ≤ 3; omega⟩
    · split at h
      · unfold digestL at h
        split at h
        · cases h
        · rename_i h0
          split at h
          · cases h
          · split at h
            · cases h
            · cases h
              have := algo_le (getL x.params kAlgo)
              exact ⟨by show 1 ≤ (algoL (getL x.params kAlgo)).1; omega, this⟩
      · cases h
end Go.Proofs.YtlmfhbffknganaaDoor

/- The scheme that a challenge's sums are of, by the program. -/
namespace Go.Proofs.YtlmfhbffknganaaDoor
open Go.RowKit

set_option maxHeartbeats 1000000 in
theorem isWord_any (v word : ByteArray) (hv : v.size ≤ 4000) (hw : word.size ≤ 4000) (c : Nat) (w : World) (hc : w.cell? ⟨c, 0, none⟩ = some (.string v)) :
    Calls Tryd.prog 99 #[.string word, .pointer (some ⟨c, 0, none⟩)] w fun e w' => e = .returned (.bool (sameL v.data.toList word.data.toList)) ∧ Below w.heap.size w w' := by
  go_enter Tryd.func99, Tryd.ntmps99
  go_wp2_with fail
  refine (same_any _ _ hv hw _).mono ?_
  rintro e w2 ⟨rfl, hb2⟩
  go_wp2
  go_ret
  exact ⟨rfl, hb2⟩
theorem few_get {ps : List Par} {n : List UInt8} {v : ByteArray} (hf : Few ps) (h : getL ps n = some v) : v.size ≤ 3000 := by
  unfold getL at h
  obtain ⟨p, hp, rfl⟩ := Option.map_eq_some_iff.1 h
  exact (hf.2 p (List.mem_of_find?_eq_some hp)).2
set_option maxRecDepth 100000 in
set_option maxHeartbeats 2000000 in
theorem algorithm_any (c : ChV) (hf : Few c.x.params) (w : World) (hx : ChOk w c) :
    Calls Tryd.prog 72 #[.agg #[.string c.x.scheme, .string c.x.token, .slice c.a c.len c.cap]] w fun e w' => e = .returned (.tuple #[.int .i64 ((algoL (getL c.x.params kAlgo)).1 : Int), .bool (algoL (getL c.x.params kAlgo)).2]) ∧ Below w.heap.size w w' := by
  have hb1 : Below w.heap.size w (w.alloc (.cells #[.string c.x.scheme, .string c.x.token, .slice c.a c.len c.cap] 33)) := (Below.refl _ _).alloc (Nat.le_refl _) _
  have HX : Hid (ChOk (w.alloc (.cells #[.string c.x.scheme, .string c.x.token, .slice c.a c.len c.cap] 33)) c) := hx.below hb1
  have HF : Hid (Few c.x.params) := hf
  have hget := get_any c ⟨#[97, 108, 103, 111, 114, 105, 116, 104, 109]⟩ hf (by decide) _ HX.out
  have hen := enters_at Tryd.func99 (by kernel_rfl) rfl
  clear hx hf
  rcases hg : getL c.x.params kAlgo with _ | v
  · have HG : Hid (getL c.x.params (⟨#[97, 108, 103, 111, 114, 105, 116, 104, 109]⟩ : ByteArray).data.toList = none) := hg
    rw [HG.out] at hget
    have hget' : Calls Tryd.prog 37 #[.agg #[.string c.x.scheme, .string c.x.token, .slice c.a c.len c.cap], .string ⟨#[97, 108, 103, 111, 114, 105, 116, 104, 109]⟩] (w.alloc (.cells #[.string c.x.scheme, .string c.x.token, .slice c.a c.len c.cap] 33)) fun e w' => e = .returned (.tuple #[.string ⟨#[]⟩, .bool false]) ∧ Below (w.alloc (.cells #[.string c.x.scheme, .string c.x.token, .slice c.a c.len c.cap] 33)).heap.size (w.alloc (.cells #[.string c.x.scheme, .string c.x.token, .slice c.a c.len c.cap] 33)) w' := hget
    clear hget hg
    go_enter Tryd.func72, Tryd.ntmps72
    go_wp2_with (go_at_call 37; refine hget'.mono ?_; rintro e w2 ⟨rfl, hb2⟩)
    go_ret2
    exact ⟨rfl, (hb1.trans (hb2.mono (by simp))).alloc (Nat.le_trans (by simp) hb2.size) _⟩
  · have hv3 : v.size ≤ 3000 := few_get HF.out hg
    have HG : Hid (getL c.x.params (⟨#[97, 108, 103, 111, 114, 105, 116, 104, 109]⟩ : ByteArray).data.toList = some v) := hg
    rw [HG.out] at hget
    have hget' : Calls Tryd.prog 37 #[.agg #[.string c.x.scheme, .string c.x.token, .slice c.a c.len c.cap], .string ⟨#[97, 108, 103, 111, 114, 105, 116, 104, 109]⟩] (w.alloc (.cells #[.string c.x.scheme, .string c.x.token, .slice c.a c.len c.cap] 33)) fun e w' => e = .returned (.tuple #[.string v, .bool true]) ∧ Below (w.alloc (.cells #[.string c.x.scheme, .string c.x.token, .slice c.a c.len c.cap] 33)).heap.size (w.alloc (.cells #[.string c.x.scheme, .string c.x.token, .slice c.a c.len c.cap] 33)) w' := hget
    clear hget hg
    obtain ⟨A, HA⟩ : ∃ A, Hid (algoL (some v) = A) := ⟨_, rfl⟩
    rw [HA.out]
    go_enter Tryd.func72, Tryd.ntmps72
    go_wp2_with (go_at_call 37; refine hget'.mono ?_; rintro e w2 ⟨rfl, hb2⟩)
    have HB3 : Hid (Below w.heap.size w (w2.alloc (.cells #[.string v] 9))) := (hb1.trans (hb2.mono (by simp))).alloc (Nat.le_trans (by simp) hb2.size) _
    have hc3 : (w2.alloc (.cells #[.string v] 9)).cell? ⟨w2.heap.size, 0, none⟩ = some (.string v) := World.cell?_alloc_mark _ _ _ _ _
    have hlt3 : w2.heap.size < (w2.alloc (.cells #[.string v] 9)).heap.size := by simp
    generalize hW3 : w2.alloc (.cells #[.string v] 9) = W3 at HB3 hc3 hlt3 ⊢
    clear hW3
    refine (isWord_any v ⟨#[77, 68, 53]⟩ (by omega) (by decide) _ _ hc3).mono ?_
    rintro e w4 ⟨rfl, hb4⟩
    have HB4 : Hid (Below w.heap.size w w4) := HB3.out.trans (hb4.mono HB3.out.size)
    have hc4 := (hb4.cell (p := ⟨w2.heap.size, 0, none⟩) hlt3).trans hc3
    have hlt4 := Nat.lt_of_lt_of_le hlt3 hb4.size
    clear hb4 hc3
    cases h4 : sameL v.data.toList (⟨#[77, 68, 53]⟩ : ByteArray).data.toList
    case true =>
      have HE : Hid (A = (2, false)) := by show _ = _; rw [← HA.out]; unfold algoL; simp only [];  rw [if_pos (show sameL v.data.toList kMd5 = true from h4)]
      go_wp2
      go_ret2
      exact ⟨by rw [HE.out]; rfl, HB4.out⟩
    case false =>
      go_wp2_with fail
      refine (isWord_any v ⟨#[77, 68, 53, 45, 115, 101, 115, 115]⟩ (by omega) (by decide) _ _ hc4).mono ?_
      rintro e w5 ⟨rfl, hb5⟩
      have HB5 : Hid (Below w.heap.size w w5) := HB4.out.trans (hb5.mono HB4.out.size)
      have hc5 := (hb5.cell (p := ⟨w2.heap.size, 0, none⟩) hlt4).trans hc4
      have hlt5 := Nat.lt_of_lt_of_le hlt4 hb5.size
      clear hb5 hc4
      cases h5 : sameL v.data.toList (⟨#[77, 68, 53, 45, 115, 101, 115, 115]⟩ : ByteArray).data.toList
      case true =>
        have HE : Hid (A = (2, true)) := by show _ = _; rw [← HA.out]; unfold algoL; simp only []; rw [if_neg (by rw [show sameL v.data.toList kMd5 = false from h4]; simp)]; rw [if_pos (show sameL v.data.toList kMd5s = true from h5)]
        go_wp2
        go_ret2
        exact ⟨by rw [HE.out]; rfl, HB5.out⟩
      case false =>
        go_wp2_with fail
        refine (isWord_any v ⟨#[83, 72, 65, 45, 50, 53, 54]⟩ (by omega) (by decide) _ _ hc5).mono ?_
        rintro e w6 ⟨rfl, hb6⟩
        have HB6 : Hid (Below w.heap.size w w6) := HB5.out.trans (hb6.mono HB5.out.size)
        have hc6 := (hb6.cell (p := ⟨w2.heap.size, 0, none⟩) hlt5).trans hc5
        have hlt6 := Nat.lt_of_lt_of_le hlt5 hb6.size
        clear hb6 hc5
        cases h6 : sameL v.data.toList (⟨#[83, 72, 65, 45, 50, 53, 54]⟩ : ByteArray).data.toList
        case true =>
          have HE : Hid (A = (3, false)) := by show _ = _; rw [← HA.out]; unfold algoL; simp only []; rw [if_neg (by rw [show sameL v.data.toList kMd5 = false from h4]; simp)]; rw [if_neg (by rw [show sameL v.data.toList kMd5s = false from h5]; simp)]; rw [if_pos (show sameL v.data.toList kSha = true from h6)]
          go_wp2
          go_ret2
          exact ⟨by rw [HE.out]; rfl, HB6.out⟩
        case false =>
          go_wp2_with fail
          refine (isWord_any v ⟨#[83, 72, 65, 45, 50, 53, 54, 45, 115, 101, 115, 115]⟩ (by omega) (by decide) _ _ hc6).mono ?_
          rintro e w7 ⟨rfl, hb7⟩
          have HB7 : Hid (Below w.heap.size w w7) := HB6.out.trans (hb7.mono HB6.out.size)
          have hc7 := (hb7.cell (p := ⟨w2.heap.size, 0, none⟩) hlt6).trans hc6
          have hlt7 := Nat.lt_of_lt_of_le hlt6 hb7.size
          clear hb7 hc6
          cases h7 : sameL v.data.toList (⟨#[83, 72, 65, 45, 50, 53, 54, 45, 115, 101, 115, 115]⟩ : ByteArray).data.toList
          case true =>
            have HE : Hid (A = (3, true)) := by show _ = _; rw [← HA.out]; unfold algoL; simp only []; rw [if_neg (by rw [show sameL v.data.toList kMd5 = false from h4]; simp)]; rw [if_neg (by rw [show sameL v.data.toList kMd5s = false from h5]; simp)]; rw [if_neg (by rw [show sameL v.data.toList kSha = false from h6]; simp)]; rw [if_pos (show sameL v.data.toList kShas = true from h7)]
            go_wp2
            go_ret2
            exact ⟨by rw [HE.out]; rfl, HB7.out⟩
          case false =>
            have HE : Hid (A = (0, false)) := by show _ = _; rw [← HA.out]; unfold algoL; simp only []; rw [if_neg (by rw [show sameL v.data.toList kMd5 = false from h4]; simp)]; rw [if_neg (by rw [show sameL v.data.toList kMd5s = false from h5]; simp)]; rw [if_neg (by rw [show sameL v.data.toList kSha = false from h6]; simp)]; rw [if_neg (by rw [show sameL v.data.toList kShas = false from h7]; simp)]
            go_wp2
            go_ret2
            exact ⟨by rw [HE.out]; rfl, HB7.out⟩
end Go.Proofs.YtlmfhbffknganaaDoor

/- One text more at a row of texts that a call owns. -/
namespace Go.Proofs.YtlmfhbffknganaaDoor
open Go.RowKit

theorem info9 : (Tryd.prog.info? 9).map (fun i => (i.zero, i.size, i.bytes)) = some (some (.string ⟨#[]⟩), 1, 16) := by kernel_rfl
/-- A value of type []string that owns these texts, among the blocks from B on. -/
def OwnS (w : World) (B : Nat) (v : Value) (xs : List ByteArray) : Prop := w.ownsRow B 9 1 v xs.length (xs.map Value.string)
theorem OwnS.lt {w : World} {B : Nat} {v : Value} {xs : List ByteArray} (h : OwnS w B v xs) : ∀ k, v.ownBlock = some k → B ≤ k ∧ k < w.heap.size := World.ownsRow.lt h
theorem OwnS.grown {w w' : World} {B b : Nat} {v : Value} {xs : List ByteArray} (h : OwnS w B v xs) (hg : w.grownBy w' (some b)) (hb : b < B) : OwnS w' B v xs := by
  refine World.ownsRow.kept h hg (.inr ?_)
  intro e
  have := (h.lt b e).1
  omega
theorem OwnS.below {w w' : World} {B : Nat} {v : Value} {xs : List ByteArray} (h : OwnS w B v xs) (hb : Below w.heap.size w w') : OwnS w' B v xs := by
  refine World.ownsRow.kept (row := none) h ⟨hb.os, hb.tape, hb.output, hb.size, fun i hi _ => hb.block i hi⟩ ?_
  rcases v.ownBlock with _ | k
  · exact .inl rfl
  · exact .inr (by simp)
theorem ownS_nil (w : World) (B : Nat) : OwnS w B (.slice none 0 0) [] := ⟨rfl, .inl ⟨rfl, rfl⟩⟩
theorem wp_apps {ops : Array Oper} {rest : List Oper} {o : Oper} {a : Act} {Q : Exit → Act → World → Prop} (hgd : o.guard = none) (s x : Operand)
    (ho : o.op = .call { callee := .builtin .append, args := #[s, x], argTypes := #[37, 37] })
    (B : Nat) (wr : World) (v : Value) (xs : List ByteArray) (n : Nat) (hs : a.eval s = v) (hown : OwnS wr B v xs) (hn : xs.length = n) (hl : n ≤ 100000) (hB : B ≤ wr.heap.size)
    (t : ByteArray) (hx : a.eval x = .slice (some ⟨wr.heap.size, 0, none⟩) 1 1)
    (h : ∀ g cap w', OwnS w' B (.slice (some ⟨g, 0, none⟩) (n + 1) cap) (xs ++ [t]) → (wr.alloc (.cells #[.string t] 9)).grownBy w' v.ownBlock → g < w'.heap.size → wpList Tryd.prog ops Q rest (a.put o.dst (.slice (some ⟨g, 0, none⟩) (n + 1) cap)) w') :
    wpList Tryd.prog ops Q (o :: rest) a (wr.alloc (.cells #[.string t] 9)) := by
  subst hn
  obtain ⟨i0, hi0, hz0, hz1, hz2⟩ := info_parts info9
  refine wpList_append_lies _ hgd s x 37 ho B 9 i0 (.string ⟨#[]⟩) 1 16 Tryd.underlying37 hi0 hz0 hz1 hz2 rfl (by omega) v xs.length _ hs (World.ownsRow.alloc hown _) ⟨wr.heap.size, 0, none⟩ 1 1 [.string t] hx rfl
    (World.news_of_block (cs := #[.string t]) (t := 9) (fr := (0, 0)) (heap_alloc_new wr _)) (by simp [Value.oneCell']) (by omega) (by unfold maxLen; omega) (by omega) (by simp; omega) _ rfl ?_
  intro g cap w' hown1 hgrow _ hlt
  refine h g cap w' ?_ hgrow hlt
  unfold OwnS
  rw [List.length_append, List.map_append]
  exact hown1
end Go.Proofs.YtlmfhbffknganaaDoor

/- Rows of texts that lie somewhere. -/
namespace Go.Proofs.YtlmfhbffknganaaDoor
open Go.RowKit

/-- A row of texts that lies somewhere. -/
structure Strs (w : World) (a0 : Option Addr) (len b off : Nat) (xs : List ByteArray) : Prop where
  len_eq : xs.length = len
  lies : 0 < len → a0 = some ⟨b, off, none⟩ ∧ b < w.heap.size
  cells : ∀ (j : Nat) (x : ByteArray), xs[j]? = some x → w.cell? ⟨b, off + j, none⟩ = some (.string x)
theorem Strs.below {w w' : World} {a0 : Option Addr} {len b off : Nat} {xs : List ByteArray} (h : Strs w a0 len b off xs) (hb : Below w.heap.size w w') : Strs w' a0 len b off xs := by
  refine ⟨h.len_eq, fun h0 => ⟨(h.lies h0).1, Nat.lt_of_lt_of_le (h.lies h0).2 hb.size⟩, fun j x hx => ?_⟩
  have hj := (List.getElem?_eq_some_iff.1 hx).1
  have hl := h.len_eq
  rw [hb.cell (p := ⟨b, off + j, none⟩) (h.lies (by omega)).2]
  exact h.cells j x hx
theorem OwnS.strs {w : World} {B : Nat} {v : Value} {xs : List ByteArray} (h : OwnS w B v xs) : ∃ (a : Option Addr) (cap g : Nat), v = .slice a xs.length cap ∧ Strs w a xs.length g 0 xs := by
  rcases h.2 with ⟨rfl, h0⟩ | ⟨g, cap, cur, rfl, _, hh, _, _, _, ht⟩
  · refine ⟨none, 0, 0, by rw [h0], rfl, fun h1 => absurd h0 (by omega), fun j x hx => ?_⟩
    have := (List.getElem?_eq_some_iff.1 hx).1
    omega
  · refine ⟨_, cap, g, rfl, rfl, fun _ => ⟨rfl, ?_⟩, fun j x hx => ?_⟩
    · rcases Nat.lt_or_ge g w.heap.size with h1 | h1
      · exact h1
      · simp [Array.getElem?_eq_none h1] at hh
    · have hj := World.ownsRow.cells h (g := g) rfl j (.string x) (by rw [List.getElem?_map, hx]; rfl)
      rw [WideShapes.add_plain] at hj
      exact hj
theorem Strs.drewN {w : World} {a0 : Option Addr} {len b off : Nat} {xs : List ByteArray} (h : Strs w a0 len b off xs) (n : Nat) : Strs (w.drewN n) a0 len b off xs := ⟨h.len_eq, h.lies, h.cells⟩
end Go.Proofs.YtlmfhbffknganaaDoor

/- Whether a text of a row is such a one, by the library's own functions, with a closure that asks. -/
namespace Go.Proofs.YtlmfhbffknganaaDoor
open Go.RowKit

set_option maxRecDepth 100000 in
set_option maxHeartbeats 2000000 in
theorem indexS_any (K : Nat) (c : Value) (f : ByteArray → Bool) (xs : List ByteArray) (a0 : Option Addr) (len cap b off : Nat) (hlen : len ≤ 1000000) (w : World) (hx : Strs w a0 len b off xs)
    (says : ∀ w', Below w.heap.size w w' → ∀ x ∈ xs, Calls Tryd.prog K #[.string x, c] w' fun e w'' => e = .returned (.bool (f x)) ∧ Below w'.heap.size w' w'')
    (hen : ∀ (args : Array Value) (w : World), (callFunc K args).run Tryd.prog w = .ok (.enter K args) w) :
    Calls Tryd.prog 127 #[.slice a0 len cap, .func (.func K) #[] #[c]] w fun e w' => (∃ r : Int, e = .returned (.int .i64 r) ∧ decide (0 ≤ r) = xs.any f) ∧ Below w.heap.size w w' := by
  have HX : Hid (Strs w a0 len b off xs) := hx
  have hl := hx.len_eq
  clear hx
  go_enter Tryd.func127, Tryd.ntmps127
  go_wp2
  go_loopw [8] (fun i wr => ∃ (k : Nat), k ≤ len ∧ i = .int .i64 k ∧ Hid ((xs.take k).any f = false) ∧ Below w.heap.size w wr) (fun i _ => len - (intOf i).toNat)
  case atStart => exact ⟨0, Nat.zero_le _, rfl, rfl, Below.refl _ _⟩
  case round =>
    obtain ⟨k, hk, rfl, HK, hb⟩ := hrel
    by_cases hlt : k < len
    · obtain ⟨x, hxk⟩ : ∃ x, xs[k]? = some x := ⟨xs[k]'(by omega), List.getElem?_eq_getElem (by omega)⟩
      have HXK : Hid (xs[k]? = some x) := hxk
      have HM : Hid (x ∈ xs) := List.mem_of_getElem? hxk
      have hs := says wr hb x HM.out
      obtain ⟨ha0, hbl⟩ := HX.out.lies (by omega)
      subst ha0
      have hcell : wr.cell? ⟨b, off + k, none⟩ = some (.string x) := (hb.cell (p := ⟨b, off + k, none⟩) hbl).trans (HX.out.cells k x hxk)
      have hbs : w.heap.size ≤ wr.heap.size := hb.size
      clear hxk
      cases hf : f x
      · have HS : Hid ((xs.take (k + 1)).any f = false) := by
          show _ = _
          obtain ⟨hk1, e⟩ := List.getElem?_eq_some_iff.1 HXK.out
          rw [List.take_succ_eq_append_getElem hk1, List.any_append, HK.out, e]
          simp [hf]
        go_wp2_with fail
        refine hs.mono ?_
        rintro e w2 ⟨rfl, hb2⟩
        rw [hf]
        go_wp2
        go_roundw
        case rel => exact ⟨k + 1, by omega, by go_num, HS, hb.trans (hb2.mono hbs)⟩
        case measure => simp [intOf]; omega
      · have HS : Hid (xs.any f = true) := List.any_eq_true.2 ⟨x, HM.out, hf⟩
        go_wp2_with fail
        refine hs.mono ?_
        rintro e w2 ⟨rfl, hb2⟩
        rw [hf]
        go_wp2
        go_ret
        exact ⟨⟨_, rfl, by rw [HS.out]; exact decide_eq_true (Int.natCast_nonneg _)⟩, hb.trans (hb2.mono hbs)⟩
    · have HS : Hid (xs.any f = false) := by
        have := HK.out
        rw [List.take_of_length_le (by omega)] at this
        exact this
      go_wp2
      go_ret
      exact ⟨⟨_, rfl, by rw [HS.out]; rfl⟩, hb⟩
set_option maxHeartbeats 1000000 in
theorem containsS_any (K : Nat) (c : Value) (f : ByteArray → Bool) (xs : List ByteArray) (a0 : Option Addr) (len cap b off : Nat) (hlen : len ≤ 1000000) (w : World) (hx : Strs w a0 len b off xs)
    (says : ∀ w', Below w.heap.size w w' → ∀ x ∈ xs, Calls Tryd.prog K #[.string x, c] w' fun e w'' => e = .returned (.bool (f x)) ∧ Below w'.heap.size w' w'')
    (hen : ∀ (args : Array Value) (w : World), (callFunc K args).run Tryd.prog w = .ok (.enter K args) w) :
    Calls Tryd.prog 102 #[.slice a0 len cap, .func (.func K) #[] #[c]] w fun e w' => e = .returned (.bool (xs.any f)) ∧ Below w.heap.size w w' := by
  go_enter Tryd.func102, Tryd.ntmps102
  go_wp2_with (go_at_call 127; refine (indexS_any K c f xs a0 len cap b off hlen _ hx says hen).mono ?_; rintro e w' ⟨⟨r, rfl, hr⟩, hb⟩)
  go_ret
  exact ⟨by first | rfl | (rw [hr]; rfl), hb⟩
end Go.Proofs.YtlmfhbffknganaaDoor

/- The words of a list, by the program. -/
namespace Go.Proofs.YtlmfhbffknganaaDoor
open Go.RowKit

/-- What is known of the whole list behind k bytes. -/
def ListAt (l : List UInt8) (ws : List (List UInt8)) (k : Nat) : Prop := listP 0 (splitL 44 l) = (listP k (splitL 44 (l.drop k))).map (ws ++ ·)
theorem drop_drop' (l : List UInt8) (a b : Nat) : (l.drop a).drop b = l.drop (a + b) := by rw [List.drop_drop]
theorem consW_nil (w : List UInt8) : consW w [] = if w = [] then [] else [w] := rfl
theorem consW_app (ws : List (List UInt8)) (w : List UInt8) (r : List (List UInt8)) : ws ++ consW w r = (ws ++ consW w []) ++ r := by
  unfold consW
  split <;> simp
theorem map_map_ex (x : Except Nat (List (List UInt8))) (f g : List (List UInt8) → List (List UInt8)) : (x.map f).map g = x.map fun y => g (f y) := by cases x <;> rfl
theorem listAt_end {l : List UInt8} {ws : List (List UInt8)} {k : Nat} (h : ListAt l ws k) (hr : restP (l.drop k) = []) : listP 0 (splitL 44 l) = .ok (ws ++ consW (wordP (l.drop k)) []) := by
  unfold ListAt at h
  rw [h, list_end _ _ hr]
  rfl
theorem listAt_more {l t : List UInt8} {ws : List (List UInt8)} {k : Nat} (h : ListAt l ws k) (hr : restP (l.drop k) = 44 :: t) (m : Nat) (hm : l.drop m = t) (hk : m = k + ((l.drop k).length - t.length)) : ListAt l (ws ++ consW (wordP (l.drop k)) []) m := by
  unfold ListAt at *
  rw [h, list_more _ _ _ hr, map_map_ex, hm, hk]
  congr 1
  funext y
  rw [consW_app]
theorem listAt_bad {l t : List UInt8} {c : UInt8} {ws : List (List UInt8)} {k : Nat} (h : ListAt l ws k) (hr : restP (l.drop k) = c :: t) (hc : c ≠ 44) : listP 0 (splitL 44 l) = .error (k + ((l.drop k).length - (restP (l.drop k)).length)) := by
  unfold ListAt at h
  rw [h, list_bad _ _ _ _ hr hc]
  rfl
/-- Where the word, and what stands behind it, begin. -/
theorem rest_at (l : List UInt8) (k : Nat) :
    wordP (l.drop k) = (l.drop (k + runL blankB (l.drop k))).takeWhile tokB ∧
    restP (l.drop k) = l.drop (k + runL blankB (l.drop k) + runL tokB (l.drop (k + runL blankB (l.drop k))) + runL blankB (l.drop (k + runL blankB (l.drop k) + runL tokB (l.drop (k + runL blankB (l.drop k)))))) := by
  have e1 : (l.drop k).dropWhile blankB = l.drop (k + runL blankB (l.drop k)) := by rw [← drop_runL, drop_drop']
  have e2 : (l.drop (k + runL blankB (l.drop k))).dropWhile tokB = l.drop (k + runL blankB (l.drop k) + runL tokB (l.drop (k + runL blankB (l.drop k)))) := by rw [← drop_runL, drop_drop']
  refine ⟨?_, ?_⟩
  · unfold wordP
    rw [e1]
  · unfold restP
    rw [e1, e2, ← drop_runL, drop_drop']
def texts (xs : List ByteArray) : List (List UInt8) := xs.map (·.data.toList)
theorem texts_snoc (xs : List ByteArray) (t : ByteArray) (w : List UInt8) (ht : t.data.toList = w) (h : t.size ≠ 0) : texts (xs ++ [t]) = texts xs ++ consW w [] := by
  have hw : w ≠ [] := by
    rw [← ht]
    intro e
    have := len_data t
    rw [e] at this
    exact h this.symm
  unfold texts consW
  rw [List.map_append, List.map_singleton, ht, if_neg hw]
theorem texts_same (xs : List ByteArray) (t : ByteArray) (w : List UInt8) (ht : t.data.toList = w) (h : t.size = 0) : texts xs = texts xs ++ consW w [] := by
  have hw : w = [] := by
    rw [← ht]
    exact List.eq_nil_of_length_eq_zero (by rw [len_data]; exact h)
  unfold consW
  rw [if_pos hw, List.append_nil]
theorem empty_at {s : ByteArray} (h : s.size = 0) : s = ⟨#[]⟩ := by
  apply ByteArray.ext
  exact Array.eq_empty_of_size_eq_zero h
theorem not_empty_at {s : ByteArray} (h : s.size ≠ 0) : s.toList.isEmpty = false := by
  rw [ByteArray.toList_eq]
  cases e : s.data.toList with
  | nil =>
    have := len_data s
    rw [e] at this
    exact absurd this.symm h
  | cons x r => rfl
theorem cells_at (W : World) (cs : Array Value) (t : TypeId) (j : Nat) : (W.alloc (.cells cs t)).cell? ⟨W.heap.size, j, none⟩ = cs[j]? := World.cell?_alloc_mark _ _ _ _ _
/-- What List answers. -/
def LstAns (s : ByteArray) (B : Nat) (e : Ending) (w' : World) : Prop :=
  (∃ (xs : List ByteArray) (v : Value), listP 0 (splitL 44 s.data.toList) = .ok (texts xs) ∧ xs.length ≤ 40 ∧ e = .returned (.tuple #[v, .nilIface]) ∧ OwnS w' B v xs) ∨
  (∃ xs : List ByteArray, listP 0 (splitL 44 s.data.toList) = .ok (texts xs) ∧ 40 < xs.length ∧ e = .returned (.tuple #[.slice none 0 0, .iface 53 (.int .i64 4)])) ∨
  (∃ p g : Nat, listP 0 (splitL 44 s.data.toList) = .error p ∧ e = .returned (.tuple #[.slice none 0 0, .iface 67 (.pointer (some ⟨g, 0, none⟩))]) ∧ w'.cell? ⟨g, 0, none⟩ = some (.int .i64 3) ∧ w'.cell? ⟨g, 1, none⟩ = some (.int .i64 (p : Int)) ∧ B ≤ g)
set_option maxRecDepth 100000 in
set_option maxHeartbeats 4000000 in
theorem list_any (s : ByteArray) (hs : s.size ≤ 20000) (w : World) :
    Calls Tryd.prog 100 #[.string s] w fun e w' => LstAns s (w.heap.size + 1) e w' ∧ Below w.heap.size w w' := by
  go_enter Tryd.func100, Tryd.ntmps100
  go_wp2_with (go_at_call 24; refine (on_any s _).mono ?_; rintro e w1 ⟨rfl, hc1, hb1, hz1⟩)
  have HC1 : Hid (Cur w1 w.heap.size s 0) := hc1
  clear hc1
  go_loopg [4] s.size (fun gh v wr => ∃ (k n cap : Nat) (a : Option Addr) (xs : List ByteArray), s.size - k = gh ∧ k ≤ s.size ∧ n ≤ 41 ∧ v = .slice a n cap ∧ Hid (OwnS wr (w.heap.size + 1) (.slice a n cap) (xs.take 41) ∧ (xs.take 41).length = n ∧ ListAt s.data.toList (texts xs) k ∧ Cur wr w.heap.size s k) ∧ Below w.heap.size w wr ∧ w.heap.size < wr.heap.size)
  case atStart => exact ⟨0, 0, 0, none, [], by omega, Nat.zero_le _, by omega, rfl, ⟨ownS_nil _ _, rfl, by unfold ListAt; rw [List.drop_zero]; cases listP 0 (splitL 44 s.data.toList) <;> rfl, HC1⟩, hb1, hz1⟩
  case round =>
    obtain ⟨k, n, cap, a, xs, hgk, hk, hn, rfl, HO, hb, hz⟩ := hrel
    obtain ⟨eW, eR⟩ := rest_at s.data.toList k
    obtain ⟨k1, HK1⟩ : ∃ k1, Hid (k + runL blankB (s.data.toList.drop k) = k1) := ⟨_, rfl⟩
    rw [HK1.out] at eW eR
    obtain ⟨k2, HK2⟩ : ∃ k2, Hid (k1 + runL tokB (s.data.toList.drop k1) = k2) := ⟨_, rfl⟩
    rw [HK2.out] at eR
    obtain ⟨k3, HK3⟩ : ∃ k3, Hid (k2 + runL blankB (s.data.toList.drop k2) = k3) := ⟨_, rfl⟩
    rw [HK3.out] at eR
    have EW : Hid (wordP (s.data.toList.drop k) = (s.data.toList.drop k1).takeWhile tokB) := eW
    have ER : Hid (restP (s.data.toList.drop k) = s.data.toList.drop k3) := eR
    have hk1 : k1 ≤ s.size := by rw [← HK1.out]; exact run_rest_le _ s k hk
    have hk2 : k2 ≤ s.size := by rw [← HK2.out]; exact run_rest_le _ s k1 hk1
    have hk3 : k3 ≤ s.size := by rw [← HK3.out]; exact run_rest_le _ s k2 hk2
    have hkk : k ≤ k1 ∧ k1 ≤ k2 ∧ k2 ≤ k3 := ⟨by rw [← HK1.out]; omega, by rw [← HK2.out]; omega, by rw [← HK3.out]; omega⟩
    have HGK : Hid (s.size - k = gk) := hgk
    have HKK : Hid (k ≤ k1 ∧ k1 ≤ k2 ∧ k2 ≤ k3) := hkk
    clear eW eR hgk hkk HC1 hb1 hz1
    go_wp2_with fail
    refine (blanks_any w.heap.size s (by omega) k _ HO.out.2.2.2).mono ?_
    rintro e w2 ⟨rfl, hc2, hg2⟩
    rw [HK1.out] at hc2
    have HC2 : Hid (Cur w2 w.heap.size s k1 ∧ OwnS w2 (w.heap.size + 1) (.slice a n cap) (xs.take 41)) := ⟨hc2, HO.out.1.grown hg2 (by omega)⟩
    have hb2 : Below w.heap.size w w2 := hb.grown hg2 (by omega) (fun i hi => by injection hi with hi; omega)
    have hz2 : w.heap.size < w2.heap.size := Nat.lt_of_lt_of_le hz hg2.size
    clear hc2 hg2
    go_wp2_with fail
    refine (word_any w.heap.size s hs k1 _ HC2.out.1).mono ?_
    rintro e w3 ⟨t, rfl, ht, HT, hc3, hg3⟩
    rw [HK2.out] at hc3
    have HC3 : Hid (Cur w3 w.heap.size s k2 ∧ OwnS w3 (w.heap.size + 1) (.slice a n cap) (xs.take 41)) := ⟨hc3, HC2.out.2.grown hg3 (by omega)⟩
    have hb3 : Below w.heap.size w w3 := hb2.grown hg3 (by omega) (fun i hi => by injection hi with hi; omega)
    have hz3 : w.heap.size < w3.heap.size := Nat.lt_of_lt_of_le hz2 hg3.size
    have HTW : Hid (t.data.toList = wordP (s.data.toList.drop k)) := by show _ = _; rw [HT.out, EW.out]
    clear hc3 hg3 ht hb hz hb2 hz2
    obtain ⟨q, HQ⟩ : ∃ q : Bool, Hid (decide (t.size ≠ 0 ∧ n ≤ 40) = q) := ⟨_, rfl⟩
    go_upto_region 5 with fail
    go_cut [19] (fun v wc => v = .bool q ∧ wc = w3)
    case first =>
      by_cases ht0 : t.size = 0
      · have hq : q = false := by rw [← HQ.out]; exact decide_eq_false (fun h => h.1 ht0)
        obtain rfl := empty_at ht0
        subst hq
        go_wp2
        go_meet
        exact ⟨rfl, rfl⟩
      · have hne : t.toList.isEmpty = false := not_empty_at ht0
        by_cases h40 : n ≤ 40
        · have h40' : (n : Int) ≤ 40 := by omega
          have hq : q = true := by rw [← HQ.out]; exact decide_eq_true ⟨ht0, h40⟩
          subst hq
          go_wp2
          go_meet
          exact ⟨rfl, rfl⟩
        · have h40' : ¬ (n : Int) ≤ 40 := by omega
          have hq : q = false := by rw [← HQ.out]; exact decide_eq_false (fun h => h40 h.2)
          subst hq
          go_wp2
          go_meet
          exact ⟨rfl, rfl⟩
    case rest =>
    obtain ⟨rfl, hw3⟩ := hcut
    obtain rfl := hw3.symm
    clear hw3
    go_upto_if 19 with fail
    go_cut [4] (fun v wc => ∃ (n' cap' : Nat) (a' : Option Addr) (ys : List ByteArray), n' ≤ 41 ∧ v = .slice a' n' cap' ∧ Hid (OwnS wc (w.heap.size + 1) (.slice a' n' cap') (ys.take 41) ∧ (ys.take 41).length = n' ∧ texts ys = texts xs ++ consW (wordP (s.data.toList.drop k)) [] ∧ Cur wc w.heap.size s k2) ∧ Below w.heap.size w wc ∧ w.heap.size < wc.heap.size)
    case first =>
      cases q
      · have hor : t.size = 0 ∨ 40 < n := by
          have := of_decide_eq_false HQ.out
          omega
        by_cases ht0 : t.size = 0
        · have HX : Hid (texts xs = texts xs ++ consW (wordP (s.data.toList.drop k)) []) := texts_same xs t _ HTW.out ht0
          go_wp2
          go_meet
          exact ⟨n, cap, a, xs, hn, rfl, ⟨HC3.out.2, HO.out.2.1, HX, HC3.out.1⟩, hb3, hz3⟩
        · have HX : Hid (texts (xs ++ [t]) = texts xs ++ consW (wordP (s.data.toList.drop k)) []) := texts_snoc xs t _ HTW.out ht0
          have HXL2 : Hid ((xs ++ [t]).take 41 = xs.take 41) := by
            show _ = _
            rw [List.take_append_of_le_length]
            have := HO.out.2.1
            rw [List.length_take] at this
            omega
          go_wp2
          go_meet
          exact ⟨n, cap, a, xs ++ [t], hn, rfl, ⟨by rw [HXL2.out]; exact HC3.out.2, by rw [HXL2.out]; exact HO.out.2.1, HX, HC3.out.1⟩, hb3, hz3⟩
      · have hand : t.size ≠ 0 ∧ n ≤ 40 := of_decide_eq_true HQ.out
        obtain ⟨ht0, h40⟩ := hand
        have HX : Hid (texts (xs ++ [t]) = texts xs ++ consW (wordP (s.data.toList.drop k)) []) := texts_snoc xs t _ HTW.out ht0
        have HXL : Hid (xs.take 41 = xs) := List.take_of_length_le (by have := HO.out.2.1; rw [List.length_take] at this; omega)
        have HXL2 : Hid ((xs ++ [t]).take 41 = xs.take 41 ++ [t]) := by
          show _ = _
          rw [HXL.out, List.take_of_length_le]
          have := HO.out.2.1
          rw [HXL.out] at this
          simp
          omega
        go_wp2_with (at_builtin; refine wp_apps rfl _ _ rfl (w.heap.size + 1) w3 (.slice a n cap) (xs.take 41) n rfl HC3.out.2 HO.out.2.1 (by omega) (by omega) t rfl ?_; intro g4 cap4 w4 hown4 hg4 hlt4; have HO4 : Hid (OwnS w4 (w.heap.size + 1) (.slice (some ⟨g4, 0, none⟩) (n + 1) cap4) (xs.take 41 ++ [t]) ∧ Cur w4 w.heap.size s k2) := ⟨hown4, (HC3.out.1.below ((Below.refl _ _).alloc (Nat.le_refl _) _)).grown hg4 (fun e => by have := (HC3.out.2.lt _ e.symm).1; omega)⟩; have hb4 : Below w.heap.size w w4 := (hb3.alloc (by omega) _).grown hg4 (by simp; omega) (fun i hi => by have := (HC3.out.2.lt _ hi).1; omega); have hz4 : w.heap.size < w4.heap.size := (by have := hg4.size; simp at this; omega); clear hown4 hg4 hlt4)
        go_meet
        exact ⟨n + 1, cap4, some ⟨g4, 0, none⟩, xs ++ [t], by omega, rfl, ⟨by rw [HXL2.out]; exact HO4.out.1, by rw [HXL2.out, List.length_append, HO.out.2.1]; rfl, HX, HO4.out.2⟩, hb4, hz4⟩
    case rest =>
      obtain ⟨n', cap', a', ys, hn', rfl, HY, hbc, hzc⟩ := hcut
      go_wp2_with fail
      refine (blanks_any w.heap.size s (by omega) k2 _ HY.out.2.2.2).mono ?_
      rintro e w5 ⟨rfl, hc5, hg5⟩
      rw [HK3.out] at hc5
      have HC5 : Hid (Cur w5 w.heap.size s k3 ∧ OwnS w5 (w.heap.size + 1) (.slice a' n' cap') (ys.take 41)) := ⟨hc5, HY.out.1.grown hg5 (by omega)⟩
      have hb5 : Below w.heap.size w w5 := hbc.grown hg5 (by omega) (fun i hi => by injection hi with hi; omega)
      have hz5 : w.heap.size < w5.heap.size := Nat.lt_of_lt_of_le hzc hg5.size
      clear hc5 hg5 hbc hzc hb3 hz3
      go_wp2_with fail
      refine (end_any w.heap.size s k3 _ HC5.out.1).mono ?_
      rintro e w6 ⟨rfl, nd, rfl⟩
      by_cases hend : k3 = s.size
      · have hE : ((k3 : Int) == (s.size : Int)) = true := by rw [hend]; simp
        rw [hE]
        have HA : Hid (listP 0 (splitL 44 s.data.toList) = .ok (texts ys)) := by
          show _ = _
          rw [HY.out.2.2.1]
          refine listAt_end HO.out.2.2.1 ?_
          rw [ER.out, hend, List.drop_of_length_le (by rw [len_data]; exact Nat.le_refl _)]
        have HL : Hid ((ys.take 41).length = n') := HY.out.2.1
        by_cases hbig : (40 : Int) < (n' : Int)
        · go_wp2
          go_ret2
          refine ⟨.inr (.inl ⟨ys, HA, ?_, rfl⟩), drewN_at hb5 _⟩
          have := HL.out
          rw [List.length_take] at this
          omega
        · have HXL : Hid (ys.take 41 = ys) := List.take_of_length_le (by have := HL.out; rw [List.length_take] at this; omega)
          go_wp2
          go_ret2
          refine ⟨.inl ⟨ys, _, HA, ?_, rfl, ?_⟩, drewN_at hb5 _⟩
          · have := HL.out
            rw [HXL.out] at this
            omega
          · have := HC5.out.2
            rw [HXL.out] at this
            exact this
      · have hE : ((k3 : Int) == (s.size : Int)) = false := beq_eq_false_iff_ne.2 (by omega)
        rw [hE]
        have hlt3 : k3 < s.size := by omega
        obtain ⟨c, hcd⟩ : ∃ c : UInt8, s[k3] = c := ⟨_, rfl⟩
        have HD : Hid (restP (s.data.toList.drop k) = c :: s.data.toList.drop (k3 + 1)) := by
          show _ = _
          rw [ER.out, List.drop_eq_getElem_cons (by rw [len_data]; exact hlt3), ← hcd]
          rfl
        by_cases h44 : c = 44
        · subst h44
          have HA : Hid (ListAt s.data.toList (texts ys) (k3 + 1)) := by
            show ListAt _ _ _
            rw [HY.out.2.2.1]
            refine listAt_more HO.out.2.2.1 HD.out _ rfl ?_
            rw [List.length_drop, List.length_drop, len_data]
            have := HKK.out
            omega
          go_wp2_with fail
          refine (mark_yes w.heap.size s (by omega) k3 hlt3 44 hcd _ (HC5.out.1.drewN nd)).mono ?_
          rintro e w7 ⟨rfl, hc7, hg7⟩
          have HC7 : Hid (Cur w7 w.heap.size s (k3 + 1) ∧ OwnS w7 (w.heap.size + 1) (.slice a' n' cap') (ys.take 41)) := ⟨hc7, OwnS.grown (w := w5.drewN nd) HC5.out.2 hg7 (by omega)⟩
          have hb7 : Below w.heap.size w w7 := (drewN_at hb5 nd).grown hg7 (by show w.heap.size ≤ w5.heap.size; omega) (fun i hi => by injection hi with hi; omega)
          have hz7 : w.heap.size < w7.heap.size := Nat.lt_of_lt_of_le hz5 hg7.size
          clear hc7 hg7
          go_wp2
          go_roundg (s.size - (k3 + 1))
          case measure => have := HKK.out; have := HGK.out; omega
          case rel => exact ⟨k3 + 1, n', cap', a', ys, rfl, by omega, hn', rfl, ⟨HC7.out.2, HY.out.2.1, HA, HC7.out.1⟩, hb7, hz7⟩
        · have HA : Hid (listP 0 (splitL 44 s.data.toList) = .error k3) := by
            show _ = _
            rw [listAt_bad HO.out.2.2.1 HD.out h44, ER.out, List.length_drop, List.length_drop, len_data]
            congr 1
            have := HKK.out
            omega
          go_wp2_with fail
          refine (mark_other w.heap.size s k3 hlt3 44 (by rw [hcd]; exact h44) _ (HC5.out.1.drewN nd)).mono ?_
          rintro e w7 ⟨rfl, ne, rfl⟩
          go_wp2_with fail
          refine (at_any w.heap.size s k3 _ (HC5.out.1.drewN (nd + ne))).mono ?_
          rintro e w8 ⟨rfl, rfl⟩
          go_wp2
          go_ret2
          refine ⟨.inr (.inr ⟨k3, _, HA, rfl, ?_, ?_, ?_⟩), ?_⟩
          · exact cells_at _ _ _ 0
          · exact cells_at _ _ _ 1
          · exact hz5
          · exact (drewN_at hb5 (nd + ne)).alloc (by show w.heap.size ≤ w5.heap.size; omega) _
end Go.Proofs.YtlmfhbffknganaaDoor

/- A part of a list, trimmed: what it has to do with its word and with what stands behind it. -/
namespace Go.Proofs.YtlmfhbffknganaaDoor

def trimW (p : List UInt8) : List UInt8 := ((p.dropWhile blankB).reverse.dropWhile blankB).reverse
theorem set_blank : (fun c : UInt8 => ([32, 9] : List UInt8).contains c) = blankB := by
  funext c
  unfold blankB
  simp
  rfl
/-- What stands ahead of the blanks at the end. -/
theorem trim_split (a : List UInt8) : ∃ br : List UInt8, a = (a.reverse.dropWhile blankB).reverse ++ br ∧ br.all blankB = true := by
  refine ⟨(a.reverse.takeWhile blankB).reverse, ?_, ?_⟩
  · rw [← List.reverse_append, List.takeWhile_append_dropWhile, List.reverse_reverse]
  · rw [List.all_reverse]
    exact List.all_takeWhile
theorem last_not (a : List UInt8) (h : (a.reverse.dropWhile blankB).reverse ≠ []) : ∃ (i : List UInt8) (c : UInt8), (a.reverse.dropWhile blankB).reverse = i ++ [c] ∧ blankB c = false := by
  cases e : a.reverse.dropWhile blankB with
  | nil => rw [e] at h; exact absurd rfl h
  | cons c t =>
    refine ⟨t.reverse, c, by simp, ?_⟩
    have := List.head_dropWhile_not (p := blankB) (l := a.reverse) (by rw [e]; simp)
    simp only [e, List.head_cons] at this
    simpa using this
theorem first_not (p : List UInt8) (c : UInt8) (t : List UInt8) (h : p.dropWhile blankB = c :: t) : blankB c = false := by
  have := List.head_dropWhile_not (p := blankB) (l := p) (by rw [h]; simp)
  simp only [h, List.head_cons] at this
  simpa using this
theorem dw_all (f : UInt8 → Bool) (l r : List UInt8) (h : l.all f = true) : (l ++ r).dropWhile f = r.dropWhile f := by
  induction l with
  | nil => rfl
  | cons c t ih =>
    rw [List.all_cons, Bool.and_eq_true] at h
    rw [List.cons_append, List.dropWhile_cons, if_pos h.1, ih h.2]
theorem dw_part (f : UInt8 → Bool) (l r : List UInt8) (h : l.all f = false) : (l ++ r).dropWhile f = l.dropWhile f ++ r := by
  induction l with
  | nil => simp at h
  | cons c t ih =>
    by_cases hc : f c = true
    · rw [List.all_cons, hc, Bool.true_and] at h
      rw [List.cons_append, List.dropWhile_cons, if_pos hc, ih h, List.dropWhile_cons, if_pos hc]
    · rw [List.cons_append, List.dropWhile_cons, if_neg hc, List.dropWhile_cons, if_neg hc]
      rfl
theorem rdrop_part (l r : List UInt8) (h : r.all blankB = false) : ((l ++ r).reverse.dropWhile blankB).reverse = l ++ (r.reverse.dropWhile blankB).reverse := by
  rw [List.reverse_append, dw_part blankB _ _ (by rw [List.all_reverse]; exact h), List.reverse_append, List.reverse_reverse]
theorem trimS_is (p : List UInt8) : Lib.trimS p [32, 9] = trimW p := by
  unfold Lib.trimS Lib.trimRightS Lib.trimLeftS trimW
  rw [set_blank]
  have hp : p = p.takeWhile blankB ++ p.dropWhile blankB := List.takeWhile_append_dropWhile.symm
  cases hd : p.dropWhile blankB with
  | nil =>
    have ha : p.all blankB = true := (dw_nil _ _).1 hd
    have : p.reverse.dropWhile blankB = [] := (dw_nil _ _).2 (by rw [List.all_reverse]; exact ha)
    rw [this]
    rfl
  | cons c t =>
    have hc := first_not p c t hd
    have hna : (c :: t).all blankB = false := by rw [List.all_cons, hc]; rfl
    have e1 : (p.reverse.dropWhile blankB).reverse = p.takeWhile blankB ++ ((c :: t).reverse.dropWhile blankB).reverse := by
      conv => lhs; rw [hp, hd]
      exact rdrop_part _ _ hna
    obtain ⟨br, e, hb⟩ := trim_split (c :: t)
    rw [e1, dw_all blankB _ _ List.all_takeWhile]
    cases hr : ((c :: t).reverse.dropWhile blankB).reverse with
    | nil =>
      rw [hr, List.nil_append] at e
      rw [← e, hna] at hb
      cases hb
    | cons d u =>
      rw [hr, List.cons_append, List.cons.injEq] at e
      rw [List.dropWhile_cons, ← e.1, hc]
      rfl
theorem tw_all (f : UInt8 → Bool) (l r : List UInt8) (h : l.all f = true) (hr : r.takeWhile f = []) : (l ++ r).takeWhile f = l := by
  rw [List.takeWhile_append_of_pos (by simpa [List.all_eq_true] using h), hr, List.append_nil]
theorem blank_no_tok (c : UInt8) (h : blankB c = true) : tokB c = false := by
  unfold blankB at h
  rcases Bool.or_eq_true _ _ ▸ h with h | h
  · rw [eq_of_beq h]; decide
  · rw [eq_of_beq h]; decide
theorem tok_no_blank (c : UInt8) (h : tokB c = true) : blankB c = false := by
  cases e : blankB c
  · rfl
  · rw [blank_no_tok c e] at h; cases h
theorem tw_blank (br : List UInt8) (h : br.all blankB = true) : br.takeWhile tokB = [] := by
  cases br with
  | nil => rfl
  | cons c t =>
    rw [List.all_cons, Bool.and_eq_true] at h
    rw [List.takeWhile_cons, blank_no_tok c h.1]
    rfl
theorem dw_blank_tok (br : List UInt8) (h : br.all blankB = true) : br.dropWhile tokB = br := by
  cases br with
  | nil => rfl
  | cons c t =>
    rw [List.all_cons, Bool.and_eq_true] at h
    rw [List.dropWhile_cons, blank_no_tok c h.1]
    rfl
theorem part_none (p : List UInt8) (h : trimW p = []) : restP p = [] ∧ wordP p = [] := by
  obtain ⟨br, e, hb⟩ := trim_split (p.dropWhile blankB)
  have h1 : (p.dropWhile blankB).reverse.dropWhile blankB = [] := by
    have := congrArg List.reverse h
    unfold trimW at this
    simpa using this
  rw [h1] at e
  simp only [List.reverse_nil, List.nil_append] at e
  unfold restP wordP
  cases hc : p.dropWhile blankB with
  | nil => exact ⟨rfl, rfl⟩
  | cons c t =>
    have hn := first_not p c t hc
    rw [hc] at e
    rw [← e, List.all_cons, hn] at hb
    cases hb
theorem part_word (p : List UInt8) (h : isL (trimW p) = true) : restP p = [] ∧ wordP p = trimW p := by
  obtain ⟨br, e, hb⟩ := trim_split (p.dropWhile blankB)
  have e2 : p.dropWhile blankB = trimW p ++ br := e
  unfold isL at h
  rw [Bool.and_eq_true] at h
  unfold restP wordP
  rw [e2]
  refine ⟨?_, tw_all tokB _ _ h.2 (tw_blank br hb)⟩
  rw [dw_all tokB _ _ h.2, dw_blank_tok br hb]
  exact (dw_nil _ _).2 hb
/-- How many bytes of the trimmed part are a word and the blanks behind it. -/
def badN (w : List UInt8) : Nat := if runL tokB w = 0 then 0 else runL tokB w + runL blankB (w.drop (runL tokB w))
theorem trimIndex_at (bl w br : List UInt8) (hb : bl.all blankB = true) (c : UInt8) (t : List UInt8) (hw : w = c :: t) (hc : blankB c = false) : Lib.index (bl ++ w ++ br) w = bl.length := by
  induction bl with
  | nil =>
    subst hw
    show Lib.index (c :: (t ++ br)) (c :: t) = 0
    rw [Lib.index, if_pos]
    rw [List.isPrefixOf_iff_prefix]
    exact ⟨br, rfl⟩
  | cons d r ih =>
    rw [List.all_cons, Bool.and_eq_true] at hb
    have ih := ih hb.2
    show Lib.index (d :: (r ++ w ++ br)) w = _
    rw [Lib.index, if_neg, ih, if_neg]
    · simp
    · simp
    · intro hp
      rw [hw, List.isPrefixOf_iff_prefix] at hp
      obtain ⟨z, hz⟩ := hp
      have : c = d := by
        have := congrArg List.head? hz
        simpa using this
      rw [this, hb.1] at hc
      cases hc
theorem part_bad (p : List UInt8) (h0 : trimW p ≠ []) (h : isL (trimW p) = false) : restP p ≠ [] ∧ p.length - (restP p).length = runL blankB p + badN (trimW p) ∧ Lib.index p (trimW p) = runL blankB p := by
  obtain ⟨br, e, hb⟩ := trim_split (p.dropWhile blankB)
  have e2 : p.dropWhile blankB = trimW p ++ br := e
  obtain ⟨i, cl, el, hcl⟩ := last_not (p.dropWhile blankB) h0
  have el2 : trimW p = i ++ [cl] := el
  have hnt : (trimW p).all tokB = false := by
    unfold isL at h
    cases ht : (trimW p).all tokB
    · rfl
    · rw [ht, Bool.and_true] at h
      have : (trimW p).isEmpty = true := by simpa using h
      exact absurd (List.isEmpty_iff.1 this) h0
  obtain ⟨c, t, hct⟩ : ∃ c t, trimW p = c :: t := by
    cases hh : trimW p with
    | nil => exact absurd hh h0
    | cons c t => exact ⟨c, t, rfl⟩
  have hc : blankB c = false := first_not p c (t ++ br) (by rw [e2, hct]; rfl)
  have hpl : p.length = runL blankB p + ((trimW p).length + br.length) := by
    have h1 := drop_runL blankB p
    have h2 := congrArg List.length h1
    rw [List.length_drop, e2, List.length_append] at h2
    have := runL_le blankB p
    omega
  have hdr : (trimW p).dropWhile tokB = (trimW p).drop (runL tokB (trimW p)) := (drop_runL _ _).symm
  have hlt : runL tokB (trimW p) < (trimW p).length := by
    have h1 := runL_le tokB (trimW p)
    rcases Nat.lt_or_ge (runL tokB (trimW p)) (trimW p).length with h2 | h2
    · exact h2
    · have : runL tokB (trimW p) = (trimW p).length := by omega
      rw [(runL_all _ _).1 this] at hnt
      cases hnt
  have hnb : ((trimW p).drop (runL tokB (trimW p))).all blankB = false := by
    cases hx : ((trimW p).drop (runL tokB (trimW p))).all blankB
    · rfl
    · have hm : cl ∈ (trimW p).drop (runL tokB (trimW p)) := by
        rw [el2] at hlt ⊢
        rw [List.drop_append_of_le_length (by simp at hlt; omega)]
        simp
      have := List.all_eq_true.1 hx cl hm
      rw [hcl] at this
      cases this
  have hrest : restP p = (trimW p).drop (runL tokB (trimW p) + runL blankB ((trimW p).drop (runL tokB (trimW p)))) ++ br := by
    unfold restP
    rw [e2, dw_part tokB _ _ hnt, hdr, dw_part blankB _ _ hnb, ← drop_runL, List.drop_drop]
  have hn2 : runL blankB ((trimW p).drop (runL tokB (trimW p))) < ((trimW p).drop (runL tokB (trimW p))).length := by
    have h1 := runL_le blankB ((trimW p).drop (runL tokB (trimW p)))
    rcases Nat.lt_or_ge (runL blankB ((trimW p).drop (runL tokB (trimW p)))) ((trimW p).drop (runL tokB (trimW p))).length with h2 | h2
    · exact h2
    · rw [(runL_all _ _).1 (by omega)] at hnb
      cases hnb
  rw [List.length_drop] at hn2
  have hbad : badN (trimW p) = runL tokB (trimW p) + runL blankB ((trimW p).drop (runL tokB (trimW p))) := by
    unfold badN
    split
    · rename_i hz
      rw [hz, List.drop_zero, hct]
      have : runL blankB (c :: t) = 0 := by
        unfold runL
        rw [List.takeWhile_cons, hc]
        rfl
      rw [this]
    · rfl
  refine ⟨?_, ?_, ?_⟩
  · rw [hrest]
    intro hx
    have := congrArg List.length hx
    simp at this
    omega
  · rw [hrest, List.length_append, List.length_drop, hbad]
    omega
  · have hp : p = p.takeWhile blankB ++ trimW p ++ br := by
      rw [List.append_assoc, ← e2, List.takeWhile_append_dropWhile]
    have := trimIndex_at (p.takeWhile blankB) (trimW p) br List.all_takeWhile c t hct hc
    rw [← hp] at this
    rw [this]
    rfl
theorem part_size (d : UInt8) : ∀ (l : List UInt8) (p : List UInt8), p ∈ splitL d l → p.length ≤ l.length
  | [], p, h => by
    have : p = [] := by simpa [splitL] using h
    rw [this]
    exact Nat.le_refl _
  | c :: t, p, h => by
    rw [splitL] at h
    split at h
    · rcases List.mem_cons.1 h with rfl | h
      · simp
      · have := part_size d t p h
        simp
        omega
    · cases e : splitL d t with
      | nil =>
        rw [e] at h
        have : p = [c] := by simpa using h
        rw [this]
        simp
      | cons q r =>
        rw [e] at h
        rcases List.mem_cons.1 h with rfl | h
        · have := part_size d t q (by rw [e]; simp)
          simp
          omega
        · have := part_size d t p (by rw [e]; simp [h])
          simp
          omega
theorem trim_length (p : List UInt8) : (trimW p).length ≤ p.length := by
  unfold trimW
  rw [List.length_reverse]
  refine Nat.le_trans (List.dropWhile_sublist _).length_le ?_
  rw [List.length_reverse]
  exact (List.dropWhile_sublist _).length_le
end Go.Proofs.YtlmfhbffknganaaDoor

/- The qop that is answered, by the program. -/
namespace Go.Proofs.YtlmfhbffknganaaDoor
open Go.RowKit

theorem cell_lt {w : World} {c j : Nat} {v : Value} (h : w.cell? ⟨c, j, none⟩ = some v) : c < w.heap.size := by
  rcases Nat.lt_or_ge c w.heap.size with h1 | h1
  · exact h1
  · simp [World.cell?, Array.getElem?_eq_none h1] at h
set_option maxHeartbeats 1000000 in
theorem likeOne_any (x n : ByteArray) (hx : x.size ≤ 4000) (hn : n.size ≤ 4000) (c : Nat) (w : World) (hc : w.cell? ⟨c, 0, none⟩ = some (.string n)) :
    Calls Tryd.prog 103 #[.string x, .pointer (some ⟨c, 0, none⟩)] w fun e w' => e = .returned (.bool (sameL x.data.toList n.data.toList)) ∧ Below w.heap.size w w' := by
  go_enter Tryd.func103, Tryd.ntmps103
  go_wp2_with fail
  refine (same_any _ _ hx hn _).mono ?_
  rintro e w2 ⟨rfl, hb2⟩
  go_wp2
  go_ret
  exact ⟨rfl, hb2⟩
set_option maxHeartbeats 1000000 in
theorem hasWord_any (xs : List ByteArray) (hxs : ∀ x ∈ xs, x.size ≤ 4000) (n : ByteArray) (hn : n.size ≤ 4000) (a : Option Addr) (cap b off : Nat) (hl : xs.length ≤ 1000) (c : Nat) (w : World) (hc : w.cell? ⟨c, 0, none⟩ = some (.slice a xs.length cap)) (hx : Strs w a xs.length b off xs) :
    Calls Tryd.prog 101 #[.string n, .pointer (some ⟨c, 0, none⟩)] w fun e w' => e = .returned (.bool (xs.any fun x => sameL x.data.toList n.data.toList)) ∧ Below w.heap.size w w' := by
  have hcl := cell_lt hc
  have hb1 : Below w.heap.size w (w.alloc (.cells #[.string n] 9)) := (Below.refl _ _).alloc (Nat.le_refl _) _
  have HX : Hid (Strs (w.alloc (.cells #[.string n] 9)) a xs.length b off xs) := hx.below hb1
  have hn1 : (w.alloc (.cells #[.string n] 9)).cell? ⟨w.heap.size, 0, none⟩ = some (.string n) := World.cell?_alloc_mark _ _ _ _ _
  have HS : Hid (∀ w', Below (w.alloc (.cells #[.string n] 9)).heap.size (w.alloc (.cells #[.string n] 9)) w' → ∀ x ∈ xs, Calls Tryd.prog 103 #[.string x, .pointer (some ⟨w.heap.size, 0, none⟩)] w' fun e w'' => e = .returned (.bool (sameL x.data.toList n.data.toList)) ∧ Below w'.heap.size w' w'') := fun w' hb x hx => likeOne_any x n (hxs x hx) hn _ w' ((hb.cell (p := ⟨w.heap.size, 0, none⟩) (by simp)).trans hn1)
  clear hx hn1
  go_enter Tryd.func101, Tryd.ntmps101
  go_wp2_with fail
  refine (containsS_any _ _ _ xs a xs.length cap b off (by omega) _ HX.out HS.out (enters_at Tryd.func103 (by kernel_rfl) rfl)).mono ?_
  rintro e w2 ⟨rfl, hb2⟩
  go_wp2
  go_ret
  exact ⟨rfl, hb1.trans (hb2.mono (by simp))⟩
theorem any_texts (xs : List ByteArray) (n : List UInt8) : (texts xs).any (sameL · n) = xs.any fun x => sameL x.data.toList n := by unfold texts; rw [List.any_map]; rfl
theorem words_size (P : List (List UInt8)) : ∀ w ∈ wordsP P, ∃ p ∈ P, w.length ≤ p.length := by
  induction P with
  | nil => intro w hw; cases hw
  | cons p r ih =>
    intro w hw
    rw [wordsP, consW] at hw
    split at hw
    · obtain ⟨q, hq, h⟩ := ih w hw
      exact ⟨q, by simp [hq], h⟩
    · rcases List.mem_cons.1 hw with rfl | hw
      · refine ⟨p, by simp, ?_⟩
        unfold wordP
        exact Nat.le_trans (List.takeWhile_sublist _).length_le (List.dropWhile_sublist _).length_le
      · obtain ⟨q, hq, h⟩ := ih w hw
        exact ⟨q, by simp [hq], h⟩
theorem list_size {l : List UInt8} {xs : List ByteArray} (h : listP 0 (splitL 44 l) = .ok (texts xs)) : ∀ x ∈ xs, x.size ≤ l.length := by
  intro x hx
  have h1 := ((listP_ok _ _ _).1 h).2
  obtain ⟨p, hp, hl⟩ := words_size (splitL 44 l) x.data.toList (by rw [← h1]; exact List.mem_map.2 ⟨x, hx, rfl⟩)
  have := part_size 44 l p hp
  rw [len_data] at hl
  omega
theorem qop_err {v : ByteArray} {p : Nat} (h : listP 0 (splitL 44 v.data.toList) = .error p) : qopL (some v) = none := by simp only [qopL, h]
theorem qop_ok {v : ByteArray} {ws : List (List UInt8)} (h : listP 0 (splitL 44 v.data.toList) = .ok ws) : qopL (some v) = if 40 < ws.length then none else if ws.any (sameL · kAuth) then some (bs kAuth) else if ws.any (sameL · kAuthI) then some (bs kAuthI) else none := by simp only [qopL, h]
set_option maxRecDepth 100000 in
set_option maxHeartbeats 2000000 in
theorem protection_any (c : ChV) (hf : Few c.x.params) (w : World) (hx : ChOk w c) :
    Calls Tryd.prog 73 #[.agg #[.string c.x.scheme, .string c.x.token, .slice c.a c.len c.cap]] w fun e w' => e = .returned (optV (qopL (getL c.x.params kQop))) ∧ Below w.heap.size w w' := by
  have hb1 : Below w.heap.size w (w.alloc (.cells #[.string c.x.scheme, .string c.x.token, .slice c.a c.len c.cap] 33)) := (Below.refl _ _).alloc (Nat.le_refl _) _
  have HX : Hid (ChOk (w.alloc (.cells #[.string c.x.scheme, .string c.x.token, .slice c.a c.len c.cap] 33)) c) := hx.below hb1
  have HF : Hid (Few c.x.params) := hf
  have hget := get_any c ⟨#[113, 111, 112]⟩ hf (by decide) _ HX.out
  have hen := enters_at Tryd.func101 (by kernel_rfl) rfl
  clear hx hf
  rcases hg : getL c.x.params kQop with _ | v
  · have HG : Hid (getL c.x.params (⟨#[113, 111, 112]⟩ : ByteArray).data.toList = none) := hg
    rw [HG.out] at hget
    have hget' : Calls Tryd.prog 37 #[.agg #[.string c.x.scheme, .string c.x.token, .slice c.a c.len c.cap], .string ⟨#[113, 111, 112]⟩] (w.alloc (.cells #[.string c.x.scheme, .string c.x.token, .slice c.a c.len c.cap] 33)) fun e w' => e = .returned (.tuple #[.string ⟨#[]⟩, .bool false]) ∧ Below (w.alloc (.cells #[.string c.x.scheme, .string c.x.token, .slice c.a c.len c.cap] 33)).heap.size (w.alloc (.cells #[.string c.x.scheme, .string c.x.token, .slice c.a c.len c.cap] 33)) w' := hget
    clear hget hg
    go_enter Tryd.func73, Tryd.ntmps73
    go_wp2_with (go_at_call 37; refine hget'.mono ?_; rintro e w2 ⟨rfl, hb2⟩)
    go_ret2
    exact ⟨rfl, hb1.trans (hb2.mono (by simp))⟩
  · have hv3 : v.size ≤ 3000 := few_get HF.out hg
    have HG : Hid (getL c.x.params (⟨#[113, 111, 112]⟩ : ByteArray).data.toList = some v) := hg
    rw [HG.out] at hget
    have hget' : Calls Tryd.prog 37 #[.agg #[.string c.x.scheme, .string c.x.token, .slice c.a c.len c.cap], .string ⟨#[113, 111, 112]⟩] (w.alloc (.cells #[.string c.x.scheme, .string c.x.token, .slice c.a c.len c.cap] 33)) fun e w' => e = .returned (.tuple #[.string v, .bool true]) ∧ Below (w.alloc (.cells #[.string c.x.scheme, .string c.x.token, .slice c.a c.len c.cap] 33)).heap.size (w.alloc (.cells #[.string c.x.scheme, .string c.x.token, .slice c.a c.len c.cap] 33)) w' := hget
    clear hget hg
    go_enter Tryd.func73, Tryd.ntmps73
    go_wp2_with (go_at_call 37; refine hget'.mono ?_; rintro e w2 ⟨rfl, hb2⟩)
    have HB2 : Hid (Below w.heap.size w w2) := hb1.trans (hb2.mono (by simp))
    clear hget' hb1 hb2
    refine (list_any v (by omega) _).mono ?_
    rintro e w3 ⟨hl, hb3⟩
    have HB3 : Hid (Below w.heap.size w w3) := HB2.out.trans (hb3.mono HB2.out.size)
    clear hb3
    rcases hl with ⟨xs, lv, h1, h2, rfl, h3⟩ | ⟨xs, h1, h2, rfl⟩ | ⟨p, g, h1, rfl, _⟩
    · obtain ⟨a, cap, g, rfl, hS⟩ := h3.strs
      have hx4 : ∀ x ∈ xs, x.size ≤ 4000 := fun x hx => by have := list_size h1 x hx; rw [len_data] at this; omega
      have HQ : Hid (qopL (some v) = if xs.any (fun x => sameL x.data.toList kAuth) then some (bs kAuth) else if xs.any (fun x => sameL x.data.toList kAuthI) then some (bs kAuthI) else none) := by
        show _ = _
        rw [qop_ok h1, if_neg (by unfold texts; rw [List.length_map]; omega), any_texts, any_texts]
      have hb4 : Below w3.heap.size w3 (w3.alloc (.cells #[.slice a xs.length cap] 37)) := (Below.refl _ _).alloc (Nat.le_refl _) _
      have hc4 : (w3.alloc (.cells #[.slice a xs.length cap] 37)).cell? ⟨w3.heap.size, 0, none⟩ = some (.slice a xs.length cap) := World.cell?_alloc_mark _ _ _ _ _
      have hl4 : w3.heap.size < (w3.alloc (.cells #[.slice a xs.length cap] 37)).heap.size := by simp
      have HS4 : Hid (Strs (w3.alloc (.cells #[.slice a xs.length cap] 37)) a xs.length g 0 xs) := hS.below hb4
      have HB4 : Hid (Below w.heap.size w (w3.alloc (.cells #[.slice a xs.length cap] 37))) := HB3.out.trans (hb4.mono HB3.out.size)
      clear h1 h3 hS hb4
      generalize hW4 : w3.alloc (.cells #[.slice a xs.length cap] 37) = W4 at hc4 hl4 HS4 HB4
      go_wp2_with fail
      clear hW4
      refine (hasWord_any xs hx4 ⟨#[97, 117, 116, 104]⟩ (by decide) a cap g 0 (by omega) _ _ hc4 HS4.out).mono ?_
      rintro e w5 ⟨rfl, hb5⟩
      have HB5 : Hid (Below w.heap.size w w5) := HB4.out.trans (hb5.mono HB4.out.size)
      have hc5 := (hb5.cell (p := ⟨w3.heap.size, 0, none⟩) hl4).trans hc4
      have HS5 : Hid (Strs w5 a xs.length g 0 xs) := HS4.out.below hb5
      clear hb5 hc4 hl4
      cases h5 : xs.any fun x => sameL x.data.toList (⟨#[97, 117, 116, 104]⟩ : ByteArray).data.toList
      · go_wp2_with fail
        refine (hasWord_any xs hx4 ⟨#[97, 117, 116, 104, 45, 105, 110, 116]⟩ (by decide) a cap g 0 (by omega) _ _ hc5 HS5.out).mono ?_
        rintro e w6 ⟨rfl, hb6⟩
        have HB6 : Hid (Below w.heap.size w w6) := HB5.out.trans (hb6.mono HB5.out.size)
        clear hb6
        cases h6 : xs.any fun x => sameL x.data.toList (⟨#[97, 117, 116, 104, 45, 105, 110, 116]⟩ : ByteArray).data.toList
        · have HA : Hid (qopL (some v) = none) := by
            show _ = _
            rw [HQ.out, if_neg (by rw [show (xs.any fun x => sameL x.data.toList kAuth) = false from h5]; simp), if_neg (by rw [show (xs.any fun x => sameL x.data.toList kAuthI) = false from h6]; simp)]
          go_wp2
          go_ret2
          exact ⟨by rw [HA.out]; rfl, HB6.out⟩
        · have HA : Hid (qopL (some v) = some (bs kAuthI)) := by
            show _ = _
            rw [HQ.out, if_neg (by rw [show (xs.any fun x => sameL x.data.toList kAuth) = false from h5]; simp), if_pos (show (xs.any fun x => sameL x.data.toList kAuthI) = true from h6)]
          go_wp2
          go_ret2
          exact ⟨by rw [HA.out]; rfl, HB6.out⟩
      · have HA : Hid (qopL (some v) = some (bs kAuth)) := by
          show _ = _
          rw [HQ.out, if_pos (show (xs.any fun x => sameL x.data.toList kAuth) = true from h5)]
        go_wp2
        go_ret2
        exact ⟨by rw [HA.out]; rfl, HB5.out⟩
    · have HA : Hid (qopL (some v) = none) := by
        show _ = _
        rw [qop_ok h1, if_pos (by unfold texts; rw [List.length_map]; exact h2)]
      go_wp2
      go_ret2
      exact ⟨by rw [HA.out]; rfl, HB3.out.alloc HB3.out.size _⟩
    · have HA : Hid (qopL (some v) = none) := qop_err h1
      go_wp2
      go_ret2
      exact ⟨by rw [HA.out]; rfl, HB3.out.alloc HB3.out.size _⟩
end Go.Proofs.YtlmfhbffknganaaDoor

/- The library's contracts that are leant on, laid at this program's numbers. -/
namespace Go.Proofs.YtlmfhbffknganaaDoor
open Go.Shelf Go.RowKit
def lays146_ren : Go.Shelf.Ren := ⟨fun | 146 => 104 | 221 => 128 | 268 => 146 | 138 => 147 | 143 => 148 | 195 => 155 | 197 => 94 | 218 => 156 | 219 => 152 | 260 => 124 | 217 => 107 | 225 => 145 | 224 => 144 | 267 => 157 | 266 => 133 | 314 => 158 | n => n, fun | 9 => 9 | 31 => 37 | 3 => 3 | 4 => 4 | 0 => 0 | 105 => 118 | 21 => 21 | 5 => 5 | 46 => 107 | 119 => 152 | 139 => 155 | 138 => 154 | 146 => 166 | 51 => 135 | n => n, fun | 1 => 3 | 3 => 1 | 4 => 2 | n => n⟩
theorem lays146 : Go.Proofs.Lays.n146 Tryd.prog lays146_ren := {
  mixed := by kernel_rfl
  f138 := Tryd.func147.trans (congrArg some (by kernel_rfl))
  f143 := Tryd.func148.trans (congrArg some (by kernel_rfl))
  f146 := Tryd.func104.trans (congrArg some (by kernel_rfl))
  f195 := Tryd.func155.trans (congrArg some (by kernel_rfl))
  f197 := Tryd.func94.trans (congrArg some (by kernel_rfl))
  f217 := Tryd.func107.trans (congrArg some (by kernel_rfl))
  f218 := Tryd.func156.trans (congrArg some (by kernel_rfl))
  f219 := Tryd.func152.trans (congrArg some (by kernel_rfl))
  f221 := Tryd.func128.trans (congrArg some (by kernel_rfl))
  f224 := Tryd.func144.trans (congrArg some (by kernel_rfl))
  f225 := Tryd.func145.trans (congrArg some (by kernel_rfl))
  f260 := Tryd.func124.trans (congrArg some (by kernel_rfl))
  f266 := Tryd.func133.trans (congrArg some (by kernel_rfl))
  f267 := Tryd.func157.trans (congrArg some (by kernel_rfl))
  f268 := Tryd.func146.trans (congrArg some (by kernel_rfl))
  f314 := Tryd.func158.trans (congrArg some (by kernel_rfl))
  t0 := Tryd.underlying0
  a0 := Tryd.isAgg0
  z0 := Tryd.sizeOf0
  v0 := Tryd.zeroValue0
  t3 := Tryd.underlying3
  a3 := Tryd.isAgg3
  z3 := Tryd.sizeOf3
  v3 := Tryd.zeroValue3
  t4 := Tryd.underlying4
  a4 := Tryd.isAgg4
  z4 := Tryd.sizeOf4
  v4 := Tryd.zeroValue4
  t5 := Tryd.underlying5
  a5 := Tryd.isAgg5
  z5 := Tryd.sizeOf5
  v5 := Tryd.zeroValue5
  t9 := Tryd.underlying9
  a9 := Tryd.isAgg9
  z9 := Tryd.sizeOf9
  v9 := Tryd.zeroValue9
  t21 := Tryd.underlying21
  a21 := Tryd.isAgg21
  z21 := Tryd.sizeOf21
  v21 := Tryd.zeroValue21
  t31 := Tryd.underlying37
  a31 := Tryd.isAgg37
  z31 := Tryd.sizeOf37
  v31 := Tryd.zeroValue37
  t46 := Tryd.underlying107
  a46 := Tryd.isAgg107
  z46 := Tryd.sizeOf107
  v46 := Tryd.zeroValue107
  t51 := Tryd.underlying135
  a51 := Tryd.isAgg135
  z51 := Tryd.sizeOf135
  v51 := Tryd.zeroValue135
  t105 := Tryd.underlying118
  a105 := Tryd.isAgg118
  z105 := Tryd.sizeOf118
  v105 := Tryd.zeroValue118
  t119 := Tryd.underlying152
  a119 := Tryd.isAgg152
  z119 := Tryd.sizeOf152
  t138 := Tryd.underlying154
  a138 := Tryd.isAgg154
  z138 := Tryd.sizeOf154
  v138 := Tryd.zeroValue154
  t139 := Tryd.underlying155
  a139 := Tryd.isAgg155
  z139 := Tryd.sizeOf155
  v139 := Tryd.zeroValue155
  t146 := Tryd.underlying166
  a146 := Tryd.isAgg166
  z146 := Tryd.sizeOf166
  v146 := Tryd.zeroValue166
  g1 := by kernel_rfl
  g3 := by kernel_rfl
  g4 := by kernel_rfl }
end Go.Proofs.YtlmfhbffknganaaDoor

/- strings.Split at one byte, without a word on internal/bytealg.MaxLen. -/
namespace Go.Proofs.YtlmfhbffknganaaDoor
open Go.RowKit Go.Shelf

theorem indexB_ix (s : ByteArray) (c : UInt8) : Lib.indexB s ⟨#[c]⟩ = ixOf s.data.toList c := Lib.index_one s.data.toList c
theorem countB_ct (s : ByteArray) (c : UInt8) : Lib.countB s ⟨#[c]⟩ = s.data.toList.count c := Lib.count_one c s.data.toList
theorem splitB_list (c : UInt8) : ∀ (k : Nat) (s : ByteArray), s.data.toList.count c ≤ k → (Lib.splitB ⟨#[c]⟩ 0 k s).map (·.data.toList) = splitL c s.data.toList
  | k, s, hk => by
    rcases ixOf_first s.data.toList c with ⟨hi, hno⟩ | ⟨n, hn, hi, hno, hsp⟩
    · rw [Lib.splitB_miss _ _ _ _ ((indexB_ix s c).trans hi), splitL_part c _ hno]
      rfl
    · have hc : s.data.toList.count c = (s.data.toList.drop (n + 1)).count c + 1 := by
        conv => lhs; rw [hsp]
        rw [List.count_append, List.count_eq_zero.2 hno, List.count_cons_self]
        omega
      cases k with
      | zero => omega
      | succ k =>
        have hl : s.data.toList.length = s.size := Array.length_toList
        have e1 : (s.extract (n + (⟨#[c]⟩ : ByteArray).size) s.size).data.toList = s.data.toList.drop (n + 1) := by
          rw [ByteArray.data_extract, Array.toList_extract, List.extract_eq_take_drop]
          show List.take (s.size - (n + 1)) (List.drop (n + 1) s.data.toList) = _
          rw [List.take_of_length_le (by rw [List.length_drop]; omega)]
        have e0 : (s.extract 0 (n + 0)).data.toList = s.data.toList.take n := by
          rw [ByteArray.data_extract, Array.toList_extract, List.extract_eq_take_drop]
          simp
        rw [Lib.splitB_hit _ _ _ _ n ((indexB_ix s c).trans hi), List.map_cons, splitB_list c k _ (by rw [e1]; omega), e1, e0]
        conv => rhs; rw [hsp]
        rw [splitL_more c _ _ hno]

set_option maxHeartbeats 1000000 in
theorem split_one (s : ByteArray) (c : UInt8) (hs : s.size ≤ 20000) (w : World) :
    Calls Tryd.prog 104 #[.string s, .string ⟨#[c]⟩] w fun e w' => ∃ ps : List ByteArray, e = .returned (.slice (some ⟨w.heap.size, 0, none⟩) ps.length ps.length) ∧ ps.length ≤ s.size + 1 ∧ w' = w.alloc (.cells (ps.map Value.string).toArray 9) ∧ Hid (ps.map (·.data.toList) = splitL c s.data.toList) := by
  have h1 : 1 ≤ (⟨#[c]⟩ : ByteArray).size := Nat.le_refl _
  have hle := Lib.countB_le ⟨#[c]⟩ h1 s.size s (Nat.le_refl _)
  have hlen := Lib.splitB_all ⟨#[c]⟩ h1 0 _ s rfl
  have HL : Hid ((Lib.splitB ⟨#[c]⟩ 0 (Lib.countB s ⟨#[c]⟩) s).map (·.data.toList) = splitL c s.data.toList) := splitB_list c _ s (Nat.le_of_eq (countB_ct s c).symm)
  have hI : ∀ (x : ByteArray) (a : Array Value), x.size ≤ s.size → Calls Tryd.prog (lays146_ren.f 143) #[.string x, .string ⟨#[c]⟩] (w.alloc (.cells a (lays146_ren.t 9))) fun e w' => e = .returned (.int .i64 (Lib.indexB x ⟨#[c]⟩)) ∧ w' = w.alloc (.cells a (lays146_ren.t 9)) := fun x a _ => by
    rw [indexB_ix]
    exact Any.strings_Index_one { lays146 with } x c _
  have hC : Calls Tryd.prog (lays146_ren.f 138) #[.string s, .string ⟨#[c]⟩] w fun e w' => e = .returned (.int .i64 (Lib.countB s ⟨#[c]⟩)) ∧ w' = w := by
    rw [countB_ct]
    exact Any.strings_Count_one { lays146 with } s c w
  have g := Any.strings_genSplit_core { lays146 with } (by kernel_rfl) s ⟨#[c]⟩ 0 (-1) (Lib.countB s ⟨#[c]⟩ + 1) w (by omega) h1 (Nat.zero_le _) hI hC (by decide) (by decide) (by rw [if_pos (by decide)]; omega)
  rw [Nat.add_sub_cancel] at g
  have e2 : Lib.cellsOf (Lib.splitB ⟨#[c]⟩ 0 (Lib.countB s ⟨#[c]⟩) s) (Lib.countB s ⟨#[c]⟩ + 1) = ((Lib.splitB ⟨#[c]⟩ 0 (Lib.countB s ⟨#[c]⟩) s).map Value.string).toArray := by rw [← hlen]; exact Lib.cellsOf_full _
  rw [e2, ← hlen] at g
  have hl2 : (Lib.splitB ⟨#[c]⟩ 0 (Lib.countB s ⟨#[c]⟩) s).length ≤ s.size + 1 := by omega
  clear e2 hI hC hle hlen
  generalize Lib.splitB ⟨#[c]⟩ 0 (Lib.countB s ⟨#[c]⟩) s = ps at g HL hl2
  have g2 : Calls Tryd.prog 128 #[.string s, .string ⟨#[c]⟩, .int .i64 0, .int .i64 (-1)] w fun e w' => e = .returned (.slice (some ⟨w.heap.size, 0, none⟩) ps.length ps.length) ∧ w' = w.alloc (.cells (ps.map Value.string).toArray 9) := g
  clear g
  go_enter Tryd.func104, Tryd.ntmps104
  go_wp2_with (go_at_call 128; refine g2.mono ?_; rintro e w' ⟨rfl, hw⟩; rw [hw])
  go_ret
  exact ⟨ps, rfl, hl2, rfl, HL⟩

end Go.Proofs.YtlmfhbffknganaaDoor
