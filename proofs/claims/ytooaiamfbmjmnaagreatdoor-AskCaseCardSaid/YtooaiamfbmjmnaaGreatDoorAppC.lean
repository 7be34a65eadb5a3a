/- One challenge more at a row of challenges that a call owns. -/
import Derived.Test.YtooaiamfbmjmnaaGreatDoorAppP
import Derived.Test.YtooaiamfbmjmnaaGreatDoorChlA
namespace Go.Proofs.YtooaiamfbmjmnaaGreatDoor
open Go.RowKit

theorem infoC : (Tryz.prog.info? 24).map (fun i => (i.zero, i.size, i.bytes)) = some (some (.agg #[.string ⟨#[]⟩, .string ⟨#[]⟩, .slice none 0 0]), 3, 56) := by kernel_rfl
def chCells : List ChV → List Value
  | [] => []
  | c :: r => .string c.x.scheme :: .string c.x.token :: .slice c.a c.len c.cap :: chCells r
theorem chCells_app (a b : List ChV) : chCells (a ++ b) = chCells a ++ chCells b := by
  induction a with
  | nil => rfl
  | cons p r ih => simp [chCells, ih]
theorem chCells_at : ∀ (cs : List ChV) (j : Nat) (c : ChV), cs[j]? = some c → (chCells cs)[j * 3]? = some (.string c.x.scheme) ∧ (chCells cs)[j * 3 + 1]? = some (.string c.x.token) ∧ (chCells cs)[j * 3 + 2]? = some (.slice c.a c.len c.cap)
  | [], j, p, h => by simp at h
  | q :: r, 0, p, h => by
    simp at h
    subst h
    exact ⟨rfl, rfl, rfl⟩
  | q :: r, j + 1, p, h => by
    have h' : r[j]? = some p := by simpa using h
    have := chCells_at r j p h'
    rw [show (j + 1) * 3 = j * 3 + 1 + 1 + 1 by omega]
    simpa [chCells] using this
/-- A value of type []api.Challenge that owns these, and their parameters, among the blocks from B on. -/
def OwnC (w : World) (B : Nat) (v : Value) (cs : List ChV) : Prop := w.ownsRow B 24 3 v cs.length (chCells cs) ∧ ∀ c ∈ cs, OwnP w B (.slice c.a c.len c.cap) c.x.params
theorem OwnC.lt {w : World} {B : Nat} {v : Value} {cs : List ChV} (h : OwnC w B v cs) : ∀ k, v.ownBlock = some k → B ≤ k ∧ k < w.heap.size := World.ownsRow.lt h.1
theorem OwnC.grown {w w' : World} {B b : Nat} {v : Value} {cs : List ChV} (h : OwnC w B v cs) (hg : w.grownBy w' (some b)) (hb : b < B) : OwnC w' B v cs := by
  refine ⟨World.ownsRow.kept h.1 hg (.inr ?_), fun c hc => (h.2 c hc).grown hg hb⟩
  intro e
  have := (h.lt b e).1
  omega
theorem OwnC.below {w w' : World} {B : Nat} {v : Value} {cs : List ChV} (h : OwnC w B v cs) (hb : Below w.heap.size w w') : OwnC w' B v cs := by
  refine ⟨World.ownsRow.kept (row := none) h.1 ⟨hb.os, hb.tape, hb.output, hb.size, fun i hi _ => hb.block i hi⟩ ?_, fun c hc => (h.2 c hc).below hb⟩
  rcases v.ownBlock with _ | k
  · exact .inl rfl
  · exact .inr (by simp)
theorem ownC_nil (w : World) (B : Nat) : OwnC w B (.slice none 0 0) [] := ⟨⟨rfl, .inl ⟨rfl, rfl⟩⟩, fun c hc => by cases hc⟩
/-- The same challenges, told where their parameters lie. -/
theorem OwnC.chals {w : World} {B : Nat} {v : Value} {cs : List ChV} (h : OwnC w B v cs) : ∃ (a : Option Addr) (cap g : Nat) (ds : List ChV), v = .slice a cs.length cap ∧ Chals w a cs.length g 0 ds ∧ xsOf ds = xsOf cs ∧ (0 < cs.length → B ≤ g) ∧ (∀ c ∈ ds, 0 < c.len → B ≤ c.b) := by
  have hd : ∃ ds : List ChV, ds.length = cs.length ∧ xsOf ds = xsOf cs ∧ (∀ c ∈ ds, ChOk w c) ∧ (∀ c ∈ ds, 0 < c.len → B ≤ c.b) ∧ chCells ds = chCells cs := by
    have h2 := h.2
    clear h
    induction cs with
    | nil => exact ⟨[], rfl, rfl, fun c hc => (by cases hc), fun c hc => (by cases hc), rfl⟩
    | cons c r ih =>
      obtain ⟨ds, e1, e2, e3, e5, e4⟩ := ih (fun d hd => h2 d (by simp [hd]))
      obtain ⟨a, cap, g, hv, hp, hBg⟩ := (h2 c (by simp)).pars
      injection hv with v1 v2 v3
      refine ⟨⟨c.x, c.a, c.cap, g, 0⟩ :: ds, by simp [e1], ?_, ?_, ?_, ?_⟩
      · unfold xsOf at e2 ⊢
        simp [e2]
      · intro d hd
        rcases List.mem_cons.1 hd with rfl | hd
        · show Pars w c.a c.x.params.length g 0 c.x.params
          rw [v1]
          exact hp
        · exact e3 d hd
      · intro d hd
        rcases List.mem_cons.1 hd with rfl | hd
        · exact hBg
        · exact e5 d hd
      · show _ :: _ :: _ :: chCells ds = _
        rw [e4]
        rfl
  obtain ⟨ds, e1, e2, e3, e5, e4⟩ := hd
  rcases h.1.2 with ⟨rfl, h0⟩ | ⟨g, cap, cur, rfl, hBg, hh, _, _, _, ht⟩
  · refine ⟨none, 0, 0, ds, by rw [h0], ⟨e1, fun h1 => absurd h0 (by omega), fun j x hx => ?_, fun j x hx => ?_, fun j x hx => ?_, e3⟩, e2, fun h1 => by omega, e5⟩
    · have := (List.getElem?_eq_some_iff.1 hx).1; omega
    · have := (List.getElem?_eq_some_iff.1 hx).1; omega
    · have := (List.getElem?_eq_some_iff.1 hx).1; omega
  · refine ⟨_, cap, g, ds, rfl, ⟨e1, fun _ => ⟨rfl, (Array.getElem?_eq_some_iff.1 hh).1⟩, fun j x hx => ?_, fun j x hx => ?_, fun j x hx => ?_, e3⟩, e2, fun _ => hBg, e5⟩
    · have hj := World.ownsRow.cells h.1 (g := g) rfl (j * 3) (.string x.x.scheme) (by rw [← e4]; exact (chCells_at ds j x hx).1)
      rw [WideShapes.add_plain] at hj
      exact hj
    · have hj := World.ownsRow.cells h.1 (g := g) rfl (j * 3 + 1) (.string x.x.token) (by rw [← e4]; exact (chCells_at ds j x hx).2.1)
      rw [WideShapes.add_plain] at hj
      rw [Nat.add_assoc]
      exact hj
    · have hj := World.ownsRow.cells h.1 (g := g) rfl (j * 3 + 2) (.slice x.a x.len x.cap) (by rw [← e4]; exact (chCells_at ds j x hx).2.2)
      rw [WideShapes.add_plain] at hj
      rw [Nat.add_assoc]
      exact hj
theorem own_apart {w : World} {B B2 : Nat} {v u : Value} {cs : List ChV} {ps : List Par} (h : OwnC w B v cs) (hp : OwnP w B2 u ps) : u.ownBlock = none ∨ u.ownBlock ≠ v.ownBlock := by
  rcases hp.2 with ⟨rfl, h0⟩ | ⟨g, cap, cur, rfl, _, hh, _⟩
  · exact .inl rfl
  · refine .inr fun e => ?_
    rcases h.1.2 with ⟨rfl, h0⟩ | ⟨g2, cap2, cur2, rfl, _, hh2, _⟩
    · cases e
    · have e2 : g = g2 := by simpa [Value.ownBlock] using e
      subst e2
      rw [hh] at hh2
      injection hh2 with hh2
      injection hh2 with _ h3
      exact absurd h3 (by decide)
theorem wp_appc {ops : Array Oper} {rest : List Oper} {o : Oper} {a : Act} {Q : Exit → Act → World → Prop} (hgd : o.guard = none) (s x : Operand)
    (ho : o.op = .call { callee := .builtin .append, args := #[s, x], argTypes := #[27, 27] })
    (B : Nat) (wr : World) (v : Value) (cs : List ChV) (n : Nat) (hs : a.eval s = v) (hown : OwnC wr B v cs) (hn : cs.length = n) (hl : n ≤ 100000) (hB : B ≤ wr.heap.size)
    (c : ChV) (hc : OwnP wr B (.slice c.a c.len c.cap) c.x.params) (H : Nat) (hH : wr.heap.size = H) (hx : a.eval x = .slice (some ⟨H, 0, none⟩) 1 1)
    (h : ∀ g cap w', OwnC w' B (.slice (some ⟨g, 0, none⟩) (n + 1) cap) (cs ++ [c]) → (wr.alloc (.cells #[.string c.x.scheme, .string c.x.token, .slice c.a c.len c.cap] 24)).grownBy w' v.ownBlock → g < w'.heap.size → wpList Tryz.prog ops Q rest (a.put o.dst (.slice (some ⟨g, 0, none⟩) (n + 1) cap)) w') :
    wpList Tryz.prog ops Q (o :: rest) a (wr.alloc (.cells #[.string c.x.scheme, .string c.x.token, .slice c.a c.len c.cap] 24)) := by
  subst hn hH
  have hb1 : Below wr.heap.size wr (wr.alloc (.cells #[.string c.x.scheme, .string c.x.token, .slice c.a c.len c.cap] 24)) := (Below.refl _ _).alloc (Nat.le_refl _) _
  obtain ⟨i0, hi0, hz0, hz1, hz2⟩ := info_parts infoC
  refine wpList_append_lies _ hgd s x 27 ho B 24 i0 (.agg #[.string ⟨#[]⟩, .string ⟨#[]⟩, .slice none 0 0]) 3 56 Tryz.underlying27 hi0 hz0 hz1 hz2 rfl (by omega) v cs.length _ hs (World.ownsRow.alloc hown.1 _) ⟨wr.heap.size, 0, none⟩ 1 1 [.string c.x.scheme, .string c.x.token, .slice c.a c.len c.cap] hx rfl
    (World.news_of_block (cs := #[.string c.x.scheme, .string c.x.token, .slice c.a c.len c.cap]) (t := 24) (fr := (0, 0)) (heap_alloc_new wr _)) (by simp [Value.oneCell']) (by omega) (by unfold maxLen; omega) (by omega) (by simp; omega) _ rfl ?_
  intro g cap w' hown1 hgrow _ hlt
  refine h g cap w' ⟨?_, fun d hd => ?_⟩ hgrow hlt
  · rw [List.length_append, chCells_app]
    exact hown1
  · have hd' : OwnP wr B (.slice d.a d.len d.cap) d.x.params := by
      rcases List.mem_append.1 hd with hd | hd
      · exact hown.2 d hd
      · rw [List.mem_singleton.1 hd]; exact hc
    exact World.ownsRow.kept (hd'.below hb1) hgrow (own_apart hown hd')
end Go.Proofs.YtooaiamfbmjmnaaGreatDoor
