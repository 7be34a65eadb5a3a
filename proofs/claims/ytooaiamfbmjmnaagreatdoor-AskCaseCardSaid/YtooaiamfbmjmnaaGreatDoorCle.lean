/- A path cleaned by the program. -/
import Derived.Test.YtooaiamfbmjmnaaGreatDoorCleanQ
import Derived.Test.YtooaiamfbmjmnaaGreatDoorLix
import Derived.Test.YtooaiamfbmjmnaaGreatDoorTrm
import Derived.Test.YtooaiamfbmjmnaaGreatDoorPcs
import Derived.Test.YtooaiamfbmjmnaaGreatDoorBx
import Derived.Test.YtooaiamfbmjmnaaGreatDoorLab
import Derived.RangeFuncBox
import Derived.Maps.AppendAt
import Derived.Lib.AppendStr
namespace Go.Proofs.YtooaiamfbmjmnaaGreatDoor
open Go.RowKit Go.Shelf
attribute [local go_sem] Oper.semAt_some

theorem setCell_size (W : World) (a : Addr) (v : Value) : (W.setCell a v).heap.size = W.heap.size := by simp [World.setCell]
theorem size_of {W w2 : World} {a : Addr} {v : Value} {o : Obj} {r : Option Nat} {N : Nat} (hg : ((W.setCell a v).alloc o).grownBy w2 r) (h : N ≤ W.heap.size) : N ≤ w2.heap.size := by
  have h9 := hg.size
  rw [World.size_alloc, setCell_size] at h9
  omega
theorem cell_one_at (X : World) (u : Value) (t : TypeId) (z : Nat) (hz : X.heap.size = z) : ∀ j v, [u][j]? = some v → (X.alloc (.cells #[u] t)).cell? ((⟨z, 0, none⟩ : Addr).add j) = some v := by
  subst hz
  exact cell_one_new _ _ _
theorem vals_snoc_mk {c : UInt8} (l : List (Part c)) (x : ByteArray) (h : x.size ≤ 4000 ∧ c ∉ x.data.toList) : vals (l ++ [⟨x, h⟩]) = vals l ++ [x] := vals_snoc l ⟨x, h⟩
/-- A byte more behind a row that a call owns: where it then lies. -/
theorem wpListIn_append_b {F : Fence} {n' : Nat} {P : Program} {ops : Array Oper} {rest : List Oper} {o : Oper} {a : Act} {Q : Exit → Act → World → Prop} (w : World) (hg : o.guard = none) (sl x : Operand) (t : TypeId)
    (hop : o.op = Op.call { callee := Callee.builtin Builtin.append, args := #[sl, x], argTypes := #[t, t] })
    (base : Nat) (e : TypeId) (i : TypeInfo) (h1 : P.underlying t = some (.slice e)) (h2 : P.info? e = some i) (h3 : i.zero = some (.int .u8 0)) (h4 : i.size = 1) (h5 : i.bytes = 1)
    (g k cap : Nat) (xs : List Value) (hs : a.eval sl = .slice (some ⟨g, 0, none⟩) k cap) (hown : w.ownsRow base e 1 (.slice (some ⟨g, 0, none⟩) k cap) k xs) (ad : Addr) (c : Nat) (u : Value) (hx : a.eval x = .slice (some ad) 1 c)
    (hc : ∀ j v, [u][j]? = some v → w.cell? (ad.add j) = some v) (h1c : u.oneCell' = true) (b1 : k + 1 ≤ 140737488355328) (b3 : base ≤ w.heap.size)
    (hK : ∀ g' cap' w', w'.ownsRow base e 1 (.slice (some ⟨g', 0, none⟩) (k + 1) cap') (k + 1) (xs ++ [u]) → w.grownBy w' (some g) → (k + 1 ≤ cap → g' = g ∧ cap' = cap) → wpListIn F n' P ops Q rest (a.put o.dst (.slice (some ⟨g', 0, none⟩) (k + 1) cap')) w') :
    wpListIn F n' P ops Q (o :: rest) a w := by
  refine wpListIn_plain hg fun K hK' => ?_
  obtain ⟨v', w', hrun, r1, r2, _⟩ := run_append_own (P := P) w base t o.type e i (.int .u8 0) 1 1 h1 h2 h3 h4 h5 rfl (by decide) _ k xs hown ad 1 c [u] rfl hc (fun v hv => by simp at hv; subst hv; exact h1c) (by unfold maxLen; omega) (by omega) b3
  obtain ⟨g', cap', rfl⟩ := ownsRow_succ r1
  have r3 : k + 1 ≤ cap → g' = g ∧ cap' = cap := fun hf => by
    obtain ⟨w2, hrun2, _, _⟩ := run_append_fits (P := P) w base t o.type e i 1 h1 h2 h4 g k cap xs hown ad 1 c [u] rfl hc (fun v hv => by simp at hv; subst hv; exact h1c) hf
    rw [hrun] at hrun2
    injection hrun2 with e1 _
    injection e1 with e1 _ e3
    injection e1 with e1
    injection e1 with e1
    exact ⟨e1, e3⟩
  unfold Oper.wpIn
  refine ⟨?_, ?_⟩
  · simp [Oper.about, hop, resolve, Target.leads, Sem.run_pure]
  · rw [Oper.semAt_plain F _ _ (by rw [hop]; intro c hc'; cases hc')]
    simp [execOp, hop, resolve, invoke, builtin, hs, hx, hrun, Result.andThen]
    exact hK' _ _ (hK g' cap' w' r1 r2 r3)
/-- A text behind a row that a call owns: where it then lies. -/
theorem wpListIn_append_s {F : Fence} {n' : Nat} {P : Program} {ops : Array Oper} {rest : List Oper} {o : Oper} {a : Act} {Q : Exit → Act → World → Prop} (w : World) (hgd : o.guard = none) (sl x : Operand) (t u : TypeId)
    (ho : o.op = .call { callee := .builtin .append, args := #[sl, x], argTypes := #[t, u] })
    (base : Nat) (e : TypeId) (i : TypeInfo) (ht : P.underlying t = some (.slice e)) (hu : P.underlying u = some .string) (hi : P.info? e = some i) (hz : i.zero = some (.int .u8 0))
    (hsize : i.size = 1) (hby : i.bytes = 1)
    (g n cap : Nat) (xs : List Value) (hs : a.eval sl = .slice (some ⟨g, 0, none⟩) n cap) (hown : w.ownsRow base e 1 (.slice (some ⟨g, 0, none⟩) n cap) n xs) (s : ByteArray) (hx : a.eval x = .string s) (hn : 1 ≤ n)
    (hbytes : n + s.size ≤ 140737488355328) (hbase : base ≤ w.heap.size)
    (h : ∀ g' cap' w', w'.ownsRow base e 1 (.slice (some ⟨g', 0, none⟩) (n + s.size) cap') (n + s.size) (xs ++ Lib.strCells s) → w.grownBy w' (some g) → (n + s.size ≤ cap → g' = g ∧ cap' = cap) → wpListIn F n' P ops Q rest (a.put o.dst (.slice (some ⟨g', 0, none⟩) (n + s.size) cap')) w') : wpListIn F n' P ops Q (o :: rest) a w := by
  refine wpListIn_plain hgd fun K hK => ?_
  obtain ⟨v', w', hr, h2, h3, h4⟩ := Lib.run_append_own_string (P := P) w base t u o.type e i ht hu hi hz hsize hby _ n xs hown s (by unfold maxLen; omega) hbytes hbase
  obtain ⟨g', cap', rfl⟩ : ∃ g' cap', v' = .slice (some ⟨g', 0, none⟩) (n + s.size) cap' := by
    rcases h2.2 with ⟨_, h0⟩ | ⟨g', cap', _, h0, _⟩
    · omega
    · exact ⟨g', cap', h0⟩
  have r3 : n + s.size ≤ cap → g' = g ∧ cap' = cap := fun hf => by
    rcases hown.2 with ⟨h0, _⟩ | ⟨gg, cc, cur, h0, _, hgb, _, _, hsz, _⟩
    · cases h0
    · injection h0 with e1 _ e3
      injection e1 with e1
      injection e1 with e1
      subst e1 e3
      have hrun2 := Lib.run_append_room_string (P := P) w t u o.type e i ht hu hi hsize g n cap cur hgb s hf (by omega)
      rw [hr] at hrun2
      injection hrun2 with e1 _
      injection e1 with e1 _ e3
      injection e1 with e1
      injection e1 with e1
      exact ⟨e1, e3⟩
  unfold Oper.wpIn
  refine ⟨?_, ?_⟩
  · simp [Oper.about, ho, resolve, Target.leads, Sem.run_pure]
  · rw [Oper.semAt_plain F _ _ (by rw [ho]; intro c hc'; cases hc')]
    simp [execOp, ho, resolve, invoke, builtin, hs, hx, hr, Result.andThen]
    exact hK _ _ (h g' cap' w' h2 h3 r3)
theorem row_ne {w : World} {base : Nat} {e t : TypeId} {g n cap B : Nat} {xs : List Value} {u : Value} (h : w.ownsRow base e 1 (.slice (some ⟨g, 0, none⟩) n cap) n xs) (hb : Boxed w B t u) (hn : 2 ≤ n) : g ≠ B := by
  rintro rfl
  rcases h.2 with ⟨h0, _⟩ | ⟨gg, cc, cur, h0, _, hgb, hle, _, hsz, _⟩
  · cases h0
  · injection h0 with e1 _ e3
    injection e1 with e1
    injection e1 with e1
    subst e1 e3
    have := hgb.symm.trans hb
    simp only [Option.some.injEq, Obj.cells.injEq] at this
    rw [this.1] at hsz
    simp at hsz
    omega
theorem row_le {w : World} {base : Nat} {e : TypeId} {g n cap : Nat} {xs : List Value} (h : w.ownsRow base e 1 (.slice (some ⟨g, 0, none⟩) n cap) n xs) : n ≤ cap := by
  rcases h.2 with ⟨h0, _⟩ | ⟨gg, cc, cur, h0, _, hgb, hle, _⟩
  · cases h0
  · injection h0 with e1 _ e3
    omega

/-- A row that a call owns, shorter. -/
theorem ownsRow_take {w : World} {base : Nat} {e : TypeId} {g n cap : Nat} {xs : List Value} (h : w.ownsRow base e 1 (.slice (some ⟨g, 0, none⟩) n cap) n xs) (k : Nat) (hk : k ≤ n) : w.ownsRow base e 1 (.slice (some ⟨g, 0, none⟩) k cap) k (xs.take k) := by
  obtain ⟨h1, h2⟩ := h
  rcases h2 with ⟨h2, _⟩ | ⟨g', cap', cur, h2, h3, h4, h5, h6, h7, h8⟩
  · cases h2
  · injection h2 with e1 _ e3
    injection e1 with e1
    injection e1 with e1
    subst e1 e3
    refine ⟨by simp; omega, .inr ⟨g, cap, cur, rfl, h3, h4, by omega, h6, h7, ?_⟩⟩
    rw [← h8, List.take_take, Nat.mul_one, Nat.mul_one, Nat.min_eq_left hk]
theorem own_slice {w : World} {base : Nat} {e : TypeId} {v : Value} {n : Nat} {xs : List Value} (h : w.ownsRow base e 1 v n xs) (hv : v ≠ .slice none 0 0) : ∃ g cap, v = .slice (some ⟨g, 0, none⟩) n cap ∧ n ≤ cap ∧ base ≤ g ∧ g < w.heap.size := by
  rcases h.2 with ⟨h2, _⟩ | ⟨g', cap', cur, h2, h3, h4, h5, _⟩
  · exact absurd h2 hv
  · exact ⟨g', cap', h2, h5, h3, (Array.getElem?_eq_some_iff.1 h4).1⟩
def cellsB (l : List UInt8) : List Value := l.map fun c => Value.int .u8 (c.toNat : Int)
theorem strCells_eq (s : ByteArray) : Lib.strCells s = cellsB s.data.toList := rfl

/-- What lies in the loop's own variables: the row that is gathered, the last part, the mark. -/
structure CI (N Bo Bl Bm g cap : Nat) (l : List UInt8) (la : ByteArray) (W : World) : Prop where
  box : Boxed W Bo 59 (.slice (some ⟨g, 0, none⟩) l.length cap)
  row : W.ownsRow N 5 1 (.slice (some ⟨g, 0, none⟩) l.length cap) l.length (cellsB l)
  gm : g ≠ Bm
  cap1 : 1 ≤ cap
  las : Boxed W Bl 9 (.string la)
  mark : Boxed W Bm 5 (.int .u8 47)
theorem CI.grown {N Bo Bl Bm g cap : Nat} {l : List UInt8} {la : ByteArray} {W W' : World} {r : Option Nat} (h : CI N Bo Bl Bm g cap l la W) (hg : W.grownBy W' r) (h1 : some Bo ≠ r) (h2 : some Bl ≠ r) (h3 : some Bm ≠ r) (h4 : some g ≠ r) : CI N Bo Bl Bm g cap l la W' :=
  ⟨h.box.kept hg h1, h.row.kept hg (.inr h4), h.gm, h.cap1, h.las.kept hg h2, h.mark.kept hg h3⟩
theorem CI.alloc {N Bo Bl Bm g cap : Nat} {l : List UInt8} {la : ByteArray} {W : World} (h : CI N Bo Bl Bm g cap l la W) (o : Obj) : CI N Bo Bl Bm g cap l la (W.alloc o) :=
  h.grown (World.grownBy_alloc W o none) (by simp) (by simp) (by simp) (by simp)
theorem CI.g_cells {N Bo Bl Bm g cap : Nat} {l : List UInt8} {la : ByteArray} {W : World} (h : CI N Bo Bl Bm g cap l la W) : ∃ cur, W.heap[g]? = some (.cells cur 5 (0, 0)) ∧ N ≤ g := by
  rcases h.row.2 with ⟨h0, _⟩ | ⟨gg, cc, cur, h0, hN, hgb, _⟩
  · cases h0
  · injection h0 with e1 _ _
    injection e1 with e1
    injection e1 with e1
    subst e1
    exact ⟨cur, hgb, hN⟩
theorem CI.own (N Bo Bl Bm : Nat) {β : Type} (f : β → List UInt8) (k : β → ByteArray) : Go.Own (fun s W => ∃ g cap, CI N Bo Bl Bm g cap (f s) (k s) W) := by
  rintro s A B row ⟨g, cap, h⟩ hg hr
  obtain ⟨cur, hcur, _⟩ := h.g_cells
  have key : ∀ b, (∃ c t z, A.heap[b]? = some (.cells c t z)) → some b ≠ row := by
    rintro b ⟨c, t, z, hb⟩ e
    obtain ⟨o, ho, hc⟩ := hr b e.symm
    rw [hb] at ho
    cases ho
    cases hc
  exact ⟨g, cap, h.grown hg (key _ ⟨_, _, _, h.box⟩) (key _ ⟨_, _, _, h.las⟩) (key _ ⟨_, _, _, h.mark⟩) (key _ ⟨_, _, _, hcur⟩)⟩
theorem CI.last {N Bo Bl Bm g cap : Nat} {l : List UInt8} {la : ByteArray} {W : World} (h : CI N Bo Bl Bm g cap l la W) (hol : Bo ≠ Bl) (hlm : Bl ≠ Bm) (la' : ByteArray) : CI N Bo Bl Bm g cap l la' (W.setCell ⟨Bl, 0, none⟩ (.string la')) := by
  have hg : some Bl ≠ some g := fun e => (h.las.not_row (by decide) h.row) (by simpa [Value.ownBlock] using e)
  exact ⟨h.box.other hol _, h.row.kept (grownBy_setCell' W Bl _) (.inr (fun e => hg (by simpa [Value.ownBlock] using e.symm))), h.gm, h.cap1, h.las.set _, h.mark.other (Ne.symm hlm) _⟩
/-- A new row is laid into its variable. -/
theorem CI.stored {N Bo Bl Bm g cap g' cap' : Nat} {l l' : List UInt8} {la : ByteArray} {W w1 : World} (h : CI N Bo Bl Bm g cap l la W) (hol : Bo ≠ Bl) (hom : Bo ≠ Bm) (hN : N ≤ Bo) (hg : W.grownBy w1 (some g)) (n' : Nat) (hn' : l'.length = n') (hr : w1.ownsRow N 5 1 (.slice (some ⟨g', 0, none⟩) n' cap') n' (cellsB l')) (hgm : Boxed w1 Bm 5 (.int .u8 47) → g' ≠ Bm) (hc : 1 ≤ cap') :
    CI N Bo Bl Bm g' cap' l' la (w1.setCell ⟨Bo, 0, none⟩ (.slice (some ⟨g', 0, none⟩) n' cap')) ∧ KeepsOthers W (w1.setCell ⟨Bo, 0, none⟩ (.slice (some ⟨g', 0, none⟩) n' cap')) ∧ Below N W (w1.setCell ⟨Bo, 0, none⟩ (.slice (some ⟨g', 0, none⟩) n' cap')) ∧ w1.cell? ⟨Bo, 0, none⟩ = some (.slice (some ⟨g, 0, none⟩) l.length cap) ∧ w1.frozen? ⟨Bo, 0, none⟩ = false := by
  subst hn'
  have ho : some Bo ≠ some g := fun e => (h.box.not_row (by decide) h.row) (by simpa [Value.ownBlock] using e)
  have hl : some Bl ≠ some g := fun e => (h.las.not_row (by decide) h.row) (by simpa [Value.ownBlock] using e)
  have hm : some Bm ≠ some g := fun e => h.gm (by injection e with e; exact e.symm)
  have b1 := h.box.kept hg ho
  have l1 := h.las.kept hg hl
  have m1 := h.mark.kept hg hm
  obtain ⟨cur, hcur, hNg⟩ := h.g_cells
  have ho' : some Bo ≠ some g' := fun e => (b1.not_row (by decide) hr) (by simpa [Value.ownBlock] using e)
  refine ⟨⟨b1.set _, hr.kept (grownBy_setCell' w1 Bo _) (.inr (fun e => ho' (by simpa [Value.ownBlock] using e.symm))), hgm m1, hc, l1.other (Ne.symm hol) _, m1.other (Ne.symm hom) _⟩, ?_, ?_, b1.cell, b1.frozen⟩
  · exact (KeepsOthers.of_grownBy hg (fun j o ej hj => by injection ej with ej; subst ej; rw [hcur] at hj; cases hj; rfl)).trans (KeepsOthers.setCell _ _ _)
  · have hbw : Below N W w1 := ⟨hg.os, hg.tape, hg.output, hg.size, fun k hk => by
      have hgb := (Array.getElem?_eq_some_iff.1 hcur).1
      exact hg.block k (by omega) (fun e => by injection e with e; omega)⟩
    exact hbw.setCell (p := ⟨Bo, 0, none⟩) hN _
theorem CI.drew {N Bo Bl Bm g cap : Nat} {l : List UInt8} {la : ByteArray} {W : World} (h : CI N Bo Bl Bm g cap l la W) : CI N Bo Bl Bm g cap l la W.drew :=
  ⟨h.box, h.row.drew, h.gm, h.cap1, h.las, h.mark⟩
theorem CI.keeps {N Bo Bl Bm g cap g' cap' : Nat} {l l' : List UInt8} {la la' : ByteArray} {W W' : World} (h : CI N Bo Bl Bm g cap l la W) (h' : CI N Bo Bl Bm g' cap' l' la' W') : KeepsCell ⟨Bm, 0, none⟩ W W' := by
  intro v hv
  rw [h.mark.cell] at hv
  rw [← hv]
  exact h'.mark.cell
theorem CI.row_at {N Bo Bl Bm g cap : Nat} {l : List UInt8} {la : ByteArray} {W : World} (h : CI N Bo Bl Bm g cap l la W) (n : Nat) (hn : l.length = n) : W.ownsRow N 5 1 (.slice (some ⟨g, 0, none⟩) n cap) n (cellsB l) := by
  subst hn
  exact h.row
theorem CI.cell_at {N Bo Bl Bm g cap : Nat} {l : List UInt8} {la : ByteArray} {W : World} (h : CI N Bo Bl Bm g cap l la W) (n : Nat) (hn : l.length = n) : W.cell? ⟨Bo, 0, none⟩ = some (.slice (some ⟨g, 0, none⟩) n cap) := by
  subst hn
  exact h.box.cell
theorem cellsB_append (a b : List UInt8) : cellsB (a ++ b) = cellsB a ++ cellsB b := by simp [cellsB]
/-- A byte more is laid into the variable. -/
theorem CI.byte {N Bo Bl Bm g cap g' cap' : Nat} {l : List UInt8} {la : ByteArray} {W w1 : World} (h : CI N Bo Bl Bm g cap l la W) (hol : Bo ≠ Bl) (hom : Bo ≠ Bm) (hN : N ≤ Bo) (n : Nat) (hn : l.length = n) (c : UInt8) (tmp : Obj) (hr : w1.ownsRow N 5 1 (.slice (some ⟨g', 0, none⟩) (n + 1) cap') (n + 1) (cellsB l ++ [.int .u8 (c.toNat : Int)])) (hg : (W.alloc tmp).grownBy w1 (some g)) (hlies : n + 1 ≤ cap → g' = g ∧ cap' = cap) :
    CI N Bo Bl Bm g' cap' (l ++ [c]) la (w1.setCell ⟨Bo, 0, none⟩ (.slice (some ⟨g', 0, none⟩) (n + 1) cap')) ∧ KeepsOthers W (w1.setCell ⟨Bo, 0, none⟩ (.slice (some ⟨g', 0, none⟩) (n + 1) cap')) ∧ Below N (W.alloc tmp) (w1.setCell ⟨Bo, 0, none⟩ (.slice (some ⟨g', 0, none⟩) (n + 1) cap')) ∧ w1.cell? ⟨Bo, 0, none⟩ = some (.slice (some ⟨g, 0, none⟩) n cap) ∧ w1.frozen? ⟨Bo, 0, none⟩ = false := by
  obtain ⟨a1, a2, a3, a4, a5⟩ := (h.alloc tmp).stored hol hom hN hg (n + 1) (l' := l ++ [c]) (by simp [hn]) (by rw [cellsB_append]; exact hr) (fun hm => by
    by_cases h0 : n + 1 ≤ cap
    · rw [(hlies h0).1]
      exact h.gm
    · exact row_ne hr hm (by have := h.cap1; omega)) (by have := row_le hr; omega)
  rw [hn] at a4
  exact ⟨a1, (KeepsOthers.alloc W tmp).trans a2, a3, a4, a5⟩
/-- A text more is laid into the variable. -/
theorem CI.text {N Bo Bl Bm g cap g' cap' : Nat} {l : List UInt8} {la : ByteArray} {W w1 : World} (h : CI N Bo Bl Bm g cap l la W) (hol : Bo ≠ Bl) (hom : Bo ≠ Bm) (hN : N ≤ Bo) (n : Nat) (hn : l.length = n) (h1 : 1 ≤ n) (x : ByteArray) (hr : w1.ownsRow N 5 1 (.slice (some ⟨g', 0, none⟩) (n + x.size) cap') (n + x.size) (cellsB l ++ Lib.strCells x)) (hg : W.grownBy w1 (some g)) (hlies : n + x.size ≤ cap → g' = g ∧ cap' = cap) :
    CI N Bo Bl Bm g' cap' (l ++ x.data.toList) la (w1.setCell ⟨Bo, 0, none⟩ (.slice (some ⟨g', 0, none⟩) (n + x.size) cap')) ∧ KeepsOthers W (w1.setCell ⟨Bo, 0, none⟩ (.slice (some ⟨g', 0, none⟩) (n + x.size) cap')) ∧ Below N W (w1.setCell ⟨Bo, 0, none⟩ (.slice (some ⟨g', 0, none⟩) (n + x.size) cap')) ∧ w1.cell? ⟨Bo, 0, none⟩ = some (.slice (some ⟨g, 0, none⟩) n cap) ∧ w1.frozen? ⟨Bo, 0, none⟩ = false := by
  have hx : x.data.toList.length = x.size := Array.length_toList
  obtain ⟨a1, a2, a3, a4, a5⟩ := h.stored hol hom hN hg (n + x.size) (l' := l ++ x.data.toList) (by rw [List.length_append, hn, hx]) (by rw [cellsB_append]; exact hr) (fun hm => by
    by_cases h0 : n + x.size ≤ cap
    · rw [(hlies h0).1]
      exact h.gm
    · have := row_le (h.row_at n hn)
      exact row_ne hr hm (by omega)) (by have := row_le hr; omega)
  rw [hn] at a4
  exact ⟨a1, a2, a3, a4, a5⟩
/-- The row is cut. -/
theorem CI.cut {N Bo Bl Bm g cap : Nat} {l : List UInt8} {la : ByteArray} {W : World} (h : CI N Bo Bl Bm g cap l la W) (hol : Bo ≠ Bl) (hom : Bo ≠ Bm) (hN : N ≤ Bo) (k : Nat) (hk : k ≤ l.length) :
    CI N Bo Bl Bm g cap (l.take k) la (W.setCell ⟨Bo, 0, none⟩ (.slice (some ⟨g, 0, none⟩) k cap)) := by
  obtain ⟨a1, _⟩ := h.stored hol hom hN (⟨rfl, rfl, rfl, Nat.le_refl _, fun _ _ _ => rfl⟩) k (l' := l.take k) (by simp; omega) (by
    have := ownsRow_take h.row k hk
    rw [show cellsB (l.take k) = (cellsB l).take k by simp [cellsB, List.map_take]]
    exact this) (fun _ => h.gm) h.cap1
  exact a1
theorem CI.row_cells {N Bo Bl Bm g cap : Nat} {l : List UInt8} {la : ByteArray} {W : World} (h : CI N Bo Bl Bm g cap l la W) : ∀ j (hj : j < l.length), W.cell? ⟨g, j, none⟩ = some (.int .u8 (l[j].toNat : Int)) := fun j hj => by
  rw [h.row.cellAt j (by simpa using hj)]
  simp [cellsB, hj]

set_option maxRecDepth 100000 in
set_option maxHeartbeats 2000000 in
theorem clean_any (s : ByteArray) (hs : s.size ≤ 3500) (w : World) :
    Calls Tryz.prog 110 #[.string s] w fun e w' => e = .returned (.string (bs (cleanL s.data.toList))) ∧ Below w.heap.size w w' := by
  obtain ⟨i0, hi0, hz0, hz1, hz2⟩ := info_parts info5
  obtain ⟨b, HB⟩ : ∃ b : ByteArray, Hid (bs (bodyL s.data.toList) = b) := ⟨_, rfl⟩
  have hbz : b.size ≤ 3500 := by
    rw [← HB.out, bs_size]
    have e : s.data.toList.length = s.size := Array.length_toList
    have h : (bodyL s.data.toList).length ≤ s.data.toList.length := by
      unfold bodyL
      split
      · rename_i h
        rw [h]
        simp
      · exact Nat.le_refl _
    omega
  refine (callsIn_wide (n := 3)).1 ?_
  refine callsIn_of_wp_marks Tryz.func110 rfl trivial ?_ rfl
  simp only [Tryz.ntmps110, List.size_toArray, List.length_cons, List.length_nil, Nat.reduceAdd, Nat.reduceSub, Array.replicate_succ, Array.replicate_zero, List.push_toArray, List.append_toArray, List.nil_append, List.cons_append]
  gi_wp2_with (first
    | (gi_at_make; refine wpListIn_make_own _ rfl _ _ 59 rfl w.heap.size 5 i0 (.int .u8 0) 1 Tryz.underlying59 hi0 hz0 hz1 .i64 .i64 _ (s.size + 1) rfl rfl (by omega) (by rw [hz2]; omega) (by unfold maxLen; omega) (Nat.le_refl _) ?_; intro w1 hown1 hgrow1)
    | (refine ⟨trivial, ?_⟩; gi_at_call 131; refine (callsIn_wide.2 (trimP s (by omega) _)).mono ?_; rintro e w' ⟨rfl, rfl⟩; rw [HB.out])
    | (refine ⟨trivial, ?_⟩; gi_at_call 130; refine (callsIn_wide.2 (pieces_any _ _ _)).mono ?_; rintro e w' ⟨rfl, rfl⟩))
  have hb1 : Below w.heap.size w w1 := (Below.refl _ _).grown hgrow1 (Nat.le_refl _) (by simp)
  have hg1 : w.heap.size < w1.heap.size := (hown1.lt w.heap.size rfl).2
  have q0 := Boxed.new w1 59 (.slice (some ⟨w.heap.size, 0, none⟩) 0 (s.size + 1))
  have q1 := Boxed.new (w1.alloc (.cells #[.slice (some ⟨w.heap.size, 0, none⟩) 0 (s.size + 1)] 59)) 9 (.string ⟨#[]⟩)
  have q2 := Boxed.new ((w1.alloc (.cells #[.slice (some ⟨w.heap.size, 0, none⟩) 0 (s.size + 1)] 59)).alloc (.cells #[.string ⟨#[]⟩] 9)) 9 (.string b)
  have q3 := Boxed.new (((w1.alloc (.cells #[.slice (some ⟨w.heap.size, 0, none⟩) 0 (s.size + 1)] 59)).alloc (.cells #[.string ⟨#[]⟩] 9)).alloc (.cells #[.string b] 9)) 5 (.int .u8 47)
  simp only [World.size_alloc] at q1 q2 q3
  have hC0 : CI w.heap.size w1.heap.size (w1.heap.size + 1) (w1.heap.size + 1 + 1 + 1) w.heap.size (s.size + 1) (outL []) (lastP []) ((((w1.alloc (.cells #[.slice (some ⟨w.heap.size, 0, none⟩) 0 (s.size + 1)] 59)).alloc (.cells #[.string ⟨#[]⟩] 9)).alloc (.cells #[.string b] 9)).alloc (.cells #[.int .u8 47] 5)) :=
    ⟨((q0.alloc _).alloc _).alloc _, (((hown1.alloc _).alloc _).alloc _).alloc _, by omega, by omega, (q1.alloc _).alloc _, q3⟩
  have hB0 : Below w.heap.size w ((((w1.alloc (.cells #[.slice (some ⟨w.heap.size, 0, none⟩) 0 (s.size + 1)] 59)).alloc (.cells #[.string ⟨#[]⟩] 9)).alloc (.cells #[.string b] 9)).alloc (.cells #[.int .u8 47] 5)) := (((hb1.alloc (by omega) _).alloc (by simp; omega) _).alloc (by simp; omega) _).alloc (by simp; omega) _
  refine wpIn_rangeFunc_ownG rfl (by omega) (gf := 148) (lb := #[.pointer (some ⟨w1.heap.size + 1 + 1, 0, none⟩), .pointer (some ⟨w1.heap.size + 1 + 1 + 1, 0, none⟩)]) rfl trivial (enters_of Tryz.func148 (by kernel_rfl) rfl)
    (pieces_stops 2 (by omega) (w1.heap.size + 1 + 1) (w1.heap.size + 1 + 1 + 1) b 47 (by omega) _ (by simp) (by simp) (q2.alloc _).cell q3.cell) keepsCell_t (keepsCell_b _) (Below.refl _ _) (fun _ => rfl)
    (fun pre W => (∃ g cap, CI w.heap.size w1.heap.size (w1.heap.size + 1) (w1.heap.size + 1 + 1 + 1) g cap (outL (vals pre)) (lastP (vals pre)) W) ∧ Below w.heap.size w W)
    (fun _ _ _ => False)
    (OwnFrom.and (Own.from (CI.own w.heap.size w1.heap.size (w1.heap.size + 1) (w1.heap.size + 1 + 1 + 1) (fun pre : List (Part 47) => outL (vals pre)) (fun pre => lastP (vals pre))) _) (ownFrom_below (Nat.le_refl _) (by simp; omega)))
    (fun _ _ _ _ _ hs _ _ => hs)
    ⟨⟨_, _, hC0⟩, hB0⟩
    (fun x => { tmps := #[.string s, undef, .string ⟨#[]⟩, .pointer (some ⟨w1.heap.size, 0, none⟩), .pointer (some ⟨w1.heap.size + 1, 0, none⟩), .string x.1, .string s, .int .i64 s.size, .int .i64 (s.size + 1), .slice (some ⟨w.heap.size, 0, none⟩) 0 (s.size + 1), .string s, .string b, .func (.func 148) #[] #[.pointer (some ⟨w1.heap.size + 1 + 1, 0, none⟩), .pointer (some ⟨w1.heap.size + 1 + 1 + 1, 0, none⟩)], .string x.1, undef, undef, undef, undef, undef, undef, undef, undef, undef, undef, undef, undef, undef, undef, undef, undef, undef, undef, undef, undef, undef, undef, undef, undef, undef, undef, undef, undef], defers := [] }) ?assign ?body ?done ?stop
  case assign =>
    intro l x W K hK
    gi_wp2
    exact hK
  case body =>
    rintro l pre ⟨x, hx1, hx2⟩ W ⟨⟨g, cap, hC⟩, hB⟩ hlt
    dsimp only
    have HE : Hid (vals (pre ++ [⟨x, hx1, hx2⟩]) = vals pre ++ [x]) := vals_snoc_mk pre x ⟨hx1, hx2⟩
    have hcl := hC.las.cell
    have hfl := hC.las.frozen
    have HL : Hid (lastP (vals pre ++ [x]) = x) := lastP_snoc _ _
    have HC : Hid (CI w.heap.size w1.heap.size (w1.heap.size + 1) (w1.heap.size + 1 + 1 + 1) g cap (outL (vals pre)) (lastP (vals pre)) W) := hC
    have HC2 : Hid (CI w.heap.size w1.heap.size (w1.heap.size + 1) (w1.heap.size + 1 + 1 + 1) g cap (outL (vals pre)) x (W.setCell ⟨w1.heap.size + 1, 0, none⟩ (.string x))) := hC.last (by omega) (by omega) x
    have hB2 : Below w.heap.size w (W.setCell ⟨w1.heap.size + 1, 0, none⟩ (.string x)) := hB.setCell (p := ⟨w1.heap.size + 1, 0, none⟩) (by show w.heap.size ≤ w1.heap.size + 1; omega) _
    have hco := HC2.out.box.cell
    have hfo := HC2.out.box.frozen
    clear hC
    by_cases hd1 : x.data.toList = [46]
    · have q1 : (x.toList == [46]) = true := by rw [ByteArray.toList_eq, hd1]; rfl
      have HO : Hid (outL (vals pre ++ [x]) = outL (vals pre)) := by
        show _ = _
        rw [outL_snoc, hd1]
        rfl
      gi_wp2
      refine ⟨(KeepsOthers.setCell _ _ _).from _, HC.out.keeps HC2.out, ⟨g, cap, ?_⟩, hB2⟩
      rw [HE.out, HO.out, HL.out]
      exact HC2
    · have q1 : (x.toList == [46]) = false := by rw [ByteArray.toList_eq]; exact beq_eq_false_iff_ne.2 hd1
      by_cases hd2 : x.data.toList = [46, 46]
      · have q2 : (x.toList == [46, 46]) = true := by rw [ByteArray.toList_eq, hd2]; rfl
        have hcut : ∃ k : Nat, k ≤ (outL (vals pre)).length ∧ outL (vals pre ++ [x]) = (outL (vals pre)).take k ∧ (lastL 47 (outL (vals pre)) = (k : Int) ∨ (lastL 47 (outL (vals pre)) = -1 ∧ k = 0)) := by
          rw [outL_snoc, cleanStep, if_neg hd1, if_pos hd2]
          simp only [Bool.false_eq_true, if_false]
          have hpl : ∀ q ∈ stk [] (lists (vals pre)), (47 : UInt8) ∉ q := stk_plain _ (fun p hp => by
            unfold lists at hp
            obtain ⟨y, hy, rfl⟩ := List.mem_map.1 hp
            unfold vals at hy
            obtain ⟨z, _, rfl⟩ := List.mem_map.1 hy
            exact z.2.2) [] (by simp)
          unfold outL
          rcases List.eq_nil_or_concat (stk [] (lists (vals pre))) with h | ⟨a, p, h⟩
          · rw [h]
            exact ⟨0, Nat.zero_le _, rfl, .inr ⟨rfl, rfl⟩⟩
          · rw [h, List.concat_eq_append] at hpl ⊢
            rw [List.dropLast_concat, flat_snoc]
            exact ⟨(flat a).length, by simp, by simp, .inl (lastL_some 47 p (hpl p (by simp)) _)⟩
        have hlen : (outL (vals pre)).length ≤ 4001 * 4001 := by
          have h1 := outL_len (vals pre) (fun p hp => by
            obtain ⟨y, _, rfl⟩ := List.mem_map.1 hp
            exact y.2.1)
          rw [vals_length] at h1
          have h2 := parts_length 47 b
          have h3 : pre.length ≤ 4001 := by omega
          have h4 : pre.length * 4001 ≤ 4001 * 4001 := Nat.mul_le_mul_right _ h3
          omega
        generalize outL (vals pre) = O at HC HC2 hcut hlen hco hfo
        obtain ⟨k, hk, hO, hz⟩ := hcut
        obtain ⟨n, hn⟩ : ∃ n, O.length = n := ⟨_, rfl⟩
        have HO : Hid (outL (vals pre ++ [x]) = O.take k) := hO
        have HCut : Hid (CI w.heap.size w1.heap.size (w1.heap.size + 1) (w1.heap.size + 1 + 1 + 1) g cap (O.take k) x ((W.setCell ⟨w1.heap.size + 1, 0, none⟩ (.string x)).setCell ⟨w1.heap.size, 0, none⟩ (.slice (some ⟨g, 0, none⟩) k cap))) := HC2.out.cut (by omega) (by omega) (by omega) k hk
        have hncap := row_le HC2.out.row
        have hcells := HC2.out.row_cells
        rw [hn] at hk hlen hco hncap
        have HN : Hid (O.length = n) := hn
        have HD : Hid (∀ j (hj : j < O.length), (W.setCell ⟨w1.heap.size + 1, 0, none⟩ (.string x)).cell? ⟨g, j, none⟩ = some (.int .u8 (O[j].toNat : Int))) := hcells
        clear hO hcells hn hd1 hd2
        have hmx : Tryz.prog.follows .mixedOrders = true := by kernel_rfl
        rcases hz with hz | ⟨hz, hk0⟩
        · have hk2 : (k : Int) ≤ (cap : Int) := by omega
          have hk3 : (0 : Int) ≤ (k : Int) := by omega
          have hmax : ¬ ((k : Int) < 0) := by omega
          gi_wp2
          gi_region_with_o (refine ⟨trivial, ?_⟩; gi_at_call 132; refine (CallsIn.inRound l (callsIn_wide.2 (blast_any O g n cap _ HN.out (by omega) (by first | exact HD.out | exact fun j hj => by simpa using HD.out j hj)))).mono ?_; rintro e w' ⟨rfl, rfl⟩; rw [hz])
          all_goals gi_wp2
          all_goals
            refine ⟨(((KeepsOthers.setCell _ _ _).trans (KeepsOthers.setCell _ _ _)).trans (KeepsOthers.drew _)).from _, HC.out.keeps HCut.out.drew, ⟨g, cap, ?_⟩, (hB2.setCell (p := ⟨w1.heap.size, 0, none⟩) (by show w.heap.size ≤ w1.heap.size; omega) _).drew⟩
            rw [HE.out, HO.out, HL.out]
            exact HCut.out.drew
        · subst hk0
          gi_wp2
          gi_region_with_o (refine ⟨trivial, ?_⟩; gi_at_call 132; refine (CallsIn.inRound l (callsIn_wide.2 (blast_any O g n cap _ HN.out (by omega) (by first | exact HD.out | exact fun j hj => by simpa using HD.out j hj)))).mono ?_; rintro e w' ⟨rfl, rfl⟩; rw [hz])
          all_goals gi_wp2
          all_goals
            refine ⟨(((KeepsOthers.setCell _ _ _).trans (KeepsOthers.setCell _ _ _)).trans (KeepsOthers.drew _)).from _, HC.out.keeps HCut.out.drew, ⟨g, cap, ?_⟩, (hB2.setCell (p := ⟨w1.heap.size, 0, none⟩) (by show w.heap.size ≤ w1.heap.size; omega) _).drew⟩
            rw [HE.out, HO.out, HL.out]
            exact HCut.out.drew
      · have q2 : (x.toList == [46, 46]) = false := by rw [ByteArray.toList_eq]; exact beq_eq_false_iff_ne.2 hd2
        have HO : Hid (outL (vals pre ++ [x]) = outL (vals pre) ++ [47] ++ x.data.toList) := by
          show _ = _
          rw [outL_snoc, cleanStep, if_neg hd1, if_neg hd2, flat_snoc]
          simp
          rfl
        have hlen : (outL (vals pre)).length ≤ 4001 * 4001 := by
          have h1 := outL_len (vals pre) (fun p hp => by
            obtain ⟨y, _, rfl⟩ := List.mem_map.1 hp
            exact y.2.1)
          rw [vals_length] at h1
          have h2 := parts_length 47 b
          have h3 : pre.length ≤ 4001 := by omega
          have h4 : pre.length * 4001 ≤ 4001 * 4001 := Nat.mul_le_mul_right _ h3
          omega
        have hwz : w.heap.size ≤ W.heap.size := hB.size
        generalize outL (vals pre) = O at HC HC2 HO hlen hco hfo
        obtain ⟨n, hn⟩ : ∃ n, O.length = n := ⟨_, rfl⟩
        have hrow := HC2.out.row
        rw [hn] at hco hrow hlen
        have HR : Hid ((W.setCell ⟨w1.heap.size + 1, 0, none⟩ (.string x)).ownsRow w.heap.size 5 1 (.slice (some ⟨g, 0, none⟩) n cap) n (cellsB O)) := hrow
        have HN : Hid (O.length = n) := hn
        clear hrow hd1 hd2 hn
        gi_wp2_with (first
          | (gi_at_builtin; refine wpListIn_append_b _ rfl (.tmp 16) (.tmp 17) 59 rfl w.heap.size 5 i0 Tryz.underlying59 hi0 hz0 hz1 hz2 g n cap (cellsB O) rfl (HR.out.alloc _) ⟨W.heap.size, 0, none⟩ 1 (.int .u8 47) rfl (cell_one_at _ _ _ _ (setCell_size _ _ _)) rfl (by omega) (by rw [World.size_alloc, setCell_size]; omega) ?_; intro g1 cap1 w2 hown2 hgrow2 hlies2; obtain ⟨hC3, hk3, hbw3, hce3, hfr3⟩ := HC2.out.byte (by omega) (by omega) (by omega) n HN.out 47 _ hown2 hgrow2 hlies2; have HC3 : Hid (CI w.heap.size w1.heap.size (w1.heap.size + 1) (w1.heap.size + 1 + 1 + 1) g1 cap1 (O ++ [47]) x (w2.setCell ⟨w1.heap.size, 0, none⟩ (.slice (some ⟨g1, 0, none⟩) (n + 1) cap1))) := hC3; have hz3 : w.heap.size ≤ w2.heap.size := size_of hgrow2 hwz; clear hown2 hgrow2 hlies2 hC3)
          | (gi_at_builtin; refine wpListIn_append_s _ rfl (.tmp 19) (.tmp 20) 59 9 rfl w.heap.size 5 i0 Tryz.underlying59 Tryz.underlying9 hi0 hz0 hz1 hz2 g1 (n + 1) cap1 (cellsB (O ++ [47])) rfl (HC3.out.row_at (n + 1) (by rw [List.length_append, HN.out]; rfl)) x rfl (by omega) (by omega) (by rw [setCell_size]; omega) ?_; intro g3 cap3 w3 hown3 hgrow3 hlies3; obtain ⟨hC4, hk4, hbw4, hce4, hfr4⟩ := HC3.out.text (by omega) (by omega) (by omega) (n + 1) (by rw [List.length_append, HN.out]; rfl) (by omega) x hown3 hgrow3 hlies3; have HC4 : Hid (CI w.heap.size w1.heap.size (w1.heap.size + 1) (w1.heap.size + 1 + 1 + 1) g3 cap3 (O ++ [47] ++ x.data.toList) x (w3.setCell ⟨w1.heap.size, 0, none⟩ (.slice (some ⟨g3, 0, none⟩) (n + 1 + x.size) cap3))) := hC4; clear hown3 hgrow3 hlies3 hC4))
        refine ⟨(((KeepsOthers.setCell _ _ _).trans hk3).trans hk4).from _, HC.out.keeps HC4.out, ⟨g3, cap3, ?_⟩, ((hB2.alloc hB2.size _).trans hbw3).trans hbw4⟩
        rw [HE.out, HO.out, HL.out]
        exact HC4
  case done =>
    rintro D ys W hD hys ⟨⟨g, cap, hC⟩, hB⟩ hK
    have hfin : bs (cleanL s.data.toList) = bs (outL (vals ys) ++ (if dots (lastP (vals ys)).data.toList then [47] else [])) := by
      rw [hys, ← outL_done, ← HB.out, bs_data]
      rfl
    have hlen : (outL (vals ys)).length ≤ 4001 * 4001 := by
      have h1 := outL_len (vals ys) (fun p hp => by
        obtain ⟨y, _, rfl⟩ := List.mem_map.1 hp
        exact y.2.1)
      rw [hys] at h1
      have h2 := parts_length 47 b
      have h3 : (partsOf 47 b).length ≤ 4001 := by omega
      have h4 : (partsOf 47 b).length * 4001 ≤ 4001 * 4001 := Nat.mul_le_mul_right _ h3
      rw [hys]
      omega
    clear hys
    generalize lastP (vals ys) = la at hC hfin
    generalize outL (vals ys) = O at hC hfin hlen
    obtain ⟨n, hn⟩ : ∃ n, O.length = n := ⟨_, rfl⟩
    have hcl := hC.las.cell
    have hco := hC.cell_at n hn
    have hfo := hC.box.frozen
    have HC : Hid (CI w.heap.size w1.heap.size (w1.heap.size + 1) (w1.heap.size + 1 + 1 + 1) g cap O la W) := hC
    have HN : Hid (O.length = n) := hn
    rw [hn] at hlen
    have hwz : w.heap.size ≤ W.heap.size := hB.size
    by_cases hd : dots la.data.toList = true
    · have HF : Hid (bs (cleanL s.data.toList) = bs (O ++ [47])) := by show _ = _; rw [hfin, if_pos hd]
      have HR : Hid (W.ownsRow w.heap.size 5 1 (.slice (some ⟨g, 0, none⟩) n cap) n (cellsB O)) := hC.row_at n hn
      have hq : (la.toList == [46]) = true ∨ ((la.toList == [46]) = false ∧ (la.toList == [46, 46]) = true) := by
        rw [ByteArray.toList_eq]
        unfold dots at hd
        rcases of_decide_eq_true hd with h | h
        · rw [h]; exact .inl rfl
        · rw [h]; exact .inr ⟨rfl, rfl⟩
      clear hfin hC hn hd
      rcases hq with q1 | ⟨q1, q2⟩
      all_goals
        gi_wp2_with (gi_at_builtin; refine wpListIn_append_b _ rfl (.tmp 37) (.tmp 38) 59 rfl w.heap.size 5 i0 Tryz.underlying59 hi0 hz0 hz1 hz2 g n cap (cellsB O) rfl (HR.out.alloc _) ⟨W.heap.size, 0, none⟩ 1 (.int .u8 47) rfl (cell_one_new _ _ _) rfl (by omega) (by rw [World.size_alloc]; omega) ?_; intro g1 cap1 w2 hown2 hgrow2 hlies2; obtain ⟨hC3, hk3, hbw3, hce3, hfr3⟩ := HC.out.byte (by omega) (by omega) (by omega) n HN.out 47 _ hown2 hgrow2 hlies2; have hback := Own.back (show Own (w2.setCell ⟨w1.heap.size, 0, none⟩ (.slice (some ⟨g1, 0, none⟩) (n + 1) cap1)) w.heap.size (.slice (some ⟨g1, 0, none⟩) (n + 1) cap1) (O ++ [47]) from (show (n + 1) = (O ++ [47]).length by rw [List.length_append, HN.out]; rfl) ▸ hC3.row) (by rw [List.length_append, HN.out]; rfl); clear hown2 hgrow2 hlies2 hC3)
        have hK' := hk3.same D _ hK rfl
        refine ⟨by simp, .inl ⟨_, _, rfl, run_takeDeferred hK', ?_⟩⟩
        exact ⟨_, results_tmp rfl _ _ _, by rw [HF.out]; rfl, ((hB.alloc hB.size _).trans hbw3).trans (belowK_b (w := w) (Nat.le_refl _) _ D _ _ (by simp at hD; omega) hK' rfl rfl)⟩
    · have HF : Hid (bs (cleanL s.data.toList) = bs O) := by show _ = _; rw [hfin, if_neg hd, List.append_nil]
      have hq : (la.toList == [46]) = false ∧ (la.toList == [46, 46]) = false := by
        rw [ByteArray.toList_eq]
        unfold dots at hd
        have := of_decide_eq_false (Bool.eq_false_iff.2 hd)
        exact ⟨beq_eq_false_iff_ne.2 (fun e => this (.inl e)), beq_eq_false_iff_ne.2 (fun e => this (.inr e))⟩
      obtain ⟨q1, q2⟩ := hq
      have hback := Own.back (show Own W w.heap.size (.slice (some ⟨g, 0, none⟩) n cap) O from by subst hn; exact hC.row) hn
      clear hfin hC hn hd
      gi_wp2
      refine ⟨by simp, .inl ⟨_, _, rfl, run_takeDeferred hK, ?_⟩⟩
      exact ⟨_, results_tmp rfl _ _ _, by rw [HF.out]; rfl, hB.trans (belowK_b (w := w) (Nat.le_refl _) W D _ _ (by simp at hD; omega) hK rfl rfl)⟩
  case stop =>
    rintro D c pre W _ _ h _
    exact h.elim
end Go.Proofs.YtooaiamfbmjmnaaGreatDoor
