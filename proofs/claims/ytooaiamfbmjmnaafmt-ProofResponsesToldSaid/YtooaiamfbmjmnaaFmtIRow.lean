/- A row of ints that a call owns, told as a list of natural numbers. -/
import Derived.Test.YtooaiamfbmjmnaaFmtBase
import Derived.Laws.OwnMore
import Derived.OneCell
import Derived.Deep.AppendLies
namespace Go.Proofs.YtooaiamfbmjmnaaFmt
open Go.RowKit
def encI (l : List Nat) : List Value := l.map fun (n : Nat) => Value.int .i64 (n : Int)
theorem encI_length (l : List Nat) : (encI l).length = l.length := by simp [encI]
theorem encI_append (a b : List Nat) : encI (a ++ b) = encI a ++ encI b := by simp [encI]
def IRow (w : World) (B : Nat) (v : Value) (n : Nat) (l : List Nat) : Prop := l.length = n ∧ w.ownsRow B 3 1 v n (encI l)
theorem info3 : (Tryf.prog.info? 3).map (fun i => (i.zero, i.size, i.bytes)) = some (some (.int .i64 0), 1, 8) := by kernel_rfl
theorem IRow.cell {w : World} {B g n cap : Nat} {l : List Nat} (h : IRow w B (.slice (some ⟨g, 0, none⟩) n cap) n l) (j : Nat) (hj : j < n) : w.cell? ⟨g, j, none⟩ = some (.int .i64 ((l.getD j 0 : Nat) : Int)) := by
  rw [World.ownsRow.cellAt h.2 j (by omega)]
  have : j < l.length := by have := h.1; omega
  simp [encI, this]
theorem IRow.fro {w : World} {B g n cap : Nat} {l : List Nat} (h : IRow w B (.slice (some ⟨g, 0, none⟩) n cap) n l) (j : Nat) : w.frozen? ⟨g, j, none⟩ = false := World.ownsRow.frozenAt h.2 j
theorem IRow.form {w : World} {B n : Nat} {v : Value} {l : List Nat} (h : IRow w B v n l) (hn : 0 < n) : ∃ g cap, v = .slice (some ⟨g, 0, none⟩) n cap ∧ B ≤ g ∧ g < w.heap.size := World.ownsRow.form h.2 hn
theorem IRow.below {w w' : World} {B n H : Nat} {v : Value} {l : List Nat} (h : IRow w B v n l) (hb : Below H w w') (hv : ∀ g, v.ownBlock = some g → g < H) : IRow w' B v n l := by
  refine ⟨h.1, h.2.1, ?_⟩
  rcases h.2.2 with h2 | ⟨g, cap, cur, rfl, h3, h4, h5⟩
  · exact .inl h2
  · exact .inr ⟨g, cap, cur, rfl, h3, (hb.block g (hv g rfl)).trans h4, h5⟩
theorem wpList_append_I {ops : Array Oper} {rest : List Oper} {o : Oper} {a : Act} {Q : Exit → Act → World → Prop} (w : World) (hgd : o.guard = none) (s x : Operand)
    (ho : o.op = .call { callee := .builtin .append, args := #[s, x], argTypes := #[65, 65] })
    (B : Nat) (v : Value) (n : Nat) (l : List Nat) (hs : a.eval s = v) (hown : IRow w B v n l)
    (ad : Addr) (m c : Nat) (news : List Nat) (hx : a.eval x = .slice (some ad) m c) (hl : news.length = m) (hnews : ∀ j u, (encI news)[j]? = some u → w.cell? (ad.add j) = some u)
    (hm : 0 < m) (h63 : n + m ≤ 1000) (hbase : B ≤ w.heap.size)
    (h : ∀ g cap w', IRow w' B (.slice (some ⟨g, 0, none⟩) (n + m) cap) (n + m) (l ++ news) → w.grownBy w' v.ownBlock → (v.ownBlock = some g ∨ g = w.heap.size) → g < w'.heap.size → wpList Tryf.prog ops Q rest (a.put o.dst (.slice (some ⟨g, 0, none⟩) (n + m) cap)) w') : wpList Tryf.prog ops Q (o :: rest) a w := by
  obtain ⟨i0, hi0, hz0, hz1, hz2⟩ := info_parts info3
  refine wpList_append_lies w hgd s x 65 ho B 3 i0 (.int .i64 0) 1 8 Tryf.underlying65 hi0 hz0 hz1 hz2 rfl (by omega) v n (encI l) hs hown.2 ad m c (encI news) hx (by rw [encI_length]; omega) hnews ?_ hm (by unfold maxLen; omega) (by omega) hbase _ rfl ?_
  · intro u hu
    obtain ⟨y, _, rfl⟩ := List.mem_map.1 hu
    rfl
  · intro g cap w' h1 h2 h3 h4
    refine h g cap w' ⟨by rw [List.length_append, hown.1, hl], ?_⟩ h2 h3 h4
    rw [encI_append]
    exact h1
theorem append_I2 (w : World) (B : Nat) (ty : TypeId) (g n cap : Nat) (l : List Nat) (h : IRow w B (.slice (some ⟨g, 0, none⟩) n cap) n l)
    (ad : Addr) (m c : Nat) (news : List Nat) (hl : news.length = m) (hnews : ∀ j u, (encI news)[j]? = some u → w.cell? (ad.add j) = some u) (h63 : n + m ≤ 1000) (hbase : B ≤ w.heap.size) :
    ∃ g' cap' w', (Builtin.append_ #[65, 65] ty #[.slice (some ⟨g, 0, none⟩) n cap, .slice (some ad) m c]).run Tryf.prog w = .ok (.slice (some ⟨g', 0, none⟩) (n + m) cap') w' ∧
      IRow w' B (.slice (some ⟨g', 0, none⟩) (n + m) cap') (n + m) (l ++ news) ∧ w.grownBy w' (some g) ∧ g' < w'.heap.size ∧ ∀ j, j < n → w'.cell? ⟨g, j, none⟩ = w.cell? ⟨g, j, none⟩ := by
  obtain ⟨i, hi, hz, hsize, hby⟩ := info_parts info3
  obtain ⟨hn, _, h2⟩ := id h
  rcases h2 with ⟨h2, _⟩ | ⟨g0, cap0, cur, he, hB, hg, hnc, hcm, hcs, htake⟩
  · cases h2
  simp only [Value.slice.injEq, Option.some.injEq, Addr.mk.injEq, and_true, true_and] at he
  obtain ⟨rfl, rfl⟩ := he
  have hgl : g < w.heap.size := (Array.getElem?_eq_some_iff.1 hg).1
  have hnl : (encI news).length = m * i.size := by rw [encI_length, hl, hsize, Nat.mul_one]
  have h1 : ∀ u ∈ encI news, u.oneCell' = true := by
    intro u hu
    obtain ⟨x, _, rfl⟩ := List.mem_map.1 hu
    rfl
  have hlen : (encI (l ++ news)).length = (n + m) * 1 := by rw [encI_length, List.length_append, hn, hl, Nat.mul_one]
  by_cases hroom : n + m ≤ cap
  · have hr := run_append_room (P := Tryf.prog) w 65 ty 3 i Tryf.underlying65 hi g n cap cur hg ad m c (encI news) hnl hnews h1 hroom (by rw [hnl, hsize, hcs]; omega)
    rw [hsize, Nat.mul_one] at hr
    have hI : IRow (w.setRow g (cur.toList.take n ++ encI news ++ cur.toList.drop (n + (encI news).length)).toArray) B (.slice (some ⟨g, 0, none⟩) (n + m) cap) (n + m) (l ++ news) := by
      refine ⟨by rw [List.length_append, hn, hl], hlen, .inr ⟨g, cap, _, rfl, hB, setRow_heap w g cur _ 3 _ hg, hroom, hcm, ?_, ?_⟩⟩
      · simp [encI_length, hl]
        omega
      · have ht : cur.toList.take n = encI l := by simpa using htake
        rw [ht, ← hlen, encI_append]
        exact List.take_left
    refine ⟨g, cap, _, hr, hI, ⟨rfl, rfl, rfl, by simp, fun k _ hk => setRow_other w g k _ (fun e => hk (by simp [e]))⟩, by simpa using hgl, ?_⟩
    intro j hj
    rw [hI.cell j (by omega), h.cell j hj]
    simp [List.getD_eq_getElem?_getD, List.getElem?_append_left (show j < l.length by omega)]
  · have holds : ∀ j u, (encI l)[j]? = some u → w.cell? ((⟨g, 0, none⟩ : Addr).add j) = some u := h.2.cells (g := g) rfl
    have hr := run_append_grow (P := Tryf.prog) w 65 ty 3 i (.int .i64 0) Tryf.underlying65 hi hz ⟨g, 0, none⟩ n cap (encI l) (by rw [encI_length, hn, hsize, Nat.mul_one]) holds ad m c (encI news) hnl hnews (by omega) (by omega) (growslice_fits (by omega) (by rw [hby]; omega))
    have hge := grownCap_ge w (n + m) cap 3
    have hcm2 : grownCap w (n + m) cap 3 ≤ maxLen := grownCap_le_maxLen w (n + m) cap 3 (by unfold maxLen; omega)
    refine ⟨w.heap.size, _, _, hr, ⟨by rw [List.length_append, hn, hl], hlen, .inr ⟨w.heap.size, _, _, rfl, hbase, heap_alloc_new w.drew _, hge, hcm2, ?_, ?_⟩⟩, ⟨rfl, rfl, rfl, by simp, fun k hk _ => heap_alloc_old w.drew _ hk⟩, by simp, ?_⟩
    · have hz1 : (Value.int IntKind.i64 0).cells.size = 1 := rfl
      simp only [Array.size_append, List.size_toArray, size_zeroCells, hz1, encI_length, hn, hl]
      omega
    · simp only [Array.toList_append]
      rw [← hlen, encI_append]
      exact List.take_left
    · intro j _
      have hb : ∀ o : Obj, (w.drew.alloc o).heap[g]? = w.heap[g]? := fun o => heap_alloc_old w.drew _ hgl
      simp only [World.cell?, hb]
theorem step_append_I {ops : Array Oper} {o : Oper} {a : Act} {K : Act → World → Prop} {Q : Exit → Act → World → Prop} {E : Prop} (w : World) (hgd : o.guard = none) (s x : Operand)
    (ho : o.op = .call { callee := .builtin .append, args := #[s, x], argTypes := #[65, 65] })
    (B g n cap : Nat) (l : List Nat) (hs : a.eval s = .slice (some ⟨g, 0, none⟩) n cap) (hown : IRow w B (.slice (some ⟨g, 0, none⟩) n cap) n l)
    (ad : Addr) (m c : Nat) (news : List Nat) (hx : a.eval x = .slice (some ad) m c) (hl : news.length = m) (hnews : ∀ j u, (encI news)[j]? = some u → w.cell? (ad.add j) = some u)
    (h63 : n + m ≤ 1000) (hbase : B ≤ w.heap.size)
    (h : ∀ g' cap' w', IRow w' B (.slice (some ⟨g', 0, none⟩) (n + m) cap') (n + m) (l ++ news) → w.grownBy w' (some g) → g' < w'.heap.size → (∀ j, j < n → w'.cell? ⟨g, j, none⟩ = w.cell? ⟨g, j, none⟩) → K (a.put o.dst (.slice (some ⟨g', 0, none⟩) (n + m) cap')) w') :
    if Region.wanted o (yielded ops a.tmps) = true then Oper.wp Tryf.prog o a w K Q else E := by
  have hw : Region.wanted o (yielded ops a.tmps) = true := by simp [Region.wanted, hgd]
  rw [if_pos hw]
  obtain ⟨g', cap', w', hr, h2, h3, h4, h5⟩ := append_I2 w B o.type g n cap l hown ad m c news hl hnews h63 hbase
  unfold Oper.wp execOp
  simp only [ho, resolve, invoke, builtin, Sem.run_bind, Sem.run_pure, Result.andThen_ok, List.map_toArray, List.map_cons, List.map_nil, hs, hx, hr]
  exact h g' cap' w' h2 h3 h4 h5
theorem IRow.nil (w : World) (B : Nat) : IRow w B (.slice none 0 0) 0 [] := ⟨rfl, World.ownsRow_nil w B 3 1⟩
theorem IRow.alloc {w : World} {B n : Nat} {v : Value} {l : List Nat} (h : IRow w B v n l) (o : Obj) : IRow (w.alloc o) B v n l := ⟨h.1, h.2.alloc o⟩
theorem IRow.ge {w : World} {B n : Nat} {v : Value} {l : List Nat} (h : IRow w B v n l) : ∀ g, v.ownBlock = some g → B ≤ g := fun g hg => (h.2.lt g hg).1
theorem cell_oneI (w : World) (x : Nat) (X : Int) (hX : X = x) : ∀ j u, (encI [x])[j]? = some u → (w.alloc (.cells #[.int .i64 X] 3)).cell? ((⟨w.heap.size, 0, none⟩ : Addr).add j) = some u := by
  subst hX
  exact fun j u hj => cell_one_new w (.int .i64 (x : Int)) 3 j u hj
theorem IRow.le {w : World} {B g n cap : Nat} {l : List Nat} (h : IRow w B (.slice (some ⟨g, 0, none⟩) n cap) n l) : n ≤ cap := by
  rcases h.2.2 with ⟨h', _⟩ | ⟨g', cap', cur, h', _, _, hnc, _⟩
  · cases h'
  · simp only [Value.slice.injEq, Option.some.injEq, Addr.mk.injEq, and_true, true_and] at h'
    obtain ⟨rfl, rfl⟩ := h'
    exact hnc
theorem IRow.one (w : World) (B A : Nat) (X : Int) (hX : X = A) (hB : B ≤ w.heap.size) : IRow (w.alloc (.cells #[.int .i64 X] 3)) B (.slice (some ⟨w.heap.size, 0, none⟩) 1 1) 1 [A] := by
  subst hX
  exact ⟨rfl, rfl, .inr ⟨w.heap.size, 1, #[.int .i64 (A : Int)], rfl, hB, heap_alloc_new w _, Nat.le_refl _, by unfold maxLen; omega, rfl, rfl⟩⟩
theorem IRow.set {w : World} {B g n cap : Nat} {l : List Nat} (h : IRow w B (.slice (some ⟨g, 0, none⟩) n cap) n l) (j e : Nat) (X : Int) (hX : X = e) : IRow (w.setCell ⟨g, j, none⟩ (.int .i64 X)) B (.slice (some ⟨g, 0, none⟩) n cap) n (l.set j e) := by
  subst hX
  refine ⟨by rw [List.length_set]; exact h.1, ?_⟩
  have := (World.ownsRow.stored h.2 j (.int .i64 (e : Int))).1
  have e2 : encI (l.set j e) = (encI l).set j (.int .i64 (e : Int)) := by simp [encI, List.map_set]
  rw [e2]
  exact this
end Go.Proofs.YtooaiamfbmjmnaaFmt
