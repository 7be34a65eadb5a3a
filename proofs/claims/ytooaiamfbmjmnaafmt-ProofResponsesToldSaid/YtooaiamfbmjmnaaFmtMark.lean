/- Bytes that are appended to a row that a call owns, be it a conversion's own row (which bears a mark behind its end) or not. -/
import Derived.Test.YtooaiamfbmjmnaaFmtBase
import Derived.Lib.FrozenHead
import Derived.Lib.SlFresh
namespace Go.Proofs.YtooaiamfbmjmnaaFmt
open Go.RowKit

/-- The bytes l lie at the head of block g, which is from B on; nothing of it is frozen. -/
def OwnM (w : World) (B g n cap : Nat) (l : List UInt8) : Prop :=
  B ≤ g ∧ l.length = n ∧ ∃ cur fz, w.heap[g]? = some (.cells cur 5 fz) ∧ (fz.2 = 0 ∨ cur.size ≤ fz.1) ∧ n ≤ cap ∧ cap ≤ maxLen ∧ cur.size = cap ∧ cur.toList.take n = l.map fun c => Value.int .u8 (c.toNat : Int)

theorem storeCells_M (P : Program) (g o : Nat) (t : TypeId) (fz : Nat × Nat) : ∀ (vs : List Value) (i : Nat) (cur : Array Value) (w : World), w.heap[g]? = some (.cells cur t fz) → (fz.2 = 0 ∨ cur.size ≤ fz.1) → o + i + vs.length ≤ cur.size → (∀ v ∈ vs, v.oneCell' = true) →
    (storeCells ⟨g, o, none⟩ vs i).run P w = .ok () (w.setRow g (cur.toList.take (o + i) ++ vs ++ cur.toList.drop (o + i + vs.length)).toArray)
  | [], i, cur, w, hg, _, _, _ => by
    simp only [storeCells, List.append_nil, List.length_nil, Nat.add_zero, List.take_append_drop, Array.toArray_toList]
    rw [setRow_self w g cur t fz hg]
    rfl
  | v :: rest, i, cur, w, hg, hfz, hl, h1 => by
    have hi : o + i < cur.size := by simp at hl; omega
    have hadd : (⟨g, o, none⟩ : Addr).add i = ⟨g, o + i, none⟩ := by unfold Addr.add; split <;> simp_all
    have hcell : w.cell? ⟨g, o + i, none⟩ = some cur[o + i] := by simp [World.cell?, hg, hi]
    have hfro : w.frozen? ⟨g, o + i, none⟩ = false := by
      obtain ⟨lo, hi'⟩ := fz
      simp only [World.frozen?, hg, Bool.and_eq_false_iff, decide_eq_false_iff_not]
      simp only at hfz
      omega
    have hst : (store ((⟨g, o, none⟩ : Addr).add i) v).run P w = .ok () (w.setRow g (cur.setIfInBounds (o + i) v)) := by
      rw [hadd, run_store P w _ v _ (h1 v (by simp)), hcell]
      simp [hfro, setCell_eq_setRow w g (o + i) cur t fz v hg]
    have ih := storeCells_M P g o t fz rest (i + 1) (cur.setIfInBounds (o + i) v) (w.setRow g (cur.setIfInBounds (o + i) v)) (setRow_heap w g cur _ t _ hg) (by simpa using hfz) (by simp at hl ⊢; omega) (fun x hx => h1 x (by simp [hx]))
    simp only [storeCells, Sem.run_bind, hst, Result.andThen_ok, ih, setRow_setRow]
    congr 3
    have e := list_seg_step cur.toList (o + i) v rest (by simp at hl ⊢; omega)
    simpa [Array.toList_setIfInBounds, Nat.add_assoc] using e

theorem OwnM.cells {w : World} {B g n cap : Nat} {l : List UInt8} (h : OwnM w B g n cap l) (j : Nat) (hj : j < l.length) : w.cell? ⟨g, j, none⟩ = some (.int .u8 (l[j].toNat : Int)) := by
  obtain ⟨_, hn, cur, fz, hg, _, hnc, _, hcs, ht⟩ := h
  rw [cell_of_row w g j cur 5 fz hg]
  have h1 : (cur.toList.take n)[j]? = some (.int .u8 (l[j].toNat : Int)) := by
    rw [ht]
    simp [hj]
  rw [List.getElem?_take, if_pos (by omega)] at h1
  simpa using h1
theorem OwnM.lt {w : World} {B g n cap : Nat} {l : List UInt8} (h : OwnM w B g n cap l) : g < w.heap.size := by
  obtain ⟨_, _, cur, fz, hg, _⟩ := h
  exact (Array.getElem?_eq_some_iff.1 hg).1
theorem OwnM.kept {w w' : World} {B g n cap : Nat} {l : List UInt8} (h : OwnM w B g n cap l) (hk : w'.heap[g]? = w.heap[g]?) : OwnM w' B g n cap l := by
  obtain ⟨h1, h2, cur, fz, hg, h3⟩ := h
  exact ⟨h1, h2, cur, fz, hk.trans hg, h3⟩
theorem OwnM.alloc {w : World} {B g n cap : Nat} {l : List UInt8} (h : OwnM w B g n cap l) (o : Obj) : OwnM (w.alloc o) B g n cap l :=
  h.kept (heap_alloc_old w o h.lt)

theorem append_M {P : Program} (w : World) (B : Nat) (t ty : TypeId) (i : TypeInfo) (ht : P.underlying t = some (.slice 5)) (hi : P.info? 5 = some i) (hz : i.zero = some (.int .u8 0)) (hsize : i.size = 1) (hby : i.bytes = 1)
    (g n cap : Nat) (l : List UInt8) (h : OwnM w B g n cap l)
    (a : Addr) (m c : Nat) (news : List UInt8) (hl : news.length = m) (hnews : ∀ j u, (news.map fun c => Value.int .u8 (c.toNat : Int))[j]? = some u → w.cell? (a.add j) = some u)
    (h63 : n + m ≤ 140737488355328) (hbase : B ≤ w.heap.size) :
    ∃ g' cap' w', (Builtin.append_ #[t, t] ty #[.slice (some ⟨g, 0, none⟩) n cap, .slice (some a) m c]).run P w = .ok (.slice (some ⟨g', 0, none⟩) (n + m) cap') w' ∧
      OwnM w' B g' (n + m) cap' (l ++ news) ∧ w.grownBy w' (some g) ∧ (g' = g ∨ g' = w.heap.size) := by
  obtain ⟨hB, hn, cur, fz, hg, hfz, hnc, hcm, hcs, htake⟩ := id h
  have hnl : (news.map fun c => Value.int .u8 (c.toNat : Int)).length = m * i.size := by simp [hl, hsize]
  have h1 : ∀ u ∈ (news.map fun c => Value.int .u8 (c.toNat : Int)), u.oneCell' = true := by
    intro u hu
    obtain ⟨x, _, rfl⟩ := List.mem_map.1 hu
    rfl
  by_cases hroom : n + m ≤ cap
  · have hf := run_firstCells_some (P := P) w i.size m a m c _ hnl hnews
    have hst := storeCells_M P g (n * i.size) 5 fz (news.map fun c => Value.int .u8 (c.toNat : Int)) 0 cur w hg hfz (by simp [hl, hsize]; omega) h1
    simp only [Nat.add_zero] at hst
    refine ⟨g, cap, w.setRow g (cur.toList.take (n * i.size) ++ (news.map fun c => Value.int .u8 (c.toNat : Int)) ++ cur.toList.drop (n * i.size + (news.map fun c => Value.int .u8 (c.toNat : Int)).length)).toArray, ?_, ?_, ?_, .inl rfl⟩
    · simp [Builtin.append_, run_underlying ht, sizeOf, typeInfo, hi, Builtin.lenOf, hroom, hf, Addr.add_lit, hst]
    · refine ⟨hB, by simp [hn, hl], _, fz, setRow_heap w g cur _ 5 _ hg, ?_, hroom, hcm, ?_, ?_⟩
      · rcases hfz with hfz | hfz
        · exact .inl hfz
        · right
          simp [hsize, hl]
          omega
      · simp [hsize, hl]
        omega
      · rw [hsize, Nat.mul_one, htake, List.map_append]
        have : n + m = ((l.map fun c => Value.int .u8 (c.toNat : Int)) ++ (news.map fun c => Value.int .u8 (c.toNat : Int))).length := by simp [hn, hl]
        rw [this]
        exact List.take_left
    · exact ⟨rfl, rfl, rfl, by simp, fun k _ hk => setRow_other w g k _ (fun e => hk (by simp [e]))⟩
  · have holds : ∀ j u, (l.map fun c => Value.int .u8 (c.toNat : Int))[j]? = some u → w.cell? ((⟨g, 0, none⟩ : Addr).add j) = some u := by
      intro j u hj
      have hj' : j < l.length := by
        have := (List.getElem?_eq_some_iff.1 hj).1
        simpa using this
      have hadd : (⟨g, 0, none⟩ : Addr).add j = ⟨g, j, none⟩ := by unfold Addr.add; split <;> simp_all
      rw [hadd, h.cells j hj']
      simpa [hj'] using hj
    have hr := run_append_grow (P := P) w t ty 5 i (.int .u8 0) ht hi hz ⟨g, 0, none⟩ n cap (l.map fun c => Value.int .u8 (c.toNat : Int)) (by simp [hn, hsize]) holds a m c _ hnl hnews (by omega) (by omega) (growslice_fits (by omega) (by rw [hby]; omega))
    have hge := grownCap_ge w (n + m) cap 5
    have hcm2 : grownCap w (n + m) cap 5 ≤ maxLen := grownCap_le_maxLen w (n + m) cap 5 (by unfold maxLen; omega)
    refine ⟨w.heap.size, _, _, hr, ⟨hbase, by simp [hn, hl], _, (0, 0), heap_alloc_new w.drew _, .inl rfl, hge, hcm2, ?_, ?_⟩, ⟨rfl, rfl, rfl, by simp, fun k hk _ => heap_alloc_old w.drew _ hk⟩, .inr rfl⟩
    · have hz1 : (Value.int IntKind.u8 0).cells.size = 1 := rfl
      simp only [Array.size_append, List.size_toArray, size_zeroCells, hz1, List.length_map, hn, hl]
      omega
    · have : n + m = ((l.map fun c => Value.int .u8 (c.toNat : Int)) ++ (news.map fun c => Value.int .u8 (c.toNat : Int))).length := by simp [hn, hl]
      simp only [Array.toList_append]
      rw [List.map_append, this]
      exact List.take_left

theorem wpList_append_M {P : Program} (w : World) {ops : Array Oper} {rest : List Oper} {o : Oper} {a : Act} {Q : Exit → Act → World → Prop} (hgd : o.guard = none) (s x : Operand) (t : TypeId)
    (ho : o.op = .call { callee := .builtin .append, args := #[s, x], argTypes := #[t, t] }) (B : Nat) (i : TypeInfo) (ht : P.underlying t = some (.slice 5)) (hi : P.info? 5 = some i) (hz : i.zero = some (.int .u8 0)) (hsize : i.size = 1) (hby : i.bytes = 1)
    (g n cap : Nat) (l : List UInt8) (hs : a.eval s = .slice (some ⟨g, 0, none⟩) n cap) (h : OwnM w B g n cap l)
    (ad : Addr) (m c : Nat) (news : List UInt8) (hx : a.eval x = .slice (some ad) m c) (hl : news.length = m) (hnews : ∀ j u, (news.map fun c => Value.int .u8 (c.toNat : Int))[j]? = some u → w.cell? (ad.add j) = some u)
    (h63 : n + m ≤ 140737488355328) (hbase : B ≤ w.heap.size)
    (k : ∀ g' cap' w', OwnM w' B g' (n + m) cap' (l ++ news) → w.grownBy w' (some g) → (g' = g ∨ g' = w.heap.size) → wpList P ops Q rest (a.put o.dst (.slice (some ⟨g', 0, none⟩) (n + m) cap')) w') : wpList P ops Q (o :: rest) a w := by
  obtain ⟨g', cap', w', hr, h1, h2, h3⟩ := append_M w B t o.type i ht hi hz hsize hby g n cap l h ad m c news hl hnews h63 hbase
  exact Lib.wpList_append_run_sl w hgd s x t ho _ _ hs hx hr (k g' cap' w' h1 h2 h3)

theorem conv_M (s : ByteArray) (w : World) (hs : s.size ≤ 140737488355328) : ∃ (cap : Nat) (W1 : World), (convert 9 38 (.string s)).run Tryf.prog w = .ok (.slice (some ⟨w.heap.size, 0, none⟩) s.size cap) W1 ∧ OwnM W1 w.heap.size w.heap.size s.size cap s.data.toList ∧ Below w.heap.size w W1 ∧ W1.heap.size = w.heap.size + 1 := by
  refine ⟨_, _, run_bytes_of_string (P := Tryf.prog) w 9 38 5 s Tryf.underlying9 Tryf.underlying38 Tryf.underlying5, ?_, ?_, ?_⟩
  · have hge := grownCap_ge w s.size 0 5
    refine ⟨Nat.le_refl _, by simp, _, _, heap_alloc_new w.drew _, .inr (Nat.le_refl _), hge, grownCap_le_maxLen w s.size 0 5 (by unfold maxLen; omega), ?_, ?_⟩
    · simp [bytesRow]
      omega
    · simp [bytesRow]
  · exact ((Below.refl _ _).drew).alloc (Nat.le_refl _) _
  · simp
end Go.Proofs.YtooaiamfbmjmnaaFmt
