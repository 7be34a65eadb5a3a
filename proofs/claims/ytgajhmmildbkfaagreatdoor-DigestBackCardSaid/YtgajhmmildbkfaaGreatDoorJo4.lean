/- Texts of one claim, joined: each begins with what it proves. -/
import Derived.Test.YtgajhmmildbkfaaGreatDoorJo2
import Derived.Test.YtgajhmmildbkfaaGreatDoorJo3
import Derived.Test.YtgajhmmildbkfaaGreatDoorJo1
import Derived.Deep.RegionHeld3
import Derived.Deep.QuietTactic
import Derived.BigQuiet
import Derived.Laws.EntriesVeiled
import Derived.Deep.Draws
import Derived.Deep.LoopGhost
/- What came in, kept while a law goes on: who asks, and what is asked for. -/
namespace Go.Proofs.YtgajhmmildbkfaaGreatDoor
open Go.RowKit

/-- What is kept of what came in: each cell. -/
structure AcK (w W : World) (a : PfA) (st : Bool) (dv : Value) (u p : ByteArray) : Prop where
  c0 : W.cell? ⟨w.heap.size, 0, none⟩ = some (.int .i64 a.scheme)
  c1 : W.cell? ⟨w.heap.size, 1, none⟩ = some (.string a.realm)
  c2 : W.cell? ⟨w.heap.size, 2, none⟩ = some (.string a.nonce)
  c3 : W.cell? ⟨w.heap.size, 3, none⟩ = some (.string a.opq)
  c4 : W.cell? ⟨w.heap.size, 4, none⟩ = some (.bool a.sess)
  c5 : W.cell? ⟨w.heap.size, 5, none⟩ = some (.string a.qop)
  c6 : W.cell? ⟨w.heap.size, 6, none⟩ = some (.bool st)
  c7 : W.cell? ⟨w.heap.size, 7, none⟩ = some dv
  d0 : W.cell? ⟨w.heap.size + 1, 0, none⟩ = some (.string u)
  d1 : W.cell? ⟨w.heap.size + 1, 1, none⟩ = some (.string p)
  lt : w.heap.size + 1 < W.heap.size
  bel : Below w.heap.size w W
  tabs : Tabs W
theorem AcK.below {w W W' : World} {a : PfA} {st : Bool} {dv : Value} {u p : ByteArray} (h : AcK w W a st dv u p) (hb : Below W.heap.size W W') : AcK w W' a st dv u p := by
  have hl := h.lt
  have k : ∀ (b i : Nat), b < W.heap.size → W'.cell? ⟨b, i, none⟩ = W.cell? ⟨b, i, none⟩ := fun b i hlt => hb.cell (p := ⟨b, i, none⟩) hlt
  exact ⟨by rw [k _ _ (by omega)]; exact h.c0, by rw [k _ _ (by omega)]; exact h.c1, by rw [k _ _ (by omega)]; exact h.c2, by rw [k _ _ (by omega)]; exact h.c3, by rw [k _ _ (by omega)]; exact h.c4, by rw [k _ _ (by omega)]; exact h.c5, by rw [k _ _ (by omega)]; exact h.c6, by rw [k _ _ (by omega)]; exact h.c7, by rw [k _ _ (by omega)]; exact h.d0, by rw [k _ _ (by omega)]; exact h.d1, Nat.lt_of_lt_of_le hl hb.size, h.bel.trans (hb.mono h.bel.size), h.tabs.below hb⟩
theorem acK_start (w : World) (a : PfA) (st : Bool) (dv : Value) (u p : ByteArray) (HT : Hid (Tabs w)) : AcK w ((w.alloc (.cells #[.int .i64 a.scheme, .string a.realm, .string a.nonce, .string a.opq, .bool a.sess, .string a.qop, .bool st, dv] 24)).alloc (.cells #[.string u, .string p] 26)) a st dv u p := by
  have hb1 : Below w.heap.size w (w.alloc (.cells #[.int .i64 a.scheme, .string a.realm, .string a.nonce, .string a.opq, .bool a.sess, .string a.qop, .bool st, dv] 24)) := (Below.refl _ _).alloc (Nat.le_refl _) _
  have hz : (w.alloc (.cells #[.int .i64 a.scheme, .string a.realm, .string a.nonce, .string a.opq, .bool a.sess, .string a.qop, .bool st, dv] 24)).heap.size = w.heap.size + 1 := by simp
  have hc : ∀ i, (w.alloc (.cells #[.int .i64 a.scheme, .string a.realm, .string a.nonce, .string a.opq, .bool a.sess, .string a.qop, .bool st, dv] 24)).cell? ⟨w.heap.size, i, none⟩ = #[.int .i64 a.scheme, .string a.realm, .string a.nonce, .string a.opq, .bool a.sess, .string a.qop, .bool st, dv][i]? := fun i => World.cell?_alloc_mark _ _ _ _ _
  generalize (w.alloc (.cells #[.int .i64 a.scheme, .string a.realm, .string a.nonce, .string a.opq, .bool a.sess, .string a.qop, .bool st, dv] 24)) = W1 at hb1 hz hc ⊢
  have hb2 : Below W1.heap.size W1 (W1.alloc (.cells #[.string u, .string p] 26)) := (Below.refl _ _).alloc (Nat.le_refl _) _
  have hd : ∀ i, (W1.alloc (.cells #[.string u, .string p] 26)).cell? ⟨W1.heap.size, i, none⟩ = #[.string u, .string p][i]? := fun i => World.cell?_alloc_mark _ _ _ _ _
  rw [hz] at hd
  have k : ∀ (i : Nat), (W1.alloc (.cells #[.string u, .string p] 26)).cell? ⟨w.heap.size, i, none⟩ = W1.cell? ⟨w.heap.size, i, none⟩ := fun i => hb2.cell (p := ⟨w.heap.size, i, none⟩) (by show w.heap.size < _; omega)
  exact ⟨by rw [k, hc]; rfl, by rw [k, hc]; rfl, by rw [k, hc]; rfl, by rw [k, hc]; rfl, by rw [k, hc]; rfl, by rw [k, hc]; rfl, by rw [k, hc]; rfl, by rw [k, hc]; rfl, by rw [hd]; rfl, by rw [hd]; rfl, by simp [hz], hb1.trans (hb2.mono hb1.size), (HT.out.below hb1).below hb2⟩
end Go.Proofs.YtgajhmmildbkfaaGreatDoor

/- A parameter more, as an item of the header; what came in is kept beside. -/
namespace Go.Proofs.YtgajhmmildbkfaaGreatDoor
open Go.RowKit Go.Shelf
set_option linter.unusedVariables false

def itemB (x : Item) : ByteArray := eqT (bs x.1) (if x.2.2 then qT (bs x.2.1) else bs x.2.1)
/-- What came in, and the items so far. -/
structure DgS (w W : World) (a : PfA) (st : Bool) (dv : Value) (u p : ByteArray) (B : Nat) (L : List Item) : Prop where
  ac : AcK w W a st dv u p
  di : DgW W B (L.map itemB) (!L.all itemOk)
  hB : w.heap.size + 1 < B
theorem AcK.belowAt {w W W' : World} {a : PfA} {st : Bool} {dv : Value} {u p : ByteArray} {B : Nat} (h : AcK w W a st dv u p) (hb : Below B W W') (hB : w.heap.size + 1 < B) (HT : Hid (Tabs w)) : AcK w W' a st dv u p := by
  have k : ∀ (b i : Nat), b < B → W'.cell? ⟨b, i, none⟩ = W.cell? ⟨b, i, none⟩ := fun b i hlt => hb.cell (p := ⟨b, i, none⟩) hlt
  have hbel := h.bel.trans (hb.mono (by omega : w.heap.size ≤ B))
  exact ⟨by rw [k _ _ (by omega)]; exact h.c0, by rw [k _ _ (by omega)]; exact h.c1, by rw [k _ _ (by omega)]; exact h.c2, by rw [k _ _ (by omega)]; exact h.c3, by rw [k _ _ (by omega)]; exact h.c4, by rw [k _ _ (by omega)]; exact h.c5, by rw [k _ _ (by omega)]; exact h.c6, by rw [k _ _ (by omega)]; exact h.c7, by rw [k _ _ (by omega)]; exact h.d0, by rw [k _ _ (by omega)]; exact h.d1, Nat.lt_of_lt_of_le h.lt hb.size, hbel, HT.out.below hbel⟩
theorem DgS.below {w W W' : World} {a : PfA} {st : Bool} {dv : Value} {u p : ByteArray} {B : Nat} {L : List Item} (h : DgS w W a st dv u p B L) (hb : Below W.heap.size W W') : DgS w W' a st dv u p B L := ⟨h.ac.below hb, h.di.below hb, h.hB⟩
theorem okT_all (t : List UInt8) : okT (bs t) = t.all textB := by unfold okT; rw [bs_data]
theorem dg_snoc (L : List Item) (x : Item) : (!(L ++ [x]).all itemOk) = (!L.all itemOk || !itemOk x) := by
  rw [List.all_append]
  simp [Bool.not_and]
/-- An item between marks. -/
theorem DgS.quote {w W : World} {a : PfA} {st : Bool} {dv : Value} {u p : ByteArray} {B : Nat} {L : List Item} (h : DgS w W a st dv u p B L) (HT : Hid (Tabs w)) (n t : List UInt8) (nm tx : ByteArray) (hn : nm = bs n) (ht : tx = bs t) (hnz : n.length ≤ 3000) (htz : t.length ≤ 3000) (hl : L.length ≤ 20) :
    Calls Tryz.prog 27 #[.string nm, .string tx, .pointer (some ⟨B + 1, 0, none⟩), .pointer (some ⟨B + 2, 0, none⟩)] W fun e W' => e = .returned (.tuple #[]) ∧ DgS w W' a st dv u p B (L ++ [(n, t, true)]) := by
  subst hn ht
  refine (quote_any (bs n) (bs t) (by rw [bs_size]; exact hnz) (by rw [bs_size]; exact htz) (by simp; omega) W h.di).mono ?_
  rintro e W' ⟨rfl, h1, h2⟩
  refine ⟨rfl, h.ac.belowAt h2 h.hB HT, ?_, h.hB⟩
  rw [dg_snoc, List.map_append]
  have e1 : itemOk (n, t, true) = okT (bs t) := by rw [okT_all]; simp [itemOk]
  rw [e1]
  exact h1
/-- An item as it is. -/
theorem DgS.plain {w W : World} {a : PfA} {st : Bool} {dv : Value} {u p : ByteArray} {B : Nat} {L : List Item} (h : DgS w W a st dv u p B L) (HT : Hid (Tabs w)) (n t : List UInt8) (nm tx : ByteArray) (hn : nm = bs n) (ht : tx = bs t) (hnz : n.length ≤ 3000) (htz : t.length ≤ 3000) (hl : L.length ≤ 20) :
    Calls Tryz.prog 26 #[.string nm, .string tx, .pointer (some ⟨B, 0, none⟩)] W fun e W' => e = .returned (.tuple #[]) ∧ DgS w W' a st dv u p B (L ++ [(n, t, false)]) := by
  subst hn ht
  refine (add_any (bs n) (bs t) (by rw [bs_size]; exact hnz) (by rw [bs_size]; omega) (by simp; omega) W h.di).mono ?_
  rintro e W' ⟨rfl, h1, h2⟩
  refine ⟨rfl, h.ac.belowAt h2 h.hB HT, ?_, h.hB⟩
  rw [dg_snoc, List.map_append]
  have e1 : itemOk (n, t, false) = true := by simp [itemOk]
  rw [e1, Bool.not_true, Bool.or_false]
  exact h1
/-- The cells that the walk reads. -/
def DgH (w : World) (a : PfA) (st : Bool) (dv : Value) (u p : ByteArray) (B : Nat) (W : World) : Prop :=
  W.cell? ⟨w.heap.size, 0, none⟩ = some (.int .i64 a.scheme) ∧ W.cell? ⟨w.heap.size, 1, none⟩ = some (.string a.realm) ∧ W.cell? ⟨w.heap.size, 2, none⟩ = some (.string a.nonce) ∧ W.cell? ⟨w.heap.size, 3, none⟩ = some (.string a.opq) ∧ W.cell? ⟨w.heap.size, 4, none⟩ = some (.bool a.sess) ∧ W.cell? ⟨w.heap.size, 5, none⟩ = some (.string a.qop) ∧ W.cell? ⟨w.heap.size, 6, none⟩ = some (.bool st) ∧ W.cell? ⟨w.heap.size, 7, none⟩ = some dv ∧ W.cell? ⟨w.heap.size + 1, 0, none⟩ = some (.string u) ∧ W.cell? ⟨w.heap.size + 1, 1, none⟩ = some (.string p) ∧ W.cell? ⟨B + 1 + 1, 0, none⟩ = some (.func (.func 26) #[] #[.pointer (some ⟨B, 0, none⟩)])
theorem DgS.held {w W : World} {a : PfA} {st : Bool} {dv : Value} {u p : ByteArray} {B : Nat} {L : List Item} (h : DgS w W a st dv u p B L) : DgH w a st dv u p B W :=
  ⟨h.ac.c0, h.ac.c1, h.ac.c2, h.ac.c3, h.ac.c4, h.ac.c5, h.ac.c6, h.ac.c7, h.ac.d0, h.ac.d1, cell_of h.di.add⟩
theorem DgS.new {w W : World} {a : PfA} {st : Bool} {dv : Value} {u p : ByteArray} (h : AcK w W a st dv u p) (W3 : World) (hb : Below W.heap.size W W3) (h0 : W3.heap[W.heap.size]? = some (.cells #[.slice none 0 0] 22 (0, 0))) (h1 : W3.heap[W.heap.size + 1]? = some (.cells #[.nilIface] 30 (0, 0))) (h2 : W3.heap[W.heap.size + 2]? = some (.cells #[.func (.func 26) #[] #[.pointer (some ⟨W.heap.size, 0, none⟩)]] 61 (0, 0))) :
    DgS w W3 a st dv u p W.heap.size [] := ⟨h.below hb, ⟨h1, h2, _, h0, ownS_nil _ _⟩, h.lt⟩
/-- The sizes of what stands between marks. -/
theorem join2_len (m : Nat) : ∀ (l : List (List UInt8)), (∀ x ∈ l, x.length ≤ m) → (Lib.join l [44, 32]).length ≤ l.length * (m + 2)
  | [], _ => by simp [Lib.join]
  | [a], h => by have := h a (by simp); rw [join_one]; simp; omega
  | a :: b :: r, h => by
    have h1 := h a (by simp)
    have h2 := join2_len m (b :: r) (fun x hx => h x (by simp at hx ⊢; exact .inr hx))
    have e : (a :: b :: r).length * (m + 2) = (b :: r).length * (m + 2) + (m + 2) := by rw [List.length_cons, Nat.succ_mul]
    rw [join_cons, List.length_append, List.length_append, e]
    show a.length + (2 + _) ≤ _
    omega
theorem itemT_len (x : Item) (h1 : x.1.length ≤ 20) (h2 : x.2.1.length ≤ 500) : (itemT x).length ≤ 1100 := by
  unfold itemT
  have := escL_length x.2.1
  rw [List.length_append, List.length_cons]
  split
  · unfold quoteL
    simp
    omega
  · omega
theorem itemB_data (x : Item) (h : itemOk x = true) : (itemB x).data.toList = itemT x := by
  obtain ⟨n, t, q⟩ := x
  have hh : ∀ y : ByteArray, (eqT (bs n) y).data.toList = n ++ 61 :: y.data.toList := fun y => by
    unfold eqT
    simp [ByteArray.data_append, bs_data]
  unfold itemB itemT
  rw [hh]
  cases q
  · simp [bs_data]
  · have h2 : okT (bs t) = true := by rw [okT_all]; simpa [itemOk] using h
    simp only [if_true]
    unfold qT
    rw [if_pos h2, bs_data, bs_data]
theorem itemsB_data (L : List Item) (h : L.all itemOk = true) : dats (L.map itemB) = L.map itemT := by
  unfold dats
  rw [List.map_map]
  refine List.map_congr_left fun x hx => ?_
  exact itemB_data x (List.all_eq_true.1 h x hx)
/-- The parameters, with commas between. -/
theorem joinI_any (L : List Item) (hok : L.all itemOk = true) (hz : ∀ x ∈ L, x.1.length ≤ 20 ∧ x.2.1.length ≤ 500) (hl : L.length ≤ 20) (n : Nat) (hn : L.length = n) (B : Nat) (v : Value) (w : World) (ho : OwnS w B v (L.map itemB)) :
    Calls Tryz.prog 29 #[v, .string ⟨#[44, 32]⟩] w fun e w' => e = .returned (.string (bs (Lib.join (L.map itemT) [44, 32]))) ∧ Below w.heap.size w w' := by
  have hlen : (Lib.join (L.map itemT) [44, 32]).length ≤ 30000 := by
    have h1 := join2_len 1100 (L.map itemT) (fun y hy => by
      obtain ⟨x, hx, rfl⟩ := List.mem_map.1 hy
      exact itemT_len x (hz x hx).1 (hz x hx).2)
    rw [List.length_map] at h1
    have : L.length * 1102 ≤ 20 * 1102 := Nat.mul_le_mul_right _ hl
    omega
  rw [← itemsB_data L hok] at hlen ⊢
  have hxl : (L.map itemB).length ≤ 20 := by rw [List.length_map]; exact hl
  generalize L.map itemB = xs at ho hlen hxl ⊢
  obtain ⟨_, h0⟩ := ho
  rcases h0 with ⟨rfl, h0⟩ | ⟨g, cap, cur, rfl, _, hh, hc, _, hs, ht⟩
  · have e : xs = [] := List.eq_nil_of_length_eq_zero h0
    subst e
    refine (Any.strings_Join_none lays156 Builder_Extra_156 none 0 ⟨#[44, 32]⟩ w).mono ?_
    rintro e w' ⟨rfl, rfl⟩
    exact ⟨rfl, Below.refl _ _⟩
  · have hb : g < w.heap.size := (Array.getElem?_eq_some_iff.1 hh).1
    have hcell : ∀ (j : Nat) x, xs[j]? = some x → w.cell? ⟨g, 0 + j, none⟩ = some (.string x) := fun j x hj => by
      rw [Nat.zero_add, cell_of hh]
      have hj2 := (List.getElem?_eq_some_iff.1 hj).1
      have e2 : (cur.toList.take (xs.length * 1))[j]? = some (.string x) := by rw [ht, List.getElem?_map, hj]; rfl
      rw [List.getElem?_take_of_lt (by omega)] at e2
      simpa using e2
    have c := Any.strings_Join lays156 Builder_Extra_156 g 0 cap xs ⟨#[44, 32]⟩ w hcell hb (by omega) hc (by
      show (Lib.join (dats xs) [44, 32]).length ≤ _
      omega)
    exact c
end Go.Proofs.YtgajhmmildbkfaaGreatDoor

/- A region driven by hand: an operation taken first. -/
namespace Go.Proofs.YtgajhmmildbkfaaGreatDoor
open Go.RowKit

section
variable {P : Program} {ops : Array Oper} {Q : Exit → Act → World → Prop} {md : Region.Mode} {S : World → Prop}
theorem takeH {i : Nat} {oi : Oper} {d : Option Tmp} {v : Value} {fuel : Nat} {listed : Array Bool} {a : Act} {w : World} (hi : ops[i]? = some oi) (hd : oi.dst = d)
    (hs : Region.noSelect ops = true) (hf : Region.free md ops listed i = true) (hr : (Region.ready md ops listed).contains i = true)
    (hQ : ∀ c a w, Q (.panic c) (a.put oi.dst v) w → Q (.panic c) a w) (hw : Region.wanted oi (yielded ops a.tmps) = true) (hy : ∀ w, S w → (execOp a.eval oi).run P w = .ok (.value v) w) (hS : S w)
    (h : wpAnyH P md ops Q S fuel (listed.setIfInBounds i true) (a.put d v) w) : wpAnyH P md ops Q S (fuel + 1) listed a w := by
  subst hd
  exact wpAnyH_take hi hs hf hr hQ (Or.inl ⟨hw, hy⟩) hS h
theorem skipH {i : Nat} {oi : Oper} {d : Option Tmp} {fuel : Nat} {listed : Array Bool} {a : Act} {w : World} (hi : ops[i]? = some oi) (hd : oi.dst = d)
    (hs : Region.noSelect ops = true) (hf : Region.free md ops listed i = true) (hr : (Region.ready md ops listed).contains i = true)
    (hQ : ∀ c a w, Q (.panic c) (a.put oi.dst undef) w → Q (.panic c) a w) (hw : Region.wanted oi (yielded ops a.tmps) = false) (hS : S w)
    (h : wpAnyH P md ops Q S fuel (listed.setIfInBounds i true) (a.put d undef) w) : wpAnyH P md ops Q S (fuel + 1) listed a w := by
  subst hd
  exact wpAnyH_take hi hs hf hr hQ (Or.inr ⟨hw, rfl⟩) hS h
end
end Go.Proofs.YtgajhmmildbkfaaGreatDoor

/- The header that proves a request, by the program. -/
namespace Go.Proofs.YtgajhmmildbkfaaGreatDoor
open Go.RowKit Go.Shelf
set_option linter.unusedVariables false
set_option linter.unusedSimpArgs false

def digV : Except Nat (List UInt8) → Value
  | .ok l => .tuple #[.string (bs l), .nilIface]
  | .error k => .tuple #[.string ⟨#[]⟩, .iface 64 (.int .i64 (k : Int))]
theorem digO_bad (a : PfA) (r : PfR) (n : Int) (k : Nat) (h : prvO a n = some k) : digO a r n = .error k := by
  unfold prvO at h
  unfold digO
  split at h
  · rename_i h1
    rw [if_pos h1]
    injection h with h
    rw [h]
  · rename_i h1
    rw [if_neg h1]
    split at h
    · rename_i h2
      rw [if_pos h2]
      injection h with h
      rw [h]
    · cases h
theorem digO_fit (a : PfA) (r : PfR) (n : Int) (h : prvO a n = none) : (∃ m : Nat, n = (m : Int) ∧ m < 4294967296) ∧ digO a r n = if (items a r n.toNat).all itemOk then .ok (digT (items a r n.toNat)) else .error 3 := by
  unfold prvO at h
  unfold digO
  split at h
  · cases h
  · rename_i h1
    rw [if_neg h1]
    split at h
    · cases h
    · rename_i h2
      rw [if_neg h2]
      exact ⟨⟨n.toNat, by omega, by omega⟩, rfl⟩
theorem dg_third (w1 : World) : (((w1.alloc (.cells #[.slice none 0 0] 22)).alloc (.cells #[.nilIface] 30)).alloc (.cells #[.nilFunc] 61)).heap[w1.heap.size + 1 + 1]? = some (.cells #[.nilFunc] 61 (0, 0)) := by
  have := heap_alloc_new ((w1.alloc (.cells #[.slice none 0 0] 22)).alloc (.cells #[.nilIface] 30)) (.cells #[.nilFunc] 61)
  simpa using this
theorem dg_new {w w1 : World} {a : PfA} {st : Bool} {dv : Value} {u p : ByteArray} (h : AcK w w1 a st dv u p) : DgS w (((w1.alloc (.cells #[.slice none 0 0] 22)).alloc (.cells #[.nilIface] 30)).alloc (.cells #[.func (.func 26) #[] #[.pointer (some ⟨w1.heap.size, 0, none⟩)]] 61)) a st dv u p w1.heap.size [] := by
  have hb1 : Below w1.heap.size w1 (w1.alloc (.cells #[.slice none 0 0] 22)) := (Below.refl _ _).alloc (Nat.le_refl _) _
  have h1 := heap_alloc_new w1 (.cells #[.slice none 0 0] 22)
  have z1 : (w1.alloc (.cells #[.slice none 0 0] 22)).heap.size = w1.heap.size + 1 := by simp
  generalize w1.alloc (.cells #[.slice none 0 0] 22) = wa at *
  have h2 := heap_alloc_new wa (.cells #[.nilIface] 30)
  have hb2 : Below wa.heap.size wa (wa.alloc (.cells #[.nilIface] 30)) := (Below.refl _ _).alloc (Nat.le_refl _) _
  have z2 : (wa.alloc (.cells #[.nilIface] 30)).heap.size = w1.heap.size + 2 := by simp [z1]
  generalize wa.alloc (.cells #[.nilIface] 30) = wb at *
  have h3 := heap_alloc_new wb (.cells #[.func (.func 26) #[] #[.pointer (some ⟨w1.heap.size, 0, none⟩)]] 61)
  have hb3 : Below wb.heap.size wb (wb.alloc (.cells #[.func (.func 26) #[] #[.pointer (some ⟨w1.heap.size, 0, none⟩)]] 61)) := (Below.refl _ _).alloc (Nat.le_refl _) _
  generalize wb.alloc (.cells #[.func (.func 26) #[] #[.pointer (some ⟨w1.heap.size, 0, none⟩)]] 61) = wc at *
  refine DgS.new h _ (hb1.trans ((hb2.mono (by omega)).trans (hb3.mono (by omega)))) ?_ ?_ ?_
  · rw [hb3.block _ (by omega), hb2.block _ (by omega)]
    exact h1
  · rw [hb3.block _ (by omega), ← z1]
    exact h2
  · rw [← z2]
    exact h3
theorem respL_len (a : PfA) (r : PfR) (n : Nat) : (respL a r n).length ≤ 64 := by
  unfold respL
  split <;> exact sumT_len _ _
theorem algT_len (a : PfA) : (algT a).length ≤ 3000 := by
  unfold algT
  split <;> split <;> decide
theorem qop_empty {s : ByteArray} (h : s.data.toList = []) : s = ⟨#[]⟩ := by rw [← bs_self s, h]; rfl
theorem qop_none {s : ByteArray} (h : s.data.toList = []) : (!s.toList.isEmpty) = false := by
  rw [ByteArray.toList_eq, h]
  rfl
theorem qop_full {s : ByteArray} (h : ¬ s.data.toList = []) : (!s.toList.isEmpty) = true := by
  rw [ByteArray.toList_eq]
  cases hs : s.data.toList with
  | nil => exact absurd hs h
  | cons x l => rfl
theorem qopI_len (a : PfA) (r : PfR) (m : Nat) : (fiveI a r m ++ [(nAlgo, algT a, false)] ++ qopI a m).length ≤ 20 := by
  unfold fiveI qopI
  split <;> simp
theorem cnI_len (a : PfA) (r : PfR) (m : Nat) : (fiveI a r m ++ [(nAlgo, algT a, false)] ++ qopI a m ++ cnI a r).length ≤ 20 := by
  unfold fiveI qopI cnI
  split <;> split <;> simp
theorem items_len (a : PfA) (r : PfR) (m : Nat) : (items a r m).length ≤ 20 := by
  unfold items fiveI qopI cnI opqI
  split <;> split <;> split <;> simp
theorem items_small (a : PfA) (r : PfR) (m : Nat) (hf : Fits a r) (ho : a.opq.size ≤ 500) : ∀ x ∈ items a r m, x.1.length ≤ 20 ∧ x.2.1.length ≤ 500 := by
  unfold Fits at hf
  have e : ∀ x : ByteArray, x.data.toList.length = x.size := fun x => Array.length_toList
  have h1 := respL_len a r m
  have h2 := countL_len m
  have h3 : (algT a).length ≤ 500 := by unfold algT; split <;> split <;> decide
  intro x hx
  unfold items fiveI qopI cnI opqI at hx
  simp only [List.mem_append, List.mem_cons, List.not_mem_nil, or_false] at hx
  rcases hx with ((((rfl | rfl | rfl | rfl | rfl) | rfl) | hx) | hx) | hx
  · exact ⟨(show nUser.length ≤ 20 by decide), by rw [e]; omega⟩
  · exact ⟨(show nRealm.length ≤ 20 by decide), by rw [e]; omega⟩
  · exact ⟨(show nNonce.length ≤ 20 by decide), by rw [e]; omega⟩
  · exact ⟨(show nUri.length ≤ 20 by decide), by rw [e]; omega⟩
  · exact ⟨(show nResp.length ≤ 20 by decide), by show (respL a r m).length ≤ 500; omega⟩
  · exact ⟨(show nAlgo.length ≤ 20 by decide), h3⟩
  · split at hx
    · cases hx
    · simp only [List.mem_cons, List.not_mem_nil, or_false] at hx
      rcases hx with rfl | rfl
      · exact ⟨(show nQop.length ≤ 20 by decide), by rw [e]; omega⟩
      · exact ⟨(show nNc.length ≤ 20 by decide), by show (countL m).length ≤ 500; omega⟩
  · split at hx
    · cases hx
    · simp only [List.mem_cons, List.not_mem_nil, or_false] at hx
      subst hx
      exact ⟨(show nCn.length ≤ 20 by decide), by rw [e]; omega⟩
  · split at hx
    · cases hx
    · simp only [List.mem_cons, List.not_mem_nil, or_false] at hx
      subst hx
      exact ⟨(show nOpq.length ≤ 20 by decide), by rw [e]; omega⟩
theorem items_join (a : PfA) (r : PfR) (m : Nat) (hf : Fits a r) (ho : a.opq.size ≤ 500) : Hid ((bs (Lib.join ((items a r m).map itemT) [44, 32])).size ≤ 30000) := by
  show _ ≤ _
  rw [bs_size]
  have h1 := join2_len 1100 ((items a r m).map itemT) (fun y hy => by
    obtain ⟨x, hx, rfl⟩ := List.mem_map.1 hy
    exact itemT_len x (items_small a r m hf ho x hx).1 (items_small a r m hf ho x hx).2)
  rw [List.length_map] at h1
  have h2 := items_len a r m
  have : (items a r m).length * 1102 ≤ 20 * 1102 := Nat.mul_le_mul_right _ h2
  omega
theorem dig_text (L : List Item) : .returned (.tuple #[.string ((⟨#[68, 105, 103, 101, 115, 116, 32]⟩ : ByteArray) ++ bs (Lib.join (L.map itemT) [44, 32])), .nilIface]) = Ending.returned (digV (.ok (digT L))) := by
  have e : bs (digT L) = (⟨#[68, 105, 103, 101, 115, 116, 32]⟩ : ByteArray) ++ bs (Lib.join (L.map itemT) [44, 32]) := by
    rw [← bs_self ((⟨#[68, 105, 103, 101, 115, 116, 32]⟩ : ByteArray) ++ bs (Lib.join (L.map itemT) [44, 32])), ByteArray.data_append, Array.toList_append, bs_data]
    rfl
  show _ = Ending.returned (.tuple #[.string (bs (digT L)), .nilIface])
  rw [e]
structure DgZ (a : PfA) (r : PfR) : Prop where
  hzu : r.user.data.toList.length ≤ 3000
  hzr : a.realm.data.toList.length ≤ 3000
  hzn : a.nonce.data.toList.length ≤ 3000
  hzt : r.target.data.toList.length ≤ 3000
  hzc : r.cnonce.data.toList.length ≤ 3000
  hzq : a.qop.data.toList.length ≤ 3000
  hzo : a.opq.data.toList.length ≤ 3000
theorem dgZ_of {a : PfA} {r : PfR} (hf : Fits a r) (ho : a.opq.size ≤ 500) : DgZ a r := by
  unfold Fits at hf
  have e : ∀ x : ByteArray, x.data.toList.length = x.size := fun x => Array.length_toList
  exact ⟨by rw [e]; omega, by rw [e]; omega, by rw [e]; omega, by rw [e]; omega, by rw [e]; omega, by rw [e]; omega, by rw [e]; omega⟩
set_option maxRecDepth 100000 in
set_option maxHeartbeats 8000000 in
theorem dig_any (a : PfA) (r : PfR) (st : Bool) (dv : Value) (n : Int) (hf : Fits a r) (ho : a.opq.size ≤ 500) (w : World) (HT : Hid (Tabs w)) :
    Calls Tryz.prog 9 #[.agg #[.int .i64 a.scheme, .string a.realm, .string a.nonce, .string a.opq, .bool a.sess, .string a.qop, .bool st, dv], .agg #[.string r.user, .string r.pass], .string r.method, .string r.target, .string r.body, .string r.cnonce, .int .i64 n] w fun e w' => e = .returned (digV (digO a r n)) ∧ Below w.heap.size w w' := by
  have hp := fun w => prv_any a st dv n w
  have HZ : Hid (DgZ a r) := dgZ_of hf ho
  have HK0 : Hid (AcK w ((w.alloc (.cells #[.int .i64 a.scheme, .string a.realm, .string a.nonce, .string a.opq, .bool a.sess, .string a.qop, .bool st, dv] 24)).alloc (.cells #[.string r.user, .string r.pass] 26)) a st dv r.user r.pass) := acK_start w a st dv r.user r.pass HT
  obtain ⟨c0, c1, c2, c3, c4, c5, c6, c7, d0, d1, _, _, _⟩ := HK0.out
  cases hpv : prvO a n with
  | some k =>
    have HE : Hid (digO a r n = .error k) := digO_bad a r n k hpv
    rw [hpv] at hp
    simp only [errOf] at hp
    go_enter Tryz.func9, Tryz.ntmps9
    go_wp2_with (go_at_call 25; refine (hp _).mono ?_; rintro e w1 ⟨rfl, hb1⟩; have HB1 : Hid (Below w.heap.size w w1) := HK0.out.bel.trans (hb1.mono HK0.out.bel.size); clear hb1)
    go_ret2
    exact ⟨by rw [HE.out]; rfl, HB1.out⟩
  | none =>
    obtain ⟨⟨m, rfl, hm⟩, he⟩ := digO_fit a r n hpv
    have HE : Hid (digO a r (m : Int) = if (items a r m).all itemOk then .ok (digT (items a r m)) else .error 3) := he
    rw [hpv] at hp
    simp only [errOf] at hp
    obtain ⟨X, HX⟩ : ∃ X, Hid (bs (respL a r m) = X) := ⟨_, rfl⟩
    have hrs : ∀ w, Hid (Tabs w) → Calls Tryz.prog 11 #[.agg #[.int .i64 a.scheme, .string a.realm, .string a.nonce, .string a.opq, .bool a.sess, .string a.qop, .bool st, dv], .agg #[.string r.user, .string r.pass], .string r.method, .string r.target, .string r.body, .string r.cnonce, .int .i64 (m : Int)] w fun e w' => e = .returned (.string X) ∧ Below w.heap.size w w' := fun w HT => by rw [← HX.out]; exact resp_any a r st dv m (by omega) hf w HT
    go_enter Tryz.func9, Tryz.ntmps9
    go_upto_region 8 with (go_at_call 25; refine (hp _).mono ?_; rintro e w1 ⟨rfl, hb1⟩; have HK1 : Hid (AcK w w1 a st dv r.user r.pass) := HK0.out.below hb1; clear hb1; have h3 := dg_third w1; have hs3 : (((w1.alloc (.cells #[.slice none 0 0] 22)).alloc (.cells #[.nilIface] 30)).alloc (.cells #[.nilFunc] 61)).cell? ⟨w1.heap.size + 1 + 1, 0, none⟩ = some .nilFunc := cell_of h3; have hf3 := free_of h3 0)
    have HS0 : Hid (DgS w _ a st dv r.user r.pass w1.heap.size []) := dg_new HK1.out
    clear h3 hs3 hf3 HK1 HK0 hp c0 c1 c2 c3 c4 c5 c6 c7 d0 d1
    generalize (((w1.alloc (.cells #[.slice none 0 0] 22)).alloc (.cells #[.nilIface] 30)).alloc (.cells #[.func (.func 26) #[] #[.pointer (some ⟨w1.heap.size, 0, none⟩)]] 61)) = W0 at HS0 ⊢
    generalize w1.heap.size = B at HS0 ⊢
    clear w1
    obtain ⟨c0, c1, c2, c3, c4, c5, c6, c7, d0, d1, q0⟩ := HS0.out.held
    go_wp2_with fail
    refine (HS0.out.quote HT nUser r.user.data.toList _ _ rfl (bs_self _).symm (by decide) HZ.out.hzu (by simp)).mono ?_
    rintro e W1 ⟨rfl, h1⟩
    have HS1 : Hid (DgS w W1 a st dv r.user r.pass B [(nUser, r.user.data.toList, true)]) := h1
    clear h1 HS0 c0 c1 c2 c3 c4 c5 c6 c7 d0 d1 q0
    obtain ⟨c0, c1, c2, c3, c4, c5, c6, c7, d0, d1, q0⟩ := HS1.out.held
    go_wp2_with fail
    refine (HS1.out.quote HT nRealm a.realm.data.toList _ _ rfl (bs_self _).symm (by decide) HZ.out.hzr (by simp)).mono ?_
    rintro e W2 ⟨rfl, h1⟩
    have HS2 : Hid (DgS w W2 a st dv r.user r.pass B [(nUser, r.user.data.toList, true), (nRealm, a.realm.data.toList, true)]) := h1
    clear h1 HS1 c0 c1 c2 c3 c4 c5 c6 c7 d0 d1 q0
    obtain ⟨c0, c1, c2, c3, c4, c5, c6, c7, d0, d1, q0⟩ := HS2.out.held
    go_wp2_with fail
    refine (HS2.out.quote HT nNonce a.nonce.data.toList _ _ rfl (bs_self _).symm (by decide) HZ.out.hzn (by simp)).mono ?_
    rintro e W3 ⟨rfl, h1⟩
    have HS3 : Hid (DgS w W3 a st dv r.user r.pass B [(nUser, r.user.data.toList, true), (nRealm, a.realm.data.toList, true), (nNonce, a.nonce.data.toList, true)]) := h1
    clear h1 HS2 c0 c1 c2 c3 c4 c5 c6 c7 d0 d1 q0
    obtain ⟨c0, c1, c2, c3, c4, c5, c6, c7, d0, d1, q0⟩ := HS3.out.held
    go_wp2_with fail
    refine (HS3.out.quote HT nUri r.target.data.toList _ _ rfl (bs_self _).symm (by decide) HZ.out.hzt (by simp)).mono ?_
    rintro e W4 ⟨rfl, h1⟩
    have HS4 : Hid (DgS w W4 a st dv r.user r.pass B [(nUser, r.user.data.toList, true), (nRealm, a.realm.data.toList, true), (nNonce, a.nonce.data.toList, true), (nUri, r.target.data.toList, true)]) := h1
    clear h1 HS3 c0 c1 c2 c3 c4 c5 c6 c7 d0 d1 q0
    obtain ⟨c0, c1, c2, c3, c4, c5, c6, c7, d0, d1, q0⟩ := HS4.out.held
    go_wp2_with (go_at_call 11; refine (hrs _ HS4.out.ac.tabs).mono ?_; rintro e W5 ⟨rfl, hb5⟩; have HS5 : Hid (DgS w W5 a st dv r.user r.pass B [(nUser, r.user.data.toList, true), (nRealm, a.realm.data.toList, true), (nNonce, a.nonce.data.toList, true), (nUri, r.target.data.toList, true)]) := HS4.out.below hb5; clear hb5)
    refine (HS5.out.quote HT nResp (respL a r m) _ _ rfl HX.out.symm (by decide) (Nat.le_trans (respL_len a r m) (by decide)) (by simp)).mono ?_
    rintro e W6 ⟨rfl, h1⟩
    have HS6 : Hid (DgS w W6 a st dv r.user r.pass B [(nUser, r.user.data.toList, true), (nRealm, a.realm.data.toList, true), (nNonce, a.nonce.data.toList, true), (nUri, r.target.data.toList, true), (nResp, respL a r m, true)]) := h1
    clear h1 HS4 HS5 c0 c1 c2 c3 c4 c5 c6 c7 d0 d1 q0 hrs
    go_upto_region 13 with fail
    have HS6d : Hid (DgS w W6.drew a st dv r.user r.pass B [(nUser, r.user.data.toList, true), (nRealm, a.realm.data.toList, true), (nNonce, a.nonce.data.toList, true), (nUri, r.target.data.toList, true), (nResp, respL a r m, true)]) := HS6.out.below (Below.refl _ _).drew
    refine wp_region_held_drew (S := DgH w a st dv r.user r.pass B) (by kernel_rfl) HS6d.out.held (fun hHeld => ?_)
    refine takeH (i := 0) (d := some 54) (v := ?_) rfl rfl (by kernel_rfl) (by kernel_rfl) (by kernel_rfl) (fun _ _ _ h => h) (by rfl) ?_ (by assumption) ?_
    rotate_left
    · intro w hSw; obtain ⟨c0, c1, c2, c3, c4, c5, c6, c7, d0, d1, q0⟩ := hSw; go_simp; with_reducible rfl
    try simp only [Act.put, List.setIfInBounds_toArray, List.set_cons_zero, List.set_cons_succ]
    refine takeH (i := 1) (d := some 55) (v := ?_) rfl rfl (by kernel_rfl) (by kernel_rfl) (by kernel_rfl) (fun _ _ _ h => h) (by rfl) ?_ (by assumption) ?_
    rotate_left
    · intro w hSw; obtain ⟨c0, c1, c2, c3, c4, c5, c6, c7, d0, d1, q0⟩ := hSw; go_simp; with_reducible rfl
    try simp only [Act.put, List.setIfInBounds_toArray, List.set_cons_zero, List.set_cons_succ]
    refine wpAnyH_ready (rs := [2]) (by kernel_rfl) (by simp) ?_
    refine AllReadyH.cons (by rfl) (fun K hKK => ?_) AllReadyH.nil
    go_simp
    refine (alg_any a st dv _).mono ?_
    rintro e W7 ⟨rfl, hb7⟩
    have HS7 : Hid (DgS w W7 a st dv r.user r.pass B [(nUser, r.user.data.toList, true), (nRealm, a.realm.data.toList, true), (nNonce, a.nonce.data.toList, true), (nUri, r.target.data.toList, true), (nResp, respL a r m, true)]) := HS6d.out.below hb7
    clear hb7
    go_wp2_with fail
    refine hKK.out _ _ HS7.out.held (fun hHeld => ?_)
    clear hKK K
    try simp only [Act.put, List.setIfInBounds_toArray, List.set_cons_zero, List.set_cons_succ]
    refine wpAnyH_ready (rs := [3]) (by kernel_rfl) (by simp) ?_
    refine AllReadyH.cons (by rfl) (fun K hKK => ?_) AllReadyH.nil
    go_simp
    refine (HS7.out.plain HT nAlgo (algT a) _ _ rfl rfl (by decide) (algT_len a) (by simp)).mono ?_
    rintro e W8 ⟨rfl, h1⟩
    have HS8 : Hid (DgS w W8 a st dv r.user r.pass B (fiveI a r m ++ [(nAlgo, algT a, false)])) := h1
    clear h1 HS7 HS6 HS6d
    go_wp2_with fail
    refine hKK.out _ _ HS8.out.held (fun hHeld => ?_)
    clear hKK K
    try simp only [Act.put, List.setIfInBounds_toArray, List.set_cons_zero, List.set_cons_succ]
    refine wpAnyH_done (by kernel_rfl) ?_ _
    obtain ⟨c0, c1, c2, c3, c4, c5, c6, c7, d0, d1, q0⟩ := HS8.out.held
    go_upto_if 60 with fail
    go_cut [] (fun wc => Hid (DgS w wc a st dv r.user r.pass B (fiveI a r m ++ [(nAlgo, algT a, false)] ++ qopI a m)))
    case first =>
      clear c0 c1 c2 c3 c4 c5 c6 c7 d0 d1 q0
      by_cases hq : a.qop.data.toList = []
      · have HQE : Hid (qopI a m = []) := by show _ = _; unfold qopI; rw [if_pos hq]
        have he : (!a.qop.toList.isEmpty) = false := qop_none hq
        rw [he]
        go_wp2
        go_meet
        show DgS w W8 a st dv r.user r.pass B (fiveI a r m ++ [(nAlgo, algT a, false)] ++ qopI a m)
        rw [HQE.out, List.append_nil]
        exact HS8.out
      · have HQE : Hid (qopI a m = [(nQop, a.qop.data.toList, false), (nNc, countL m, false)]) := by show _ = _; unfold qopI; rw [if_neg hq]
        have he : (!a.qop.toList.isEmpty) = true := qop_full hq
        rw [he]
        obtain ⟨c0, c1, c2, c3, c4, c5, c6, c7, d0, d1, q0⟩ := HS8.out.held
        go_wp2_with fail
        refine (HS8.out.plain HT nQop a.qop.data.toList _ _ rfl (bs_self _).symm (by decide) HZ.out.hzq (by simp [fiveI])).mono ?_
        rintro e W9 ⟨rfl, h1⟩
        have HS9 : Hid (DgS w W9 a st dv r.user r.pass B (fiveI a r m ++ [(nAlgo, algT a, false)] ++ [(nQop, a.qop.data.toList, false)])) := h1
        clear h1 c0 c1 c2 c3 c4 c5 c6 c7 d0 d1 q0 HS8
        go_upto_region 16 with fail
        have HS9d : Hid (DgS w W9.drew a st dv r.user r.pass B (fiveI a r m ++ [(nAlgo, algT a, false)] ++ [(nQop, a.qop.data.toList, false)])) := HS9.out.below (Below.refl _ _).drew
        refine wp_region_held_drew (S := DgH w a st dv r.user r.pass B) (by kernel_rfl) HS9d.out.held (fun hHeld => ?_)
        refine takeH (i := 0) (d := some 65) (v := ?_) rfl rfl (by kernel_rfl) (by kernel_rfl) (by kernel_rfl) (fun _ _ _ h => h) (by rfl) ?_ (by assumption) ?_
        rotate_left
        · intro w hSw; obtain ⟨c0, c1, c2, c3, c4, c5, c6, c7, d0, d1, q0⟩ := hSw; go_simp; with_reducible rfl
        try simp only [Act.put, List.setIfInBounds_toArray, List.set_cons_zero, List.set_cons_succ]
        refine takeH (i := 1) (d := some 66) (v := ?_) rfl rfl (by kernel_rfl) (by kernel_rfl) (by kernel_rfl) (fun _ _ _ h => h) (by rfl) ?_ (by assumption) ?_
        rotate_left
        · intro w hSw; go_simp; with_reducible rfl
        try simp only [Act.put, List.setIfInBounds_toArray, List.set_cons_zero, List.set_cons_succ]
        refine wpAnyH_ready (rs := [2]) (by kernel_rfl) (by simp) ?_
        refine AllReadyH.cons (by rfl) (fun K hKK => ?_) AllReadyH.nil
        go_simp
        refine (count_any m (by omega) _ HS9d.out.ac.tabs.bruijn).mono ?_
        rintro e WA ⟨rfl, hbA⟩
        have HSA : Hid (DgS w WA a st dv r.user r.pass B (fiveI a r m ++ [(nAlgo, algT a, false)] ++ [(nQop, a.qop.data.toList, false)])) := HS9d.out.below hbA
        clear hbA
        go_wp2_with fail
        refine hKK.out _ _ HSA.out.held (fun hHeld => ?_)
        clear hKK K
        try simp only [Act.put, List.setIfInBounds_toArray, List.set_cons_zero, List.set_cons_succ]
        refine wpAnyH_ready (rs := [3]) (by kernel_rfl) (by simp) ?_
        refine AllReadyH.cons (by rfl) (fun K hKK => ?_) AllReadyH.nil
        go_simp
        refine (HSA.out.plain HT nNc (countL m) _ _ rfl rfl (by decide) (Nat.le_trans (countL_len _) (by decide)) (by simp [fiveI])).mono ?_
        rintro e WB ⟨rfl, h1⟩
        have HSB : Hid (DgS w WB a st dv r.user r.pass B (fiveI a r m ++ [(nAlgo, algT a, false)] ++ qopI a m)) := by
          show _
          rw [HQE.out]
          simp only [List.append_assoc, List.cons_append, List.nil_append] at h1 ⊢
          exact h1
        clear h1 HSA HS9 HS9d
        go_wp2_with fail
        refine hKK.out _ _ HSB.out.held (fun hHeld => ?_)
        clear hKK K
        try simp only [Act.put, List.setIfInBounds_toArray, List.set_cons_zero, List.set_cons_succ]
        refine wpAnyH_done (by kernel_rfl) ?_ _
        go_wp2_with fail
        go_meet
        exact HSB
    case rest =>
      have HSC : Hid (DgS w wc a st dv r.user r.pass B (fiveI a r m ++ [(nAlgo, algT a, false)] ++ qopI a m)) := hcut
      clear hcut HS8 c0 c1 c2 c3 c4 c5 c6 c7 d0 d1 q0
      go_upto_region 17 with fail
      go_cut [75] (fun v wc => v = .bool (!(decide (a.qop.data.toList = []) && !a.sess)) ∧ Hid (DgS w wc a st dv r.user r.pass B (fiveI a r m ++ [(nAlgo, algT a, false)] ++ qopI a m)))
      case first =>
        obtain ⟨c0, c1, c2, c3, c4, c5, c6, c7, d0, d1, q0⟩ := HSC.out.held
        by_cases hq : a.qop.data.toList = []
        · have he : (!a.qop.toList.isEmpty) = false := qop_none hq
          obtain ⟨b, hs⟩ : ∃ b, a.sess = b := ⟨_, rfl⟩
          cases b
          · rw [hs] at c4
            go_wp2_with fail
            go_meet
            exact ⟨by simp [he, hq, hs], HSC.out⟩
          · rw [hs] at c4
            go_wp2_with fail
            go_meet
            exact ⟨by simp [he, hq, hs], HSC.out⟩
        · have he : (!a.qop.toList.isEmpty) = true := qop_full hq
          go_wp2_with fail
          go_meet
          exact ⟨by simp [he, hq], HSC.out⟩
      case rest =>
        obtain ⟨rfl, HSD⟩ := hcut
        clear HSC
        go_upto_if 75 with fail
        go_cut [] (fun wc => Hid (DgS w wc a st dv r.user r.pass B (fiveI a r m ++ [(nAlgo, algT a, false)] ++ qopI a m ++ cnI a r)))
        case first =>
          cases hb : (!(decide (a.qop.data.toList = []) && !a.sess))
          · have HQE : Hid (cnI a r = []) := by show _ = _; unfold cnI; rw [if_pos (by simpa using hb)]
            go_wp2
            go_meet
            show DgS w wc a st dv r.user r.pass B (fiveI a r m ++ [(nAlgo, algT a, false)] ++ qopI a m ++ cnI a r)
            rw [HQE.out, List.append_nil]
            exact HSD.out
          · have HQE : Hid (cnI a r = [(nCn, r.cnonce.data.toList, true)]) := by show _ = _; unfold cnI; rw [if_neg (fun h => by rw [h.1, h.2] at hb; simp at hb)]
            go_wp2_with fail
            refine (HSD.out.quote HT nCn r.cnonce.data.toList _ _ rfl (bs_self _).symm (by decide) HZ.out.hzc (qopI_len a r m)).mono ?_
            rintro e WE ⟨rfl, h1⟩
            have HSE : Hid (DgS w WE a st dv r.user r.pass B (fiveI a r m ++ [(nAlgo, algT a, false)] ++ qopI a m ++ cnI a r)) := by show _; rw [HQE.out]; exact h1
            clear h1 HSD
            go_wp2
            go_meet
            exact HSE
        case rest =>
          have HSF : Hid (DgS w wc a st dv r.user r.pass B (fiveI a r m ++ [(nAlgo, algT a, false)] ++ qopI a m ++ cnI a r)) := hcut
          clear hcut HSD
          obtain ⟨c0, c1, c2, c3, c4, c5, c6, c7, d0, d1, q0⟩ := HSF.out.held
          go_upto_if 81 with fail
          go_cut [] (fun wc => Hid (DgS w wc a st dv r.user r.pass B (items a r m)))
          case first =>
            clear c0 c1 c2 c3 c4 c5 c6 c7 d0 d1 q0
            by_cases hq : a.opq.data.toList = []
            · have HQE : Hid (opqI a = []) := by show _ = _; unfold opqI; rw [if_pos hq]
              have he : (!a.opq.toList.isEmpty) = false := qop_none hq
              rw [he]
              go_wp2
              go_meet
              show DgS w wc a st dv r.user r.pass B (items a r m)
              unfold items
              rw [HQE.out, List.append_nil]
              exact HSF.out
            · have HQE : Hid (opqI a = [(nOpq, a.opq.data.toList, true)]) := by show _ = _; unfold opqI; rw [if_neg hq]
              have he : (!a.opq.toList.isEmpty) = true := qop_full hq
              rw [he]
              obtain ⟨c0, c1, c2, c3, c4, c5, c6, c7, d0, d1, q0⟩ := HSF.out.held
              go_wp2_with fail
              refine (HSF.out.quote HT nOpq a.opq.data.toList _ _ rfl (bs_self _).symm (by decide) HZ.out.hzo (cnI_len a r m)).mono ?_
              rintro e WG ⟨rfl, h1⟩
              have HSG : Hid (DgS w WG a st dv r.user r.pass B (items a r m)) := by show _; unfold items; rw [HQE.out]; exact h1
              clear h1 HSF c0 c1 c2 c3 c4 c5 c6 c7 d0 d1 q0
              go_wp2
              go_meet
              exact HSG
          case rest =>
            have HSH : Hid (DgS w wc a st dv r.user r.pass B (items a r m)) := hcut
            clear hcut HSF c0 c1 c2 c3 c4 c5 c6 c7 d0 d1 q0
            cases hok : (items a r m).all itemOk
            · have HE2 : Hid (digO a r (m : Int) = .error 3) := by show _; rw [HE.out, hok]; rfl
              have b0 : wc.cell? ⟨B + 1, 0, none⟩ = some (.iface 64 (.int .i64 3)) := by
                have h := cell_of (i := 0) HSH.out.di.wr
                rw [hok] at h
                exact h
              go_wp2_with fail
              go_quiet (fail)
              go_wp2
              go_ret2
              have hbb := HSH.out.ac.bel
              exact ⟨by rw [HE2.out]; rfl, ⟨hbb.os, hbb.tape, hbb.output, hbb.size, hbb.block⟩⟩
            · have HE2 : Hid (digO a r (m : Int) = .ok (digT (items a r m))) := by show _; rw [HE.out, hok]; rfl
              have b0 : wc.cell? ⟨B + 1, 0, none⟩ = some .nilIface := by
                have h := cell_of (i := 0) HSH.out.di.wr
                rw [hok] at h
                exact h
              obtain ⟨v, hv1, hv2⟩ := HSH.out.di.row
              have v0 : wc.cell? ⟨B, 0, none⟩ = some v := cell_of hv1
              have HJ := joinI_any (items a r m) hok (items_small a r m hf ho) (items_len a r m) _ rfl _ v wc hv2
              obtain ⟨J, HJE⟩ : ∃ J, Hid (bs (Lib.join ((items a r m).map itemT) [44, 32]) = J) := ⟨_, rfl⟩
              have hjz : J.size ≤ 30000 := by rw [← HJE.out]; exact (items_join a r m hf ho).out
              rw [HJE.out] at HJ
              clear hv1 hv2
              go_wp2_with (go_at_call 29; refine HJ.mono ?_; rintro e wj ⟨rfl, hbj⟩; have HBJ : Hid (Below w.heap.size w wj) := HSH.out.ac.bel.trans (hbj.mono HSH.out.ac.bel.size); clear hbj)
              go_ret2
              exact ⟨by rw [HE2.out, ← dig_text, HJE.out]; rfl, HBJ.out⟩
end Go.Proofs.YtgajhmmildbkfaaGreatDoor

/- Origins and paths as the document says them, over lists of bytes. -/
namespace Go.Proofs.YtgajhmmildbkfaaGreatDoor

/-- A byte of a host's label: a small letter or a digit. -/
def alnum (c : UInt8) : Bool := decide (97 ≤ c.toNat ∧ c.toNat ≤ 122) || decide (48 ≤ c.toNat ∧ c.toNat ≤ 57)
/-- Whether a byte may stand behind another one in a host (46: a point; ahead of the first byte and behind the last one a point is thought). -/
def hostStep (was c : UInt8) : Bool :=
  !((c == 46 && (was == 46 || was == 45)) || (c == 45 && was == 46) || (c != 46 && c != 45 && !alnum c))
def hostFrom (was : UInt8) : List UInt8 → Bool
  | [] => hostStep was 46
  | c :: t => hostStep was c && hostFrom c t
def hostL (l : List UInt8) : Bool := hostFrom 46 l
def rightL (host : List UInt8) (port : Int) : Bool := decide (host.length ≤ 60) && decide (1 ≤ port ∧ port ≤ 65535) && hostL host
/-- The port that is meant where none is told. -/
def portI (b : Bool) : Int := if b then 443 else 80
/-- A path up to its last slash, with it. -/
def dirL (l : List UInt8) : List UInt8 := (l.reverse.dropWhile (· != 47)).reverse
/-- A byte that may stand in a path or a query. -/
def sendB (c : UInt8) : Bool := decide (97 ≤ c.toNat ∧ c.toNat ≤ 122) || decide (65 ≤ c.toNat ∧ c.toNat ≤ 90) || decide (48 ≤ c.toNat ∧ c.toNat ≤ 57) || [45, 46, 95, 126, 33, 36, 38, 39, 40, 41, 42, 43, 44, 59, 61, 58, 64, 37, 47, 63].contains c
def sendL (l : List UInt8) : Bool := l.all sendB
/-- What stands between slashes. -/
def splitL (d : UInt8) : List UInt8 → List (List UInt8)
  | [] => [[]]
  | c :: t => if c = d then [] :: splitL d t else match splitL d t with
    | [] => [[c]]
    | p :: r => (c :: p) :: r
def joinL (d : UInt8) : List (List UInt8) → List UInt8
  | [] => []
  | [p] => p
  | p :: r => p ++ d :: joinL d r
/-- One part behind others: a point is left out, two take the one ahead away; if it is the last one an empty part stands there. -/
def cleanStep (last : Bool) (acc : List (List UInt8)) (p : List UInt8) : List (List UInt8) :=
  if p = [46] then (if last then acc ++ [[]] else acc)
  else if p = [46, 46] then (if last then acc.dropLast ++ [[]] else acc.dropLast)
  else acc ++ [p]
def cleanParts (acc : List (List UInt8)) : List (List UInt8) → List (List UInt8)
  | [] => acc
  | p :: r => cleanParts (cleanStep r.isEmpty acc p) r
def bodyL (s : List UInt8) : List UInt8 := match s with
  | 47 :: t => t
  | _ => s
def cleanL (s : List UInt8) : List UInt8 := 47 :: joinL 47 (cleanParts [] (splitL 47 (bodyL s)))
theorem clean_one : cleanL [47, 97, 47, 46, 47, 98, 47, 46, 46] = [47, 97, 47] := by decide
theorem clean_two : cleanL [46, 46, 47, 120] = [47, 120] := by decide
theorem clean_empty : cleanL [] = [47] := by decide
theorem host_one : hostL [97, 46, 116, 45, 49] = true := by decide
theorem host_two : hostL [97, 46] = false := by decide
end Go.Proofs.YtgajhmmildbkfaaGreatDoor

/- Clean is clean; a path's directory is its own: over lists of bytes. -/
namespace Go.Proofs.YtgajhmmildbkfaaGreatDoor

theorem splitL_ne (d : UInt8) : ∀ l, splitL d l ≠ []
  | [] => by simp [splitL]
  | c :: t => by
    unfold splitL
    split
    · simp
    · split <;> simp
theorem splitL_no (d : UInt8) : ∀ l, ∀ p ∈ splitL d l, d ∉ p
  | [], p, h => by
    simp [splitL] at h
    simp [h]
  | c :: t, p, h => by
    have ih := splitL_no d t
    unfold splitL at h
    split at h
    · rcases List.mem_cons.1 h with h | h
      · simp [h]
      · exact ih p h
    · rename_i hc
      split at h
      · simp at h
        subst h
        simp
        exact fun e => hc e.symm
      · rename_i q r hq
        rcases List.mem_cons.1 h with h | h
        · subst h
          have := ih q (by rw [hq]; simp)
          simp
          exact ⟨fun e => hc e.symm, this⟩
        · exact ih p (by rw [hq]; simp [h])
theorem splitL_part (d : UInt8) (p : List UInt8) (h : d ∉ p) : splitL d p = [p] := by
  induction p with
  | nil => rfl
  | cons c t ih =>
    have h1 : c ≠ d := fun e => h (by simp [e])
    have h2 : d ∉ t := fun e => h (by simp [e])
    unfold splitL
    rw [if_neg h1, ih h2]
theorem splitL_more (d : UInt8) (p t : List UInt8) (h : d ∉ p) : splitL d (p ++ d :: t) = p :: splitL d t := by
  induction p with
  | nil => simp [splitL]
  | cons c r ih =>
    have h1 : c ≠ d := fun e => h (by simp [e])
    have h2 : d ∉ r := fun e => h (by simp [e])
    rw [List.cons_append, splitL, if_neg h1, ih h2]
theorem splitL_joinL (d : UInt8) : ∀ ps : List (List UInt8), ps ≠ [] → (∀ p ∈ ps, d ∉ p) → splitL d (joinL d ps) = ps
  | [], h, _ => absurd rfl h
  | [p], _, h => splitL_part d p (h p (by simp))
  | p :: q :: r, _, h => by
    rw [joinL, splitL_more d p _ (h p (by simp)), splitL_joinL d (q :: r) (by simp) (fun x hx => h x (by simp [hx]))]
    simp
def plainP (p : List UInt8) : Prop := p ≠ [46] ∧ p ≠ [46, 46] ∧ (47 : UInt8) ∉ p
theorem cleanStep_plain (last : Bool) (acc : List (List UInt8)) (p : List UInt8) (ha : ∀ q ∈ acc, plainP q) (hp : (47 : UInt8) ∉ p) : ∀ q ∈ cleanStep last acc p, plainP q := by
  have hd : ∀ q ∈ acc.dropLast, plainP q := fun q hq => ha q ((List.dropLast_sublist acc).subset hq)
  have he : plainP [] := ⟨by simp, by simp, by simp⟩
  intro q hq
  unfold cleanStep at hq
  split at hq
  · split at hq
    · rcases List.mem_append.1 hq with h | h
      · exact ha q h
      · simp at h
        rw [h]
        exact he
    · exact ha q hq
  split at hq
  · split at hq
    · rcases List.mem_append.1 hq with h | h
      · exact hd q h
      · simp at h
        rw [h]
        exact he
    · exact hd q hq
  · rename_i h1 h2
    rcases List.mem_append.1 hq with h | h
    · exact ha q h
    · simp at h
      rw [h]
      exact ⟨h1, h2, hp⟩
theorem cleanParts_plain : ∀ (ps acc : List (List UInt8)), (∀ q ∈ acc, plainP q) → (∀ p ∈ ps, (47 : UInt8) ∉ p) → ∀ q ∈ cleanParts acc ps, plainP q
  | [], acc, ha, _, q, hq => ha q hq
  | p :: r, acc, ha, hp, q, hq => cleanParts_plain r _ (cleanStep_plain _ acc p ha (hp p (by simp))) (fun x hx => hp x (by simp [hx])) q hq
theorem cleanParts_ne : ∀ (ps acc : List (List UInt8)), ps ≠ [] → cleanParts acc ps ≠ []
  | [], _, h => absurd rfl h
  | [p], acc, _ => by
    simp only [cleanParts, List.isEmpty_nil]
    unfold cleanStep
    split
    · simp
    split
    · simp
    · simp
  | p :: q :: r, acc, _ => cleanParts_ne (q :: r) _ (by simp)
theorem cleanParts_same : ∀ (ps acc : List (List UInt8)), (∀ p ∈ ps, plainP p) → cleanParts acc ps = acc ++ ps
  | [], acc, _ => by simp [cleanParts]
  | p :: r, acc, h => by
    have hp := h p (by simp)
    rw [cleanParts, cleanStep, if_neg hp.1, if_neg hp.2.1, cleanParts_same r _ (fun x hx => h x (by simp [hx]))]
    simp
/-- The parts of a clean path. -/
theorem cleanL_parts (s : List UInt8) : ∃ ps, ps ≠ [] ∧ (∀ p ∈ ps, plainP p) ∧ cleanL s = 47 :: joinL 47 ps ∧ splitL 47 (cleanL s) = [] :: ps := by
  have h1 := cleanParts_plain (splitL 47 (bodyL s)) [] (by simp) (splitL_no 47 _)
  have h2 := cleanParts_ne (splitL 47 (bodyL s)) [] (splitL_ne 47 _)
  refine ⟨cleanParts [] (splitL 47 (bodyL s)), h2, h1, rfl, ?_⟩
  rw [cleanL, splitL, if_pos rfl, splitL_joinL 47 _ h2 (fun p hp => (h1 p hp).2.2)]
theorem cleanL_twice (s : List UInt8) : cleanL (cleanL s) = cleanL s := by
  obtain ⟨ps, hn, hp, hc, _⟩ := cleanL_parts s
  have e : cleanL (47 :: joinL 47 ps) = 47 :: joinL 47 (cleanParts [] (splitL 47 (joinL 47 ps))) := rfl
  rw [hc, e, splitL_joinL 47 ps hn (fun p h => (hp p h).2.2), cleanParts_same ps [] hp]
  simp
theorem dirL_prefix (l : List UInt8) : dirL l <+: l := by
  unfold dirL
  have h := List.dropWhile_suffix (l := l.reverse) (fun c : UInt8 => c != 47)
  have := List.reverse_prefix.2 h
  simpa using this
theorem dirL_twice (l : List UInt8) : dirL (dirL l) = dirL l := by
  unfold dirL
  rw [List.reverse_reverse]
  congr 1
  generalize l.reverse = r
  induction r with
  | nil => rfl
  | cons c t ih =>
    rw [List.dropWhile_cons]
    split
    · exact ih
    · rename_i h
      rw [List.dropWhile_cons, if_neg h]
end Go.Proofs.YtgajhmmildbkfaaGreatDoor

/- What the document says of words, texts between marks and lists, among themselves. -/
namespace Go.Proofs.YtgajhmmildbkfaaGreatDoor

theorem text_34 : textB 34 = true := by decide
theorem text_92 : textB 92 = true := by decide
theorem unq_esc (s more : List UInt8) (h : s.all textB = true) : unqL false (escL s ++ 34 :: more) = some (s, (escL s).length + 1) := by
  induction s with
  | nil => simp [escL, unqL, text_34]
  | cons c t ih =>
    rw [List.all_cons, Bool.and_eq_true] at h
    have ih := ih h.2
    rw [escL]
    split
    · rename_i hc
      simp only [List.cons_append]
      have e : unqL true (c :: (escL t ++ 34 :: more)) = some (c :: t, (escL t).length + 1 + 1) := by
        rw [unqL, ih]
        simp [h.1]
      rw [unqL, e]
      simp [text_92]
    · rename_i hc
      simp only [List.cons_append]
      rw [unqL, ih]
      have h1 : c ≠ 34 := fun e => hc (.inl e)
      have h2 : c ≠ 92 := fun e => hc (.inr e)
      simp [h.1, h1, h2]
theorem quoted_quote (s more : List UInt8) (h : s.all textB = true) : quotedL (quoteL s ++ more) = some (s, (quoteL s).length) := by
  unfold quoteL
  simp only [List.cons_append, List.append_assoc, List.nil_append]
  rw [quotedL, unq_esc s more h]
  simp
theorem unq_size : ∀ (l : List UInt8) (e : Bool) (t : List UInt8) (n : Nat), unqL e l = some (t, n) → t.length + 1 ≤ n ∧ n ≤ l.length
  | [], e, t, n, h => by simp [unqL] at h
  | c :: r, e, t, n, h => by
    rw [unqL] at h
    split at h
    · cases h
    · split at h
      · obtain ⟨⟨a, b⟩, h1, h2⟩ := Option.map_eq_some_iff.1 h
        have := unq_size r _ _ _ h1
        simp only [Prod.mk.injEq] at h2
        obtain ⟨rfl, rfl⟩ := h2
        simp
        omega
      · split at h
        · cases h
          simp
        · split at h
          · obtain ⟨⟨a, b⟩, h1, h2⟩ := Option.map_eq_some_iff.1 h
            have := unq_size r _ _ _ h1
            simp only [Prod.mk.injEq] at h2
            obtain ⟨rfl, rfl⟩ := h2
            simp
            omega
          · obtain ⟨⟨a, b⟩, h1, h2⟩ := Option.map_eq_some_iff.1 h
            have := unq_size r _ _ _ h1
            simp only [Prod.mk.injEq] at h2
            obtain ⟨rfl, rfl⟩ := h2
            simp
            omega
theorem quoted_size (l t : List UInt8) (n : Nat) (h : quotedL l = some (t, n)) : t.length + 2 ≤ n ∧ n ≤ l.length := by
  cases l with
  | nil => cases h
  | cons c r =>
    rw [quotedL] at h
    split at h
    · obtain ⟨⟨a, b⟩, h1, h2⟩ := Option.map_eq_some_iff.1 h
      have := unq_size r _ _ _ h1
      simp only [Prod.mk.injEq] at h2
      obtain ⟨rfl, rfl⟩ := h2
      simp
      omega
    · cases h
/-- A value, and what stands behind it, is read as what it is. -/
theorem value_word (s v more : List UInt8) (hm : ∀ c t, more = c :: t → tokB c = false) (h : valueO s = some v) :
    (isL s = true ∧ v = s ∧ (v ++ more).takeWhile tokB = s) ∨ (isL s = false ∧ (v ++ more).takeWhile tokB = [] ∧ quotedL (v ++ more) = some (s, v.length)) := by
  have hmore : more.takeWhile tokB = [] := by
    cases more with
    | nil => rfl
    | cons c t => rw [List.takeWhile_cons, hm c t rfl]; rfl
  unfold valueO at h
  split at h
  · rename_i hs
    cases h
    refine .inl ⟨hs, rfl, ?_⟩
    unfold isL at hs
    rw [Bool.and_eq_true] at hs
    rw [List.takeWhile_append_of_pos (by simpa [List.all_eq_true] using hs.2), hmore, List.append_nil]
  · rename_i hs
    unfold quoteO at h
    split at h
    · rename_i ht
      cases h
      refine .inr ⟨by simpa using hs, ?_, quoted_quote s more ht⟩
      unfold quoteL
      rw [List.cons_append, List.takeWhile_cons, show tokB 34 = false by decide]
      rfl
    · cases h

theorem dw_comma (f : UInt8 → Bool) (hf : f 44 = false) (p t : List UInt8) : (p ++ 44 :: t).dropWhile f = p.dropWhile f ++ 44 :: t := by
  induction p with
  | nil => simp [hf]
  | cons c r ih =>
    by_cases h : f c = true
    · simp [h, ih]
    · simp [h]
theorem tw_comma (f : UInt8 → Bool) (hf : f 44 = false) (p t : List UInt8) : (p ++ 44 :: t).takeWhile f = p.takeWhile f := by
  induction p with
  | nil => simp [hf]
  | cons c r ih =>
    by_cases h : f c = true
    · simp [h, ih]
    · simp [h]
theorem wordP_comma (p t : List UInt8) : wordP (p ++ 44 :: t) = wordP p := by
  unfold wordP
  rw [dw_comma _ blank_not_comma, tw_comma _ tok_not_comma]
theorem restP_comma (p t : List UInt8) : restP (p ++ 44 :: t) = restP p ++ 44 :: t := by
  unfold restP
  rw [dw_comma _ blank_not_comma, dw_comma _ tok_not_comma, dw_comma _ blank_not_comma]
theorem restP_suffix (p : List UInt8) : restP p <:+ p := by
  unfold restP
  exact (List.dropWhile_suffix _).trans ((List.dropWhile_suffix _).trans (List.dropWhile_suffix _))
theorem cut_at (l : List UInt8) : 44 ∈ l → ∃ p t, l = p ++ 44 :: t ∧ 44 ∉ p := by
  induction l with
  | nil => intro h; cases h
  | cons c r ih =>
    intro h
    by_cases hc : c = 44
    · exact ⟨[], r, by rw [hc]; rfl, by simp⟩
    · obtain ⟨p, t, e, hp⟩ := ih (by simpa [Ne.symm hc] using h)
      exact ⟨c :: p, t, by rw [e]; rfl, by simp [hp, Ne.symm hc]⟩
theorem split_cases (l : List UInt8) : (44 ∉ l ∧ splitL 44 l = [l]) ∨ ∃ p t, l = p ++ 44 :: t ∧ 44 ∉ p ∧ splitL 44 l = p :: splitL 44 t := by
  by_cases h : 44 ∈ l
  · obtain ⟨p, t, rfl, hp⟩ := cut_at l h
    exact .inr ⟨p, t, rfl, hp, splitL_more 44 p t hp⟩
  · exact .inl ⟨h, splitL_part 44 l h⟩
theorem list_end (k : Nat) (l : List UInt8) (h : restP l = []) : listP k (splitL 44 l) = .ok (consW (wordP l) []) := by
  rcases split_cases l with ⟨_, e⟩ | ⟨p, t, rfl, _, _⟩
  · rw [e, listP, if_pos h, listP]
    rfl
  · rw [restP_comma] at h
    simp at h
theorem list_more (k : Nat) (l t : List UInt8) (h : restP l = 44 :: t) : listP k (splitL 44 l) = (listP (k + (l.length - t.length)) (splitL 44 t)).map (consW (wordP l)) := by
  rcases split_cases l with ⟨hn, e⟩ | ⟨p, t', rfl, hn, e⟩
  · exact absurd ((restP_suffix l).mem (by rw [h]; simp)) hn
  · rw [restP_comma] at h
    cases hr : restP p with
    | nil =>
      rw [hr] at h
      simp only [List.nil_append, List.cons.injEq, true_and] at h
      subst h
      rw [e, listP, if_pos hr, wordP_comma]
      congr 2
      simp
      omega
    | cons c r =>
      rw [hr] at h
      simp only [List.cons_append, List.cons.injEq] at h
      exact absurd ((restP_suffix p).mem (by rw [hr, h.1]; simp)) hn
theorem list_bad (k : Nat) (l t : List UInt8) (c : UInt8) (h : restP l = c :: t) (hc : c ≠ 44) : listP k (splitL 44 l) = .error (k + (l.length - (restP l).length)) := by
  rcases split_cases l with ⟨hn, e⟩ | ⟨p, t', rfl, hn, e⟩
  · rw [e, listP, if_neg (by rw [h]; simp)]
  · rw [restP_comma] at h
    cases hr : restP p with
    | nil =>
      rw [hr] at h
      simp only [List.nil_append, List.cons.injEq] at h
      exact absurd h.1.symm hc
    | cons c' r =>
      rw [e, listP, if_neg (by rw [hr]; simp), restP_comma]
      congr 2
      simp
      omega
/-- All parts hold a word or nothing. -/
def okP (P : List (List UInt8)) : Prop := ∀ p ∈ P, restP p = []
def wordsP : List (List UInt8) → List (List UInt8)
  | [] => []
  | p :: r => consW (wordP p) (wordsP r)
theorem wordsP_append (a b : List (List UInt8)) : wordsP (a ++ b) = wordsP a ++ wordsP b := by
  induction a with
  | nil => rfl
  | cons p r ih =>
    rw [List.cons_append, wordsP, wordsP, ih]
    unfold consW
    split <;> rfl
theorem listP_ok (P : List (List UInt8)) : ∀ (k : Nat) (x : List (List UInt8)), listP k P = .ok x ↔ okP P ∧ x = wordsP P := by
  induction P with
  | nil =>
    intro k x
    rw [listP, wordsP]
    constructor
    · intro h
      refine ⟨fun p hp => ?_, ?_⟩
      · cases hp
      · cases h
        rfl
    · intro h
      rw [h.2]
  | cons p r ih =>
    intro k x
    rw [listP, wordsP]
    by_cases h : restP p = []
    · rw [if_pos h]
      cases e : listP (k + p.length + 1) r with
      | error n =>
        refine ⟨fun hh => (by cases hh), fun hh => ?_⟩
        have := (ih (k + p.length + 1) (wordsP r)).2 ⟨fun q hq => hh.1 q (by simp [hq]), rfl⟩
        rw [e] at this
        cases this
      | ok y =>
        have := (ih _ _).1 e
        refine ⟨fun hh => ⟨fun q hq => ?_, ?_⟩, fun hh => ?_⟩
        · rcases List.mem_cons.1 hq with rfl | hq
          · exact h
          · exact this.1 q hq
        · rw [← this.2]
          have : Except.ok (consW (wordP p) y) = Except.ok (ε := Nat) x := hh
          exact (Except.ok.inj this).symm
        · rw [hh.2, ← this.2]
          rfl
    · rw [if_neg h]
      exact ⟨fun hh => (by cases hh), fun hh => absurd (hh.1 p (by simp)) h⟩
def OkL (l : List UInt8) (x : List (List UInt8)) : Prop := okP (splitL 44 l) ∧ x = wordsP (splitL 44 l)
theorem okL_comma {a b : List UInt8} {x y : List (List UInt8)} (ha : OkL a x) (hb : OkL b y) : OkL (a ++ 44 :: b) (x ++ y) := by
  have e : splitL 44 (a ++ 44 :: b) = splitL 44 a ++ splitL 44 b := by
    clear ha hb
    induction a with
    | nil => simp [splitL]
    | cons c r ih =>
      rw [List.cons_append, splitL, splitL]
      by_cases hc : c = 44
      · rw [if_pos hc, if_pos hc, ih]
        rfl
      · rw [if_neg hc, if_neg hc, ih]
        cases e : splitL 44 r with
        | nil => exact absurd e (splitL_ne 44 r)
        | cons p q => rfl
  refine ⟨?_, ?_⟩
  · rw [e]
    intro p hp
    rcases List.mem_append.1 hp with hp | hp
    · exact ha.1 p hp
    · exact hb.1 p hp
  · rw [e, wordsP_append, ← ha.2, ← hb.2]
theorem okL_front {b : List UInt8} {y : List (List UInt8)} (c : UInt8) (hc : blankB c = true) (hb : OkL b y) : OkL (c :: b) y := by
  have hne : c ≠ 44 := by
    rintro rfl
    cases hc
  obtain ⟨p, r, e⟩ : ∃ p r, splitL 44 b = p :: r := by
    cases e : splitL 44 b with
    | nil => exact absurd e (splitL_ne 44 b)
    | cons p r => exact ⟨p, r, rfl⟩
  unfold OkL at *
  rw [splitL, if_neg hne, e]
  rw [e] at hb
  have h1 : restP (c :: p) = restP p := by
    unfold restP
    rw [List.dropWhile_cons, if_pos hc]
  have h2 : wordP (c :: p) = wordP p := by
    unfold wordP
    rw [List.dropWhile_cons, if_pos hc]
  dsimp only
  rw [wordsP, h2]
  refine ⟨fun q hq => ?_, hb.2⟩
  rcases List.mem_cons.1 hq with rfl | hq
  · rw [h1]
    exact hb.1 p (by simp)
  · exact hb.1 q (by simp [hq])
theorem dw_nil (f : UInt8 → Bool) (p : List UInt8) : p.dropWhile f = [] ↔ p.all f = true := by
  induction p with
  | nil => simp
  | cons c r ih =>
    by_cases h : f c = true
    · simp [h, ih]
    · simp [h]
theorem dw_snoc (f : UInt8 → Bool) (p : List UInt8) (c : UInt8) : (p ++ [c]).dropWhile f = if p.dropWhile f = [] then [c].dropWhile f else p.dropWhile f ++ [c] := by
  induction p with
  | nil => simp
  | cons d r ih =>
    by_cases h : f d = true
    · simp only [List.cons_append, List.dropWhile_cons, h, if_true, ih]
    · simp [h]
theorem tw_snoc (f : UInt8 → Bool) (p : List UInt8) (c : UInt8) (hc : f c = false) : (p ++ [c]).takeWhile f = p.takeWhile f := by
  induction p with
  | nil => simp [hc]
  | cons d r ih =>
    by_cases h : f d = true
    · simp [h, ih]
    · simp [h]
theorem part_back (p : List UInt8) (c : UInt8) (hc : blankB c = true) (h : restP p = []) : restP (p ++ [c]) = [] ∧ wordP (p ++ [c]) = wordP p := by
  have ht : tokB c = false := by
    unfold blankB at hc
    rcases Bool.or_eq_true _ _ ▸ hc with h | h
    · rw [eq_of_beq h]; decide
    · rw [eq_of_beq h]; decide
  have h1 : [c].dropWhile blankB = [] := by simp [hc]
  have h2 : [c].dropWhile tokB = [c] := by simp [ht]
  unfold restP wordP at *
  rw [dw_snoc blankB p c]
  by_cases h3 : p.dropWhile blankB = []
  · rw [if_pos h3, h1, h3]
    exact ⟨rfl, rfl⟩
  · rw [if_neg h3, tw_snoc _ _ _ ht, dw_snoc]
    refine ⟨?_, rfl⟩
    by_cases h4 : (p.dropWhile blankB).dropWhile tokB = []
    · rw [if_pos h4, h2, h1]
    · rw [if_neg h4, dw_snoc, if_pos h, h1]
theorem okL_back : ∀ (n : Nat) (a : List UInt8) (x : List (List UInt8)) (c : UInt8), a.length ≤ n → blankB c = true → OkL a x → OkL (a ++ [c]) x
  | n, a, x, c, hn, hc, ha => by
    have hne : c ≠ 44 := by
      rintro rfl
      cases hc
    rcases split_cases a with ⟨h, e⟩ | ⟨p, t, rfl, h, e⟩
    · unfold OkL at *
      rw [e] at ha
      rw [splitL_part 44 (a ++ [c]) (by simp [h, Ne.symm hne])]
      have := part_back a c hc (ha.1 a (by simp))
      refine ⟨fun q hq => ?_, ?_⟩
      · rw [List.mem_singleton.1 hq]
        exact this.1
      · rw [ha.2]
        simp only [wordsP, this.2]
    · cases n with
      | zero => simp at hn
      | succ n =>
        unfold OkL at ha
        rw [e] at ha
        have ht : OkL t (wordsP (splitL 44 t)) := ⟨fun q hq => ha.1 q (by simp [hq]), rfl⟩
        have := okL_back n t _ c (by simp at hn; omega) hc ht
        unfold OkL
        rw [List.append_assoc, List.cons_append, splitL_more 44 p _ h]
        refine ⟨fun q hq => ?_, ?_⟩
        · rcases List.mem_cons.1 hq with rfl | hq
          · exact ha.1 q (by simp)
          · exact this.1 q hq
        · rw [ha.2, wordsP, wordsP, ← this.2]
theorem okL_nil : OkL [] [] := by
  refine ⟨fun p hp => ?_, rfl⟩
  have : p = [] := by simpa [splitL] using hp
  rw [this]
  rfl
/-- Blank, comma, tab between two lists, once or more. -/
def gapsL : Nat → List UInt8
  | 0 => []
  | n + 1 => 32 :: 44 :: 9 :: gapsL n
theorem okL_gaps {b : List UInt8} {y : List (List UInt8)} (hb : OkL b y) : ∀ (n : Nat) (a : List UInt8) (x : List (List UInt8)), OkL a x → OkL (a ++ gapsL (n + 1) ++ b) (x ++ y)
  | 0, a, x, ha => by
    have := okL_comma (okL_back _ a x 32 (Nat.le_refl _) rfl ha) (okL_front 9 rfl hb)
    simpa [gapsL] using this
  | n + 1, a, x, ha => by
    have h0 : OkL [] [] := okL_nil
    have h1 := okL_gaps hb n [9] [] (okL_front 9 rfl h0)
    have := okL_comma (okL_back _ a x 32 (Nat.le_refl _) rfl ha) h1
    simpa [gapsL] using this
/-- Words with a comma and a blank between. -/
def joinC : List (List UInt8) → List UInt8
  | [] => []
  | [w] => w
  | w :: r => w ++ 44 :: 32 :: joinC r
theorem isL_word (w : List UInt8) (h : isL w = true) : w ≠ [] ∧ w.all tokB = true ∧ 44 ∉ w ∧ OkL w [w] := by
  unfold isL at h
  rw [Bool.and_eq_true] at h
  have h1 : w ≠ [] := by
    rintro rfl
    cases h.1
  have h2 : 44 ∉ w := by
    intro hm
    have := List.all_eq_true.1 h.2 44 hm
    cases this
  have hb : w.dropWhile blankB = w := by
    cases w with
    | nil => rfl
    | cons c t =>
      have hc := List.all_eq_true.1 h.2 c (by simp)
      have : blankB c = false := by
        unfold blankB
        rw [Bool.or_eq_false_iff]
        refine ⟨beq_eq_false_iff_ne.2 ?_, beq_eq_false_iff_ne.2 ?_⟩
        · rintro rfl
          cases hc
        · rintro rfl
          cases hc
      rw [List.dropWhile_cons, this]
      rfl
  have hd : w.dropWhile tokB = [] := (dw_nil _ _).2 h.2
  have ht : w.takeWhile tokB = w := by
    have := List.takeWhile_append_dropWhile (p := tokB) (l := w)
    rw [hd, List.append_nil] at this
    exact this
  refine ⟨h1, h.2, h2, ?_⟩
  unfold OkL
  rw [splitL_part 44 w h2]
  refine ⟨fun q hq => ?_, ?_⟩
  · rw [List.mem_singleton.1 hq]
    unfold restP
    rw [hb, hd]
    rfl
  · simp only [wordsP, wordP, hb, ht, consW]
    rw [if_neg h1]
theorem okL_join : ∀ l : List (List UInt8), (∀ w ∈ l, isL w = true) → OkL (joinC l) l
  | [], _ => okL_nil
  | [w], h => (isL_word w (h w (by simp))).2.2.2
  | w :: v :: r, h => by
    have ih := okL_join (v :: r) (fun x hx => h x (by simp [hx]))
    have hw := (isL_word w (h w (by simp))).2.2.2
    exact okL_comma hw (okL_front 32 rfl ih)
theorem words_are (P : List (List UInt8)) : ∀ w ∈ wordsP P, isL w = true := by
  induction P with
  | nil => intro w hw; cases hw
  | cons p r ih =>
    intro w hw
    rw [wordsP, consW] at hw
    split at hw
    · exact ih w hw
    · rename_i hne
      rcases List.mem_cons.1 hw with rfl | hw
      · unfold isL
        rw [Bool.and_eq_true]
        refine ⟨by simpa using hne, ?_⟩
        unfold wordP
        exact List.all_takeWhile
      · exact ih w hw
theorem okL_words {l : List UInt8} {x : List (List UInt8)} (h : OkL l x) : ∀ w ∈ x, isL w = true := by
  rw [h.2]
  exact words_are _
theorem okL_iff (l : List UInt8) (x : List (List UInt8)) : listP 0 (splitL 44 l) = .ok x ↔ OkL l x := listP_ok _ _ _
/-- One digit more; noughts ahead. -/
theorem sec_digit (s : List UInt8) (n : Nat) (c : UInt8) (hc : digB c = true) (h : secL s = some n) : secL (s ++ [c]) = some (min (10 * n + (c.toNat - 48)) 2147483648) := by
  unfold secL at *
  split at h
  · cases h
  · rename_i hn
    cases h
    rw [if_neg, secN_snoc]
    · rfl
    · rintro (h1 | h1)
      · simp at h1
      · apply hn
        right
        rw [List.all_append] at h1
        simpa [hc] using h1
theorem sec_noughts (s : List UInt8) (n k : Nat) (h : secL s = some n) : secL (List.replicate k 48 ++ s) = some n := by
  induction k with
  | zero => exact h
  | succ k ih =>
    rw [List.replicate_succ, List.cons_append]
    unfold secL at *
    split at ih
    · cases ih
    · rename_i hn
      cases ih
      rw [if_neg]
      · rfl
      · rintro (h1 | h1)
        · cases h1
        · apply hn
          right
          rw [List.all_cons] at h1
          simpa [show digB 48 = true by decide] using h1
end Go.Proofs.YtgajhmmildbkfaaGreatDoor

/- A text in small letters by the program, told as a list of bytes. -/
namespace Go.Proofs.YtgajhmmildbkfaaGreatDoor
open Go.RowKit

def low (c : UInt8) : UInt8 := if 65 ≤ c ∧ c ≤ 90 then c + 32 else c
theorem low_in (c : UInt8) (h : 65 ≤ (c.toNat : Int) ∧ (c.toNat : Int) ≤ 90) : UInt8.ofNat ((c.toNat : Int) + 32).toNat = low c := by
  have h1 : 65 ≤ c := by rw [UInt8.le_iff_toNat_le]; have : (65 : UInt8).toNat = 65 := rfl; omega
  have h2 : c ≤ 90 := by rw [UInt8.le_iff_toNat_le]; have : (90 : UInt8).toNat = 90 := rfl; omega
  unfold low
  rw [if_pos ⟨h1, h2⟩]
  apply UInt8.toNat_inj.1
  have := c.toNat_lt
  simp only [UInt8.toNat_ofNat', UInt8.toNat_add]
  have : (32 : UInt8).toNat = 32 := rfl
  omega
theorem low_out (c : UInt8) (h : ¬ (65 ≤ (c.toNat : Int) ∧ (c.toNat : Int) ≤ 90)) : low c = c := by
  unfold low
  rw [if_neg]
  rintro ⟨h1, h2⟩
  rw [UInt8.le_iff_toNat_le] at h1 h2
  have : (65 : UInt8).toNat = 65 := rfl
  have : (90 : UInt8).toNat = 90 := rfl
  omega
theorem step_set (f : UInt8 → UInt8) (l : List UInt8) (k : Nat) (c : UInt8) (h : k < l.length) (hc : l[k] = c) : ((l.take k).map f ++ l.drop k).set k (f c) = (l.take (k + 1)).map f ++ l.drop (k + 1) := by
  subst hc
  have e1 : ((l.take k).map f).length = k := by simp; omega
  rw [List.drop_eq_getElem_cons h, List.set_append_right _ _ (by omega), e1, Nat.sub_self, List.set_cons_zero, List.take_succ_eq_append_getElem h, List.map_append, List.append_assoc]
  rfl
theorem step_at (f : UInt8 → UInt8) (l : List UInt8) (k : Nat) (h : k < l.length) (h2 : k < ((l.take k).map f ++ l.drop k).length) : ((l.take k).map f ++ l.drop k)[k] = l[k] := by
  have e1 : ((l.take k).map f).length = k := by simp; omega
  rw [List.getElem_append_right (by omega)]
  simp only [List.getElem_drop, e1, Nat.sub_self, Nat.add_zero]
theorem step_same (f : UInt8 → UInt8) (l : List UInt8) (k : Nat) (c : UInt8) (h : k < l.length) (hc : l[k] = c) (hf : f c = c) : (l.take k).map f ++ l.drop k = (l.take (k + 1)).map f ++ l.drop (k + 1) := by
  subst hc
  rw [List.drop_eq_getElem_cons h, List.take_succ_eq_append_getElem h, List.map_append, List.append_assoc, List.map_cons, hf]
  rfl
theorem low_num (c : UInt8) (h : 65 ≤ (c.toNat : Int) ∧ (c.toNat : Int) ≤ 90) : (c.toNat : Int) + 32 = (low c).toNat := by
  rw [← low_in c h, ofNat_back _ (by omega) (by omega)]

set_option maxHeartbeats 400000 in
theorem lower_any (s : ByteArray) (w : World) (hs : s.size ≤ 20000) :
    Calls Tryz.prog 48 #[.string s] w fun e w' => e = .returned (.string (bs (s.data.toList.map low))) ∧ Below w.heap.size w w' := by
  obtain ⟨cap, W1, hconv, hrow, hbel, hsz⟩ := conv_bytes s w
  have HR : Hid (Row W1 w.heap.size s.data.toList) := hrow
  clear hrow
  go_enter Tryz.func48, Tryz.ntmps48
  go_wp2
  go_loopw [9] (fun i wr => ∃ (k : Nat), k ≤ s.size ∧ i = .int .i64 k ∧ Hid (Row wr w.heap.size ((s.data.toList.take k).map low ++ s.data.toList.drop k)) ∧ Below w.heap.size w wr ∧ wr.heap.size = w.heap.size + 1) (fun i _ => s.size - (intOf i).toNat)
  case atStart => exact ⟨0, Nat.zero_le _, rfl, HR, hbel, hsz⟩
  case round =>
    obtain ⟨k, hk, rfl, HW, hb, hz⟩ := hrel
    by_cases hlt : k < s.size
    · have hlt' : k < s.data.toList.length := by simpa using hlt
      obtain ⟨c, hcd⟩ : ∃ c : UInt8, s.data.toList[k] = c := ⟨_, rfl⟩
      have HC : Hid (s.data.toList[k] = c) := hcd
      have hcl : (c.toNat : Int) < 256 := by have := c.toNat_lt; omega
      have hlen : k < ((s.data.toList.take k).map low ++ s.data.toList.drop k).length := by simp; omega
      have hcell : wr.cell? ⟨w.heap.size, k, none⟩ = some (.int .u8 c.toNat) := by
        rw [← hcd, ← step_at low s.data.toList k hlt' hlen]; exact (HW.out k hlen).1
      have hfro : wr.frozen? ⟨w.heap.size, k, none⟩ = false := (HW.out k hlen).2
      clear hconv HR hbel hsz hcd hlen
      by_cases h1 : 65 ≤ (c.toNat : Int)
      · by_cases h2 : (c.toNat : Int) ≤ 90
        · go_wp2
          go_roundw
          case rel => exact ⟨k + 1, by omega, by go_num, by rw [← step_set low _ k c hlt' HC.out]; exact HW.out.set k _ _ (low_num c ⟨h1, h2⟩), hb.setCell (Nat.le_refl _) _, by simp [World.setCell, hz]⟩
          case measure => simp [intOf]; omega
        · go_wp2
          go_roundw
          case rel => exact ⟨k + 1, by omega, by go_num, by rw [← step_same low _ k c hlt' HC.out (low_out c (by omega))]; exact HW, hb, hz⟩
          case measure => simp [intOf]; omega
      · go_wp2
        go_roundw
        case rel => exact ⟨k + 1, by omega, by go_num, by rw [← step_same low _ k c hlt' HC.out (low_out c (by omega))]; exact HW, hb, hz⟩
        case measure => simp [intOf]; omega
    · have hke : k = s.size := by omega
      have hend : (s.data.toList.take k).map low ++ s.data.toList.drop k = s.data.toList.map low := by
        rw [List.take_of_length_le (by simp; omega), List.drop_of_length_le (by simp; omega), List.append_nil]
      have hrow : Row wr w.heap.size (s.data.toList.map low) := by rw [← hend]; exact HW.out
      have hback := conv_back hrow s.size cap (by simp)
      clear hend hrow HW hke hconv HR hbel hsz
      go_wp2
      go_ret
      exact ⟨rfl, hb⟩
end Go.Proofs.YtgajhmmildbkfaaGreatDoor

/- Whether two texts are alike, by the program. -/
namespace Go.Proofs.YtgajhmmildbkfaaGreatDoor
open Go.RowKit

def sameL (a b : List UInt8) : Bool := a.map low == b.map low
theorem eq_bs (a b : List UInt8) : ((bs a).toList == (bs b).toList) = (a == b) := by rw [ByteArray.toList_eq, ByteArray.toList_eq, bs_data, bs_data]
set_option maxHeartbeats 1000000 in
theorem same_any (s t : ByteArray) (hs : s.size ≤ 4000) (ht : t.size ≤ 4000) (w : World) :
    Calls Tryz.prog 23 #[.string s, .string t] w fun e w' => e = .returned (.bool (sameL s.data.toList t.data.toList)) ∧ Below w.heap.size w w' := by
  obtain ⟨x, HX⟩ : ∃ x : ByteArray, Hid (bs (s.data.toList.map low) = x) := ⟨_, rfl⟩
  obtain ⟨y, HY⟩ : ∃ y : ByteArray, Hid (bs (t.data.toList.map low) = y) := ⟨_, rfl⟩
  have HS : Hid (sameL s.data.toList t.data.toList = (x.toList == y.toList)) := by show _ = _; rw [← HX.out, ← HY.out, eq_bs]; rfl
  go_enter Tryz.func23, Tryz.ntmps23
  go_wp2_with fail
  refine (lower_any s _ (by omega)).mono ?_
  rintro e w1 ⟨rfl, hb1⟩
  rw [HX.out]
  go_wp2_with fail
  refine (lower_any t _ (by omega)).mono ?_
  rintro e w2 ⟨rfl, hb2⟩
  rw [HY.out]
  go_wp2
  go_ret
  exact ⟨ret_bool HS.out.symm, hb1.trans (hb2.mono hb1.size)⟩
end Go.Proofs.YtgajhmmildbkfaaGreatDoor

/- What a challenge is. -/
namespace Go.Proofs.YtgajhmmildbkfaaGreatDoor

abbrev Par := ByteArray × ByteArray
structure Chal where
  scheme : ByteArray
  token : ByteArray
  params : List Par
end Go.Proofs.YtgajhmmildbkfaaGreatDoor

/- Challenges as the document says them, over lists of bytes. -/
namespace Go.Proofs.YtgajhmmildbkfaaGreatDoor

def gapB (c : UInt8) : Bool := blankB c || c == 44
def eqB (c : UInt8) : Bool := c == 61
/-- A byte of a Token. -/
def tkB (c : UInt8) : Bool := decide (97 ≤ c.toNat ∧ c.toNat ≤ 122) || decide (65 ≤ c.toNat ∧ c.toNat ≤ 90) || decide (48 ≤ c.toNat ∧ c.toNat ≤ 57) || ([45, 46, 95, 126, 43, 47] : List UInt8).contains c
/-- The end or a comma stands there. -/
def stopsL : List UInt8 → Bool
  | [] => true
  | c :: _ => c == 44
/-- The Token there, and what stands behind it and its blanks. -/
def tokenL (r : List UInt8) : Option (ByteArray × List UInt8) :=
  if (r.dropWhile tkB).length < r.length ∧ stopsL (((r.dropWhile tkB).dropWhile eqB).dropWhile blankB) = true then
    some (bs (r.take (r.length - ((r.dropWhile tkB).dropWhile eqB).length)), ((r.dropWhile tkB).dropWhile eqB).dropWhile blankB)
  else none
/-- Behind = . -/
def markL : List UInt8 → Option (List UInt8)
  | [] => none
  | c :: t => if c = 61 then some t else none
/-- A name and = , and what stands behind. -/
def nameL (r : List UInt8) : Option (ByteArray × List UInt8) :=
  if r.takeWhile tokB = [] then none else (markL ((r.dropWhile tokB).dropWhile blankB)).map fun t => (bs (r.takeWhile tokB), t)
/-- Where what is missing of a name should stand. -/
def nameE (r : List UInt8) : List UInt8 := if r.takeWhile tokB = [] then r else (r.dropWhile tokB).dropWhile blankB
def valueL (r : List UInt8) : Option (ByteArray × List UInt8) :=
  if r.takeWhile tokB = [] then (quotedL r).map fun x => (bs x.1, r.drop x.2) else some (bs (r.takeWhile tokB), r.dropWhile tokB)
def toldL (acc : List Par) (n : ByteArray) : Bool := acc.any fun p => sameL p.1.data.toList n.data.toList
/-- A parameter and what stands behind it, or an error and how many bytes are left where it stands. -/
def paramL (acc : List Par) (r : List UInt8) : Except (Nat × Nat) (Par × List UInt8) :=
  match nameL r with
  | none => .error (3, (nameE r).length)
  | some (n, t) => match valueL (t.dropWhile blankB) with
    | none => .error (3, (t.dropWhile blankB).length)
    | some (v, u) => if toldL acc n then .error (9, r.length) else if 16 ≤ acc.length then .error (4, r.length) else .ok ((n, v), u)
def paramsL : Nat → List Par → List UInt8 → Except (Nat × Nat) (List Par × List UInt8)
  | 0, _, r => .error (3, r.length)
  | f + 1, acc, r => match paramL acc r with
    | .error e => .error e
    | .ok (p, u) =>
      if stopsL (u.dropWhile blankB) then
        if (nameL ((u.dropWhile blankB).dropWhile gapB)).isSome then paramsL f (acc ++ [p]) ((u.dropWhile blankB).dropWhile gapB)
        else .ok (acc ++ [p], (u.dropWhile blankB).dropWhile gapB)
      else .error (3, (u.dropWhile blankB).length)
/-- What stands behind a scheme and its blanks. -/
def insideL (w : ByteArray) (r : List UInt8) : Except (Nat × Nat) (Chal × List UInt8) :=
  match tokenL r with
  | some (t, u) => .ok (⟨w, t, []⟩, u)
  | none => (paramsL (r.length + 1) [] r).map fun x => (⟨w, ⟨#[]⟩, x.1⟩, x.2)
def chalL (ahead : Nat) (r : List UInt8) : Except (Nat × Nat) (Chal × List UInt8) :=
  if r.takeWhile tokB = [] then .error (3, r.length)
  else if 8 ≤ ahead then .error (4, r.length)
  else if stopsL ((r.dropWhile tokB).dropWhile blankB) then .ok (⟨bs (r.takeWhile tokB), ⟨#[]⟩, []⟩, (r.dropWhile tokB).dropWhile blankB)
  else if runL blankB (r.dropWhile tokB) = 0 then .error (3, ((r.dropWhile tokB).dropWhile blankB).length)
  else insideL (bs (r.takeWhile tokB)) ((r.dropWhile tokB).dropWhile blankB)
def parseL : Nat → List Chal → List UInt8 → Except (Nat × Nat) (List Chal)
  | 0, _, r => .error (3, r.length)
  | f + 1, acc, r =>
    if r.dropWhile gapB = [] then .ok acc
    else match chalL acc.length (r.dropWhile gapB) with
      | .error e => .error e
      | .ok (x, u) => parseL f (acc ++ [x]) u
/-- A header's challenges (of at most MaxText bytes). -/
def askL (s : List UInt8) : Except (Nat × Nat) (List Chal) := parseL (s.length + 1) [] s

theorem dw_len (f : UInt8 → Bool) (l : List UInt8) : (l.dropWhile f).length ≤ l.length := (List.dropWhile_sublist f).length_le
theorem dw_tw (f : UInt8 → Bool) (l : List UInt8) : (l.dropWhile f).length + (l.takeWhile f).length = l.length := by
  conv => rhs; rw [← List.takeWhile_append_dropWhile (p := f) (l := l), List.length_append]
  omega
theorem dw_lt (f : UInt8 → Bool) (l : List UInt8) (h : l.takeWhile f ≠ []) : (l.dropWhile f).length < l.length := by
  have := dw_tw f l
  have : 0 < (l.takeWhile f).length := List.length_pos_iff.2 h
  omega
theorem markL_len (l t : List UInt8) (h : markL l = some t) : t.length < l.length := by
  cases l with
  | nil => cases h
  | cons c r =>
    rw [markL] at h
    by_cases hc : c = 61
    · rw [if_pos hc] at h
      cases h
      simp
    · rw [if_neg hc] at h
      cases h
theorem nameL_len (r t : List UInt8) (n : ByteArray) (h : nameL r = some (n, t)) : t.length + 2 ≤ r.length := by
  unfold nameL at h
  split at h
  · cases h
  · rename_i h0
    rcases hm : markL ((r.dropWhile tokB).dropWhile blankB) with _ | u
    · rw [hm] at h; cases h
    · rw [hm] at h
      cases h
      have := markL_len _ _ hm
      have := dw_len blankB (r.dropWhile tokB)
      have := dw_lt tokB r h0
      omega
theorem valueL_len (r u : List UInt8) (v : ByteArray) (h : valueL r = some (v, u)) : u.length < r.length := by
  unfold valueL at h
  split at h
  · rcases hq : quotedL r with _ | ⟨t, n⟩
    · rw [hq] at h; cases h
    · rw [hq] at h
      cases h
      have := quoted_size r t n hq
      simp
      omega
  · rename_i h0
    cases h
    exact dw_lt tokB r h0
theorem paramL_len (acc : List Par) (r u : List UInt8) (p : Par) (h : paramL acc r = .ok (p, u)) : u.length + 3 ≤ r.length := by
  unfold paramL at h
  rcases hn : nameL r with _ | ⟨n, t⟩
  · rw [hn] at h; cases h
  · rw [hn] at h
    rcases hv : valueL (t.dropWhile blankB) with _ | ⟨v, u'⟩
    · simp only [hv] at h; cases h
    · simp only [hv] at h
      split at h
      · cases h
      · split at h
        · cases h
        · cases h
          have := nameL_len _ _ _ hn
          have := valueL_len _ _ _ hv
          have := dw_len blankB t
          omega
theorem paramsL_len : ∀ (f : Nat) (acc : List Par) (r : List UInt8) (ps : List Par) (u : List UInt8), paramsL f acc r = .ok (ps, u) → u.length + 3 ≤ r.length
  | 0, acc, r, ps, u, h => by cases h
  | f + 1, acc, r, ps, u, h => by
    unfold paramsL at h
    rcases hp : paramL acc r with e | ⟨p, v⟩
    · rw [hp] at h; cases h
    · rw [hp] at h
      have h1 := paramL_len _ _ _ _ hp
      have h2 := dw_len blankB v
      have h3 := dw_len gapB (v.dropWhile blankB)
      simp only at h
      split at h
      · split at h
        · have := paramsL_len f _ _ _ _ h
          omega
        · cases h
          omega
      · cases h
theorem tokenL_len (r u : List UInt8) (t : ByteArray) (h : tokenL r = some (t, u)) : u.length < r.length := by
  unfold tokenL at h
  split at h
  · rename_i h0
    cases h
    have h1 := dw_len eqB (r.dropWhile tkB)
    have h2 := dw_len blankB ((r.dropWhile tkB).dropWhile eqB)
    omega
  · cases h
theorem chalL_len (a : Nat) (r u : List UInt8) (x : Chal) (h : chalL a r = .ok (x, u)) : u.length < r.length := by
  unfold chalL at h
  split at h
  · cases h
  · rename_i h0
    have h1 := dw_lt tokB r h0
    have h2 := dw_len blankB (r.dropWhile tokB)
    split at h
    · cases h
    · split at h
      · cases h; omega
      · split at h
        · cases h
        · unfold insideL at h
          rcases ht : tokenL ((r.dropWhile tokB).dropWhile blankB) with _ | ⟨t, v⟩
          · rw [ht] at h
            simp only at h
            rcases hp : paramsL (((r.dropWhile tokB).dropWhile blankB).length + 1) [] ((r.dropWhile tokB).dropWhile blankB) with e | ⟨ps, v⟩
            · rw [hp] at h; cases h
            · rw [hp] at h
              cases h
              have := paramsL_len _ _ _ _ _ hp
              show v.length < _
              omega
          · rw [ht] at h
            cases h
            have := tokenL_len _ _ _ ht
            omega
end Go.Proofs.YtgajhmmildbkfaaGreatDoor

/- Rows of parameters that lie somewhere. -/
namespace Go.Proofs.YtgajhmmildbkfaaGreatDoor
open Go.RowKit

/-- A row of parameters that lies somewhere. -/
structure Pars (w : World) (a0 : Option Addr) (len b off : Nat) (ps : List Par) : Prop where
  len_eq : ps.length = len
  lies : 0 < len → a0 = some ⟨b, off, none⟩ ∧ b < w.heap.size
  one : ∀ (j : Nat) (p : Par), ps[j]? = some p → w.cell? ⟨b, off + j * 2, none⟩ = some (.string p.1)
  two : ∀ (j : Nat) (p : Par), ps[j]? = some p → w.cell? ⟨b, off + j * 2 + 1, none⟩ = some (.string p.2)
theorem Pars.grown {w w' : World} {a0 : Option Addr} {len b off : Nat} {ps : List Par} {row : Option Nat} (h : Pars w a0 len b off ps) (hg : w.grownBy w' row) (hr : 0 < len → some b ≠ row) : Pars w' a0 len b off ps := by
  have hpos : ∀ (j : Nat) (p : Par), ps[j]? = some p → 0 < len := fun j p hp => by
    have := (List.getElem?_eq_some_iff.1 hp).1
    have := h.len_eq
    omega
  exact ⟨h.len_eq, fun h0 => ⟨(h.lies h0).1, Nat.lt_of_lt_of_le (h.lies h0).2 hg.size⟩, fun j p hp => hg.cell (h.one j p hp) (hr (hpos j p hp)), fun j p hp => hg.cell (h.two j p hp) (hr (hpos j p hp))⟩
theorem Pars.below {w w' : World} {a0 : Option Addr} {len b off : Nat} {ps : List Par} (h : Pars w a0 len b off ps) (hb : Below w.heap.size w w') : Pars w' a0 len b off ps :=
  h.grown (row := none) ⟨hb.os, hb.tape, hb.output, hb.size, fun i hi _ => hb.block i hi⟩ (fun _ => by simp)
theorem Pars.belowB {w w' : World} {a0 : Option Addr} {len b off : Nat} {ps : List Par} {B : Nat} (h : Pars w a0 len b off ps) (hb : Below B w w') (hB : 0 < len → b < B) : Pars w' a0 len b off ps := by
  have hpos : ∀ (j : Nat) (p : Par), ps[j]? = some p → b < B := fun j p hp => by
    have := (List.getElem?_eq_some_iff.1 hp).1
    have := h.len_eq
    exact hB (by omega)
  exact ⟨h.len_eq, fun h0 => ⟨(h.lies h0).1, Nat.lt_of_lt_of_le (h.lies h0).2 hb.size⟩, fun j p hp => (hb.cell (p := ⟨b, off + j * 2, none⟩) (hpos j p hp)).trans (h.one j p hp), fun j p hp => (hb.cell (p := ⟨b, off + j * 2 + 1, none⟩) (hpos j p hp)).trans (h.two j p hp)⟩
end Go.Proofs.YtgajhmmildbkfaaGreatDoor

/- A challenge, and a row of challenges, that lie somewhere. -/
namespace Go.Proofs.YtgajhmmildbkfaaGreatDoor
open Go.RowKit

/-- A challenge, and where its parameters lie. -/
structure ChV where
  x : Chal
  a : Option Addr
  cap : Nat
  b : Nat
  off : Nat
def ChV.len (c : ChV) : Nat := c.x.params.length
/-- Its parameters lie there. -/
def ChOk (w : World) (c : ChV) : Prop := Pars w c.a c.len c.b c.off c.x.params
/-- A row of challenges that lies somewhere. -/
structure Chals (w : World) (a0 : Option Addr) (len b off : Nat) (cs : List ChV) : Prop where
  len_eq : cs.length = len
  lies : 0 < len → a0 = some ⟨b, off, none⟩ ∧ b < w.heap.size
  one : ∀ (j : Nat) (c : ChV), cs[j]? = some c → w.cell? ⟨b, off + j * 3, none⟩ = some (.string c.x.scheme)
  two : ∀ (j : Nat) (c : ChV), cs[j]? = some c → w.cell? ⟨b, off + j * 3 + 1, none⟩ = some (.string c.x.token)
  three : ∀ (j : Nat) (c : ChV), cs[j]? = some c → w.cell? ⟨b, off + j * 3 + 2, none⟩ = some (.slice c.a c.len c.cap)
  pars : ∀ c ∈ cs, ChOk w c
theorem ChOk.below {w w' : World} {c : ChV} (h : ChOk w c) (hb : Below w.heap.size w w') : ChOk w' c := Pars.below h hb
theorem Chals.below {w w' : World} {a0 : Option Addr} {len b off : Nat} {cs : List ChV} (h : Chals w a0 len b off cs) (hb : Below w.heap.size w w') : Chals w' a0 len b off cs := by
  have hl : ∀ (j : Nat) (c : ChV), cs[j]? = some c → b < w.heap.size := fun j c hc => by
    have := (List.getElem?_eq_some_iff.1 hc).1
    have := h.len_eq
    exact (h.lies (by omega)).2
  exact ⟨h.len_eq, fun h0 => ⟨(h.lies h0).1, Nat.lt_of_lt_of_le (h.lies h0).2 hb.size⟩,
    fun j c hc => (hb.cell (p := ⟨b, off + j * 3, none⟩) (hl j c hc)).trans (h.one j c hc),
    fun j c hc => (hb.cell (p := ⟨b, off + j * 3 + 1, none⟩) (hl j c hc)).trans (h.two j c hc),
    fun j c hc => (hb.cell (p := ⟨b, off + j * 3 + 2, none⟩) (hl j c hc)).trans (h.three j c hc),
    fun c hc => (h.pars c hc).below hb⟩
def xsOf (cs : List ChV) : List Chal := cs.map (·.x)
theorem xsOf_at {cs : List ChV} {k : Nat} {c : ChV} (h : cs[k]? = some c) : (xsOf cs)[k]? = some c.x := by unfold xsOf; rw [List.getElem?_map, h]; rfl
end Go.Proofs.YtgajhmmildbkfaaGreatDoor

/- How heavy challenges are. -/
namespace Go.Proofs.YtgajhmmildbkfaaGreatDoor
open Go.RowKit

def parW : List Par → Nat
  | [] => 0
  | p :: r => p.1.size + p.2.size + parW r
theorem parW_app (a b : List Par) : parW (a ++ b) = parW a + parW b := by
  induction a with
  | nil => simp [parW]
  | cons p r ih => rw [List.cons_append, parW, parW, ih]; omega
theorem parW_snoc (ps : List Par) (k : Nat) (p : Par) (h : ps[k]? = some p) : parW (ps.take (k + 1)) = parW (ps.take k) + (p.1.size + p.2.size) := by
  obtain ⟨hk, e⟩ := List.getElem?_eq_some_iff.1 h
  rw [List.take_succ_eq_append_getElem hk, parW_app, e]
  simp [parW]
theorem parW_le (ps : List Par) (m : Nat) (h : ∀ p ∈ ps, p.1.size ≤ m ∧ p.2.size ≤ m) : parW ps ≤ ps.length * (2 * m) := by
  induction ps with
  | nil => simp [parW]
  | cons p r ih =>
    have h1 := h p (by simp)
    have h2 := ih (fun q hq => h q (by simp [hq]))
    rw [parW, List.length_cons, Nat.succ_mul]
    omega
theorem parW_mem (ps : List Par) (p : Par) (h : p ∈ ps) : p.1.size + p.2.size ≤ parW ps := by
  induction ps with
  | nil => cases h
  | cons q r ih =>
    rw [parW]
    rcases List.mem_cons.1 h with rfl | h'
    · omega
    · have := ih h'
      omega
def chW (c : Chal) : Nat := c.scheme.size + c.token.size + parW c.params
def lightB (c : Chal) : Bool := decide (c.params.length ≤ 20) && decide (chW c ≤ 600)
def lightL (cs : List ChV) : Bool := decide (cs.length ≤ 10) && cs.all (fun c => lightB c.x)
/-- Texts that a machine can hold. -/
def Held (c : Chal) : Prop := c.scheme.size ≤ 140737488355328 ∧ c.token.size ≤ 140737488355328 ∧ ∀ p ∈ c.params, p.1.size ≤ 140737488355328 ∧ p.2.size ≤ 140737488355328
/-- Its row is no longer than its room. -/
def Room (c : ChV) : Prop := c.len ≤ c.cap ∧ c.cap ≤ 9223372036854775807 ∧ c.len ≤ 9223372036854775807
theorem light_few {c : Chal} (h : lightB c = true) : c.params.length ≤ 20 ∧ c.scheme.size ≤ 600 ∧ c.token.size ≤ 600 ∧ ∀ p ∈ c.params, p.1.size ≤ 600 ∧ p.2.size ≤ 600 := by
  unfold lightB at h
  simp only [Bool.and_eq_true, decide_eq_true_eq] at h
  have h2 := h.2
  unfold chW at h2
  refine ⟨h.1, by omega, by omega, fun p hp => ?_⟩
  have := parW_mem _ _ hp
  omega
theorem all_step {cs : List ChV} {k : Nat} {c : ChV} (h : (cs.take k).all (fun c => lightB c.x) = true) (hc : cs[k]? = some c) (hl : lightB c.x = true) : (cs.take (k + 1)).all (fun c => lightB c.x) = true := by
  obtain ⟨hk, e⟩ := List.getElem?_eq_some_iff.1 hc
  rw [List.take_succ_eq_append_getElem hk, List.all_append, h, e]
  simp [hl]
theorem light_no {cs : List ChV} {c : ChV} (hc : c ∈ cs) (hl : lightB c.x = false) : lightL cs = false := by
  unfold lightL
  have : cs.all (fun c => lightB c.x) = false := by
    rw [List.all_eq_false]
    exact ⟨c, hc, by simp [hl]⟩
  rw [this, Bool.and_false]
end Go.Proofs.YtgajhmmildbkfaaGreatDoor
