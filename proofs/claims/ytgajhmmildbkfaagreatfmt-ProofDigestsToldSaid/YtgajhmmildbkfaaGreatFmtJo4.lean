/- Texts of one claim, joined: each begins with what it proves. -/
import Derived.Test.YtgajhmmildbkfaaGreatFmtJo3
import Derived.Test.YtgajhmmildbkfaaGreatFmtJo2
import Derived.Test.YtgajhmmildbkfaaGreatFmtJo1
import Derived.Deep.RegionHeld3
import Derived.Deep.QuietTactic
import Derived.BigQuiet
import Derived.Laws.EntriesVeiled
import Derived.ProofKit
import Derived.OpenShut
import Derived.Carry
import Derived.SizedLaws
import Derived.Deep.Slices
import Derived.Deep.Strs
import Derived.Lib.SmallJoins
import Derived.Deep.Draws
import Derived.Deep.LoopGhost
import Derived.Maps.Own
import Derived.Maps.Keyed
import Derived.Maps.StringElems
/- A parameter more, of a header that proves a request: both closures of proof.Digest. -/
namespace Go.Proofs.YtgajhmmildbkfaaGreatFmt
open Go.RowKit
set_option linter.unusedVariables false

/-- Where the parameters lie, and what was wrong. -/
structure DgW (w : World) (B : Nat) (xs : List ByteArray) (bad : Bool) : Prop where
  wr : w.heap[B + 1]? = some (.cells #[errOf (if bad then some 3 else none)] 32 (0, 0))
  add : w.heap[B + 2]? = some (.cells #[.func (.func 13) #[] #[.pointer (some ⟨B, 0, none⟩)]] 46 (0, 0))
  row : ∃ v, w.heap[B]? = some (.cells #[v] 22 (0, 0)) ∧ OwnS w (B + 3) v xs
theorem DgW.lt {w : World} {B : Nat} {xs : List ByteArray} {bad : Bool} (h : DgW w B xs bad) : B + 2 < w.heap.size := (Array.getElem?_eq_some_iff.1 h.add).1
theorem DgW.below {w w' : World} {B : Nat} {xs : List ByteArray} {bad : Bool} (h : DgW w B xs bad) (hb : Below w.heap.size w w') : DgW w' B xs bad := by
  obtain ⟨v, h1, h2⟩ := h.row
  exact ⟨(hb.block _ (Array.getElem?_eq_some_iff.1 h.wr).1).trans h.wr, (hb.block _ (Array.getElem?_eq_some_iff.1 h.add).1).trans h.add, v, (hb.block _ (Array.getElem?_eq_some_iff.1 h1).1).trans h1, h2.below hb⟩
theorem DgW.setWrong {w : World} {B : Nat} {xs : List ByteArray} {bad : Bool} (h : DgW w B xs bad) : DgW (w.setCell ⟨B + 1, 0, none⟩ (errOf (some 3))) B xs true := by
  obtain ⟨v, h1, h2⟩ := h.row
  have hg : w.grownBy (w.setCell ⟨B + 1, 0, none⟩ (errOf (some 3))) (some (B + 1)) := grown_setCells w (B + 1) 0 [errOf (some 3)]
  have hlt := h.lt
  refine ⟨?_, ?_, v, ?_, h2.grown hg (by omega)⟩
  · have := heap_setCell_same w (B + 1) 0 _ _ (errOf (some 3)) h.wr
    simpa using this
  · rw [hg.block _ hlt (by intro e; injection e with e; omega)]
    exact h.add
  · rw [hg.block _ (by omega) (by intro e; injection e with e; omega)]
    exact h1
theorem DgW.setRow {w : World} {B : Nat} {bad : Bool} {v v' : Value} {xs' : List ByteArray} (hw : w.heap[B + 1]? = some (.cells #[errOf (if bad then some 3 else none)] 32 (0, 0))) (ha : w.heap[B + 2]? = some (.cells #[.func (.func 13) #[] #[.pointer (some ⟨B, 0, none⟩)]] 46 (0, 0))) (hp : w.heap[B]? = some (.cells #[v] 22 (0, 0))) (ho : OwnS w (B + 3) v' xs') :
    DgW (w.setCell ⟨B, 0, none⟩ v') B xs' bad := by
  have hg : w.grownBy (w.setCell ⟨B, 0, none⟩ v') (some B) := grown_setCells w B 0 [v']
  have hlt := (Array.getElem?_eq_some_iff.1 ha).1
  refine ⟨?_, ?_, v', ?_, ho.grown hg (by omega)⟩
  · rw [hg.block _ (by omega) (by intro e; injection e with e; omega)]
    exact hw
  · rw [hg.block _ hlt (by intro e; injection e with e; omega)]
    exact ha
  · have := heap_setCell_same w B 0 _ _ v' hp
    simpa using this
def okT (s : ByteArray) : Bool := s.data.toList.all textB
def qT (s : ByteArray) : ByteArray := if okT s then bs (quoteL s.data.toList) else ⟨#[]⟩
def eqT (n t : ByteArray) : ByteArray := n ++ ⟨#[61]⟩ ++ t
set_option maxRecDepth 100000 in
set_option maxHeartbeats 2000000 in
theorem add_any {B : Nat} {xs : List ByteArray} {bad : Bool} (name text : ByteArray) (hnz : name.size ≤ 3000) (htz : text.size ≤ 10000) (hl : xs.length ≤ 1000) (w : World) (h : DgW w B xs bad) :
    Calls Tryz.prog 13 #[.string name, .string text, .pointer (some ⟨B, 0, none⟩)] w fun e w' => e = .returned (.tuple #[]) ∧ DgW w' B (xs ++ [eqT name text]) bad ∧ Below B w w' := by
  have hlt := h.lt
  have HD : Hid (DgW w B xs bad) := h
  obtain ⟨v, hp, hown⟩ := h.row
  clear h
  obtain ⟨n, hn⟩ : ∃ n, xs.length = n := ⟨_, rfl⟩
  have hc : w.cell? ⟨B, 0, none⟩ = some v := cell_of hp
  have HP : Hid (w.heap[B]? = some (.cells #[v] 22 (0, 0)) ∧ OwnS w (B + 3) v xs) := ⟨hp, hown⟩
  clear hp hown
  go_enter Tryz.func13, Tryz.ntmps13
  go_wp2_with (at_builtin; refine wp_apps rfl _ _ rfl (B + 3) w v xs n rfl HP.out.2 hn (by omega) (by omega) (eqT name text) rfl ?_; intro g cap w4 hown hg hl4; have hA : Below w.heap.size w (w.alloc (.cells #[.string (eqT name text)] 9)) := (Below.refl w.heap.size w).alloc (Nat.le_refl _) _; have hob : ∀ k, k < B + 3 → some k ≠ v.ownBlock := fun k hk e => (by have := (HP.out.2.lt k e.symm).1; omega); have hk4 : ∀ k, k < B + 3 → w4.heap[k]? = w.heap[k]? := fun k hk => (by rw [hg.block k (by simp; omega) (hob k hk), hA.block k (by omega)]); have hp4 : w4.heap[B]? = some (.cells #[v] 22 (0, 0)) := (hk4 B (by omega)).trans HP.out.1; have H4 : Hid (OwnS w4 (B + 3) (.slice (some ⟨g, 0, none⟩) (n + 1) cap) (xs ++ [eqT name text]) ∧ w4.heap[B]? = some (.cells #[v] 22 (0, 0)) ∧ w4.heap[B + 1]? = some (.cells #[errOf (if bad then some 3 else none)] 32 (0, 0)) ∧ w4.heap[B + 2]? = some (.cells #[.func (.func 13) #[] #[.pointer (some ⟨B, 0, none⟩)]] 46 (0, 0)) ∧ Below B w w4) := ⟨hown, hp4, (hk4 _ (by omega)).trans HD.out.wr, (hk4 _ (by omega)).trans HD.out.add, (hA.mono (by omega)).grown hg (by simp; omega) (fun i hi => by have := (HP.out.2.lt i hi).1; omega)⟩; have hc4 : w4.cell? ⟨B, 0, none⟩ = some v := cell_of hp4; have hf4 := free_of hp4; clear hown hg hl4 hA hob hk4 hp4)
  have HF : Hid (DgW (w4.setCell ⟨B, 0, none⟩ (.slice (some ⟨g, 0, none⟩) (n + 1) cap)) B (xs ++ [eqT name text]) bad ∧ Below B w (w4.setCell ⟨B, 0, none⟩ (.slice (some ⟨g, 0, none⟩) (n + 1) cap))) := ⟨DgW.setRow H4.out.2.2.1 H4.out.2.2.2.1 H4.out.2.1 H4.out.1, H4.out.2.2.2.2.setCell (Nat.le_refl _) _⟩
  go_wp2
  go_end0
  exact ⟨rfl, HF.out.1, HF.out.2⟩
set_option maxRecDepth 100000 in
set_option maxHeartbeats 2000000 in
theorem quote_any {B : Nat} {xs : List ByteArray} {bad : Bool} (name text : ByteArray) (hnz : name.size ≤ 3000) (ht : text.size ≤ 3000) (hl : xs.length ≤ 1000) (w : World) (h : DgW w B xs bad) :
    Calls Tryz.prog 14 #[.string name, .string text, .pointer (some ⟨B + 1, 0, none⟩), .pointer (some ⟨B + 2, 0, none⟩)] w fun e w' => e = .returned (.tuple #[]) ∧ DgW w' B (xs ++ [eqT name (qT text)]) (bad || !okT text) ∧ Below B w w' := by
  have hlt := h.lt
  have HD : Hid (DgW w B xs bad) := h
  clear h
  have hen := enters_at Tryz.func13 (by kernel_rfl) rfl
  cases hok : okT text
  · have hq : quoteO text.data.toList = none := by unfold quoteO; rw [if_neg]; intro h; have : okT text = true := h; rw [hok] at this; cases this
    have hqt : qT text = ⟨#[]⟩ := by unfold qT; rw [if_neg]; rw [hok]; decide
    have hw1 := cell_of (i := 0) HD.out.wr
    have hf1 := free_of HD.out.wr
    simp only [List.getElem?_toArray, List.getElem?_cons_zero] at hw1
    have HS : Hid (DgW (w.setCell ⟨B + 1, 0, none⟩ (errOf (some 3))) B xs true ∧ Below B w (w.setCell ⟨B + 1, 0, none⟩ (errOf (some 3)))) := ⟨HD.out.setWrong, (Below.refl _ _).setCell (show B ≤ B + 1 by omega) _⟩
    have hc2 : (w.setCell ⟨B + 1, 0, none⟩ (.iface 28 (.int .i64 3))).cell? ⟨B + 2, 0, none⟩ = some (.func (.func 13) #[] #[.pointer (some ⟨B, 0, none⟩)]) := cell_of HS.out.1.add
    rw [hqt, Bool.not_false, Bool.or_true]
    go_enter Tryz.func14, Tryz.ntmps14
    go_wp2_with (go_at_call 15; refine (quote_no text ht hq _).mono ?_; rintro e w' ⟨rfl, hw⟩; obtain rfl := hw.symm)
    go_wp2_with fail
    refine (add_any name ⟨#[]⟩ hnz (by decide) hl _ HS.out.1).mono ?_
    rintro e w2 ⟨rfl, h2, hb2⟩
    have HF : Hid (DgW w2 B (xs ++ [eqT name ⟨#[]⟩]) true ∧ Below B w w2) := ⟨h2, HS.out.2.trans hb2⟩
    clear h2 hb2
    go_wp2
    go_end0
    exact ⟨rfl, HF.out.1, HF.out.2⟩
  · have hq : quoteO text.data.toList = some (quoteL text.data.toList) := by unfold quoteO; rw [if_pos]; exact hok
    have hqt : qT text = bs (quoteL text.data.toList) := by unfold qT; rw [if_pos hok]
    have hqz : (bs (quoteL text.data.toList)).size ≤ 10000 := by
      rw [bs_size]
      have h1 := escL_length text.data.toList
      have h2 : text.data.toList.length = text.size := Array.length_toList
      unfold quoteL
      simp
      omega
    rw [hqt, Bool.not_true, Bool.or_false]
    go_enter Tryz.func14, Tryz.ntmps14
    go_wp2_with (go_at_call 15; refine (quote_yes text ht hq _).mono ?_; rintro e w1 ⟨rfl, hb1⟩; have HD1 : Hid (DgW w1 B xs bad ∧ Below B w w1) := ⟨HD.out.below hb1, hb1.mono (by omega)⟩; clear hb1; have hc2 : w1.cell? ⟨B + 2, 0, none⟩ = some (.func (.func 13) #[] #[.pointer (some ⟨B, 0, none⟩)]) := cell_of HD1.out.1.add)
    refine (add_any name _ hnz hqz hl _ HD1.out.1).mono ?_
    rintro e w2 ⟨rfl, h2, hb2⟩
    have HF : Hid (DgW w2 B (xs ++ [eqT name (bs (quoteL text.data.toList))]) bad ∧ Below B w w2) := ⟨h2, HD1.out.2.trans hb2⟩
    clear h2 hb2
    go_wp2
    go_end0
    exact ⟨rfl, HF.out.1, HF.out.2⟩
end Go.Proofs.YtgajhmmildbkfaaGreatFmt

/- What came in, kept while a law goes on: who asks, and what is asked for. -/
namespace Go.Proofs.YtgajhmmildbkfaaGreatFmt
open Go.RowKit

/-- What is kept of what came in: each cell. -/
structure AcK (w W : World) (a : PfA) (st : Bool) (dv : Value) (u p : ByteArray) : Prop where
  c0 : W.cell? ⟨w.heap.size, 0, none⟩ = some (.int .i64 a.scheme)
  c1 : W.cell? ⟨w.heap.size, 1, none⟩ = some (.string a.realm)
  c2 : W.cell? ⟨w.heap.size, 2, none⟩ = some (.string a.nonce)
  c3 : W.cell? ⟨w.heap.size, 3, none⟩ = some (.string a.opq)
  c4 : W.cell? ⟨w.heap.size, 4, none⟩ = some (.bool a.sess)
  c5 : W.cell? ⟨w.heap.size, 5, none⟩ = some (.string a.qop)
  c6 : W.cell? ⟨w.heap.size, 6, none⟩ = some (.bool st)
  c7 : W.cell? ⟨w.heap.size, 7, none⟩ = some dv
  d0 : W.cell? ⟨w.heap.size + 1, 0, none⟩ = some (.string u)
  d1 : W.cell? ⟨w.heap.size + 1, 1, none⟩ = some (.string p)
  lt : w.heap.size + 1 < W.heap.size
  bel : Below w.heap.size w W
  tabs : Tabs W
theorem AcK.below {w W W' : World} {a : PfA} {st : Bool} {dv : Value} {u p : ByteArray} (h : AcK w W a st dv u p) (hb : Below W.heap.size W W') : AcK w W' a st dv u p := by
  have hl := h.lt
  have k : ∀ (b i : Nat), b < W.heap.size → W'.cell? ⟨b, i, none⟩ = W.cell? ⟨b, i, none⟩ := fun b i hlt => hb.cell (p := ⟨b, i, none⟩) hlt
  exact ⟨by rw [k _ _ (by omega)]; exact h.c0, by rw [k _ _ (by omega)]; exact h.c1, by rw [k _ _ (by omega)]; exact h.c2, by rw [k _ _ (by omega)]; exact h.c3, by rw [k _ _ (by omega)]; exact h.c4, by rw [k _ _ (by omega)]; exact h.c5, by rw [k _ _ (by omega)]; exact h.c6, by rw [k _ _ (by omega)]; exact h.c7, by rw [k _ _ (by omega)]; exact h.d0, by rw [k _ _ (by omega)]; exact h.d1, Nat.lt_of_lt_of_le hl hb.size, h.bel.trans (hb.mono h.bel.size), h.tabs.below hb⟩
theorem acK_start (w : World) (a : PfA) (st : Bool) (dv : Value) (u p : ByteArray) (HT : Hid (Tabs w)) : AcK w ((w.alloc (.cells #[.int .i64 a.scheme, .string a.realm, .string a.nonce, .string a.opq, .bool a.sess, .string a.qop, .bool st, dv] 24)).alloc (.cells #[.string u, .string p] 26)) a st dv u p := by
  have hb1 : Below w.heap.size w (w.alloc (.cells #[.int .i64 a.scheme, .string a.realm, .string a.nonce, .string a.opq, .bool a.sess, .string a.qop, .bool st, dv] 24)) := (Below.refl _ _).alloc (Nat.le_refl _) _
  have hz : (w.alloc (.cells #[.int .i64 a.scheme, .string a.realm, .string a.nonce, .string a.opq, .bool a.sess, .string a.qop, .bool st, dv] 24)).heap.size = w.heap.size + 1 := by simp
  have hc : ∀ i, (w.alloc (.cells #[.int .i64 a.scheme, .string a.realm, .string a.nonce, .string a.opq, .bool a.sess, .string a.qop, .bool st, dv] 24)).cell? ⟨w.heap.size, i, none⟩ = #[.int .i64 a.scheme, .string a.realm, .string a.nonce, .string a.opq, .bool a.sess, .string a.qop, .bool st, dv][i]? := fun i => World.cell?_alloc_mark _ _ _ _ _
  generalize (w.alloc (.cells #[.int .i64 a.scheme, .string a.realm, .string a.nonce, .string a.opq, .bool a.sess, .string a.qop, .bool st, dv] 24)) = W1 at hb1 hz hc ⊢
  have hb2 : Below W1.heap.size W1 (W1.alloc (.cells #[.string u, .string p] 26)) := (Below.refl _ _).alloc (Nat.le_refl _) _
  have hd : ∀ i, (W1.alloc (.cells #[.string u, .string p] 26)).cell? ⟨W1.heap.size, i, none⟩ = #[.string u, .string p][i]? := fun i => World.cell?_alloc_mark _ _ _ _ _
  rw [hz] at hd
  have k : ∀ (i : Nat), (W1.alloc (.cells #[.string u, .string p] 26)).cell? ⟨w.heap.size, i, none⟩ = W1.cell? ⟨w.heap.size, i, none⟩ := fun i => hb2.cell (p := ⟨w.heap.size, i, none⟩) (by show w.heap.size < _; omega)
  exact ⟨by rw [k, hc]; rfl, by rw [k, hc]; rfl, by rw [k, hc]; rfl, by rw [k, hc]; rfl, by rw [k, hc]; rfl, by rw [k, hc]; rfl, by rw [k, hc]; rfl, by rw [k, hc]; rfl, by rw [hd]; rfl, by rw [hd]; rfl, by simp [hz], hb1.trans (hb2.mono hb1.size), (HT.out.below hb1).below hb2⟩
end Go.Proofs.YtgajhmmildbkfaaGreatFmt

/- A parameter more, as an item of the header; what came in is kept beside. -/
namespace Go.Proofs.YtgajhmmildbkfaaGreatFmt
open Go.RowKit Go.Shelf
set_option linter.unusedVariables false

def itemB (x : Item) : ByteArray := eqT (bs x.1) (if x.2.2 then qT (bs x.2.1) else bs x.2.1)
/-- What came in, and the items so far. -/
structure DgS (w W : World) (a : PfA) (st : Bool) (dv : Value) (u p : ByteArray) (B : Nat) (L : List Item) : Prop where
  ac : AcK w W a st dv u p
  di : DgW W B (L.map itemB) (!L.all itemOk)
  hB : w.heap.size + 1 < B
theorem AcK.belowAt {w W W' : World} {a : PfA} {st : Bool} {dv : Value} {u p : ByteArray} {B : Nat} (h : AcK w W a st dv u p) (hb : Below B W W') (hB : w.heap.size + 1 < B) (HT : Hid (Tabs w)) : AcK w W' a st dv u p := by
  have k : ∀ (b i : Nat), b < B → W'.cell? ⟨b, i, none⟩ = W.cell? ⟨b, i, none⟩ := fun b i hlt => hb.cell (p := ⟨b, i, none⟩) hlt
  have hbel := h.bel.trans (hb.mono (by omega : w.heap.size ≤ B))
  exact ⟨by rw [k _ _ (by omega)]; exact h.c0, by rw [k _ _ (by omega)]; exact h.c1, by rw [k _ _ (by omega)]; exact h.c2, by rw [k _ _ (by omega)]; exact h.c3, by rw [k _ _ (by omega)]; exact h.c4, by rw [k _ _ (by omega)]; exact h.c5, by rw [k _ _ (by omega)]; exact h.c6, by rw [k _ _ (by omega)]; exact h.c7, by rw [k _ _ (by omega)]; exact h.d0, by rw [k _ _ (by omega)]; exact h.d1, Nat.lt_of_lt_of_le h.lt hb.size, hbel, HT.out.below hbel⟩
theorem DgS.below {w W W' : World} {a : PfA} {st : Bool} {dv : Value} {u p : ByteArray} {B : Nat} {L : List Item} (h : DgS w W a st dv u p B L) (hb : Below W.heap.size W W') : DgS w W' a st dv u p B L := ⟨h.ac.below hb, h.di.below hb, h.hB⟩
theorem okT_all (t : List UInt8) : okT (bs t) = t.all textB := by unfold okT; rw [bs_data]
theorem dg_snoc (L : List Item) (x : Item) : (!(L ++ [x]).all itemOk) = (!L.all itemOk || !itemOk x) := by
  rw [List.all_append]
  simp [Bool.not_and]
/-- An item between marks. -/
theorem DgS.quote {w W : World} {a : PfA} {st : Bool} {dv : Value} {u p : ByteArray} {B : Nat} {L : List Item} (h : DgS w W a st dv u p B L) (HT : Hid (Tabs w)) (n t : List UInt8) (nm tx : ByteArray) (hn : nm = bs n) (ht : tx = bs t) (hnz : n.length ≤ 3000) (htz : t.length ≤ 3000) (hl : L.length ≤ 20) :
    Calls Tryz.prog 14 #[.string nm, .string tx, .pointer (some ⟨B + 1, 0, none⟩), .pointer (some ⟨B + 2, 0, none⟩)] W fun e W' => e = .returned (.tuple #[]) ∧ DgS w W' a st dv u p B (L ++ [(n, t, true)]) := by
  subst hn ht
  refine (quote_any (bs n) (bs t) (by rw [bs_size]; exact hnz) (by rw [bs_size]; exact htz) (by simp; omega) W h.di).mono ?_
  rintro e W' ⟨rfl, h1, h2⟩
  refine ⟨rfl, h.ac.belowAt h2 h.hB HT, ?_, h.hB⟩
  rw [dg_snoc, List.map_append]
  have e1 : itemOk (n, t, true) = okT (bs t) := by rw [okT_all]; simp [itemOk]
  rw [e1]
  exact h1
/-- An item as it is. -/
theorem DgS.plain {w W : World} {a : PfA} {st : Bool} {dv : Value} {u p : ByteArray} {B : Nat} {L : List Item} (h : DgS w W a st dv u p B L) (HT : Hid (Tabs w)) (n t : List UInt8) (nm tx : ByteArray) (hn : nm = bs n) (ht : tx = bs t) (hnz : n.length ≤ 3000) (htz : t.length ≤ 3000) (hl : L.length ≤ 20) :
    Calls Tryz.prog 13 #[.string nm, .string tx, .pointer (some ⟨B, 0, none⟩)] W fun e W' => e = .returned (.tuple #[]) ∧ DgS w W' a st dv u p B (L ++ [(n, t, false)]) := by
  subst hn ht
  refine (add_any (bs n) (bs t) (by rw [bs_size]; exact hnz) (by rw [bs_size]; omega) (by simp; omega) W h.di).mono ?_
  rintro e W' ⟨rfl, h1, h2⟩
  refine ⟨rfl, h.ac.belowAt h2 h.hB HT, ?_, h.hB⟩
  rw [dg_snoc, List.map_append]
  have e1 : itemOk (n, t, false) = true := by simp [itemOk]
  rw [e1, Bool.not_true, Bool.or_false]
  exact h1
/-- The cells that the walk reads. -/
def DgH (w : World) (a : PfA) (st : Bool) (dv : Value) (u p : ByteArray) (B : Nat) (W : World) : Prop :=
  W.cell? ⟨w.heap.size, 0, none⟩ = some (.int .i64 a.scheme) ∧ W.cell? ⟨w.heap.size, 1, none⟩ = some (.string a.realm) ∧ W.cell? ⟨w.heap.size, 2, none⟩ = some (.string a.nonce) ∧ W.cell? ⟨w.heap.size, 3, none⟩ = some (.string a.opq) ∧ W.cell? ⟨w.heap.size, 4, none⟩ = some (.bool a.sess) ∧ W.cell? ⟨w.heap.size, 5, none⟩ = some (.string a.qop) ∧ W.cell? ⟨w.heap.size, 6, none⟩ = some (.bool st) ∧ W.cell? ⟨w.heap.size, 7, none⟩ = some dv ∧ W.cell? ⟨w.heap.size + 1, 0, none⟩ = some (.string u) ∧ W.cell? ⟨w.heap.size + 1, 1, none⟩ = some (.string p) ∧ W.cell? ⟨B + 1 + 1, 0, none⟩ = some (.func (.func 13) #[] #[.pointer (some ⟨B, 0, none⟩)])
theorem DgS.held {w W : World} {a : PfA} {st : Bool} {dv : Value} {u p : ByteArray} {B : Nat} {L : List Item} (h : DgS w W a st dv u p B L) : DgH w a st dv u p B W :=
  ⟨h.ac.c0, h.ac.c1, h.ac.c2, h.ac.c3, h.ac.c4, h.ac.c5, h.ac.c6, h.ac.c7, h.ac.d0, h.ac.d1, cell_of h.di.add⟩
theorem DgS.new {w W : World} {a : PfA} {st : Bool} {dv : Value} {u p : ByteArray} (h : AcK w W a st dv u p) (W3 : World) (hb : Below W.heap.size W W3) (h0 : W3.heap[W.heap.size]? = some (.cells #[.slice none 0 0] 22 (0, 0))) (h1 : W3.heap[W.heap.size + 1]? = some (.cells #[.nilIface] 32 (0, 0))) (h2 : W3.heap[W.heap.size + 2]? = some (.cells #[.func (.func 13) #[] #[.pointer (some ⟨W.heap.size, 0, none⟩)]] 46 (0, 0))) :
    DgS w W3 a st dv u p W.heap.size [] := ⟨h.below hb, ⟨h1, h2, _, h0, ownS_nil _ _⟩, h.lt⟩
/-- The sizes of what stands between marks. -/
theorem join2_len (m : Nat) : ∀ (l : List (List UInt8)), (∀ x ∈ l, x.length ≤ m) → (Lib.join l [44, 32]).length ≤ l.length * (m + 2)
  | [], _ => by simp [Lib.join]
  | [a], h => by have := h a (by simp); rw [join_one]; simp; omega
  | a :: b :: r, h => by
    have h1 := h a (by simp)
    have h2 := join2_len m (b :: r) (fun x hx => h x (by simp at hx ⊢; exact .inr hx))
    have e : (a :: b :: r).length * (m + 2) = (b :: r).length * (m + 2) + (m + 2) := by rw [List.length_cons, Nat.succ_mul]
    rw [join_cons, List.length_append, List.length_append, e]
    show a.length + (2 + _) ≤ _
    omega
theorem itemT_len (x : Item) (h1 : x.1.length ≤ 20) (h2 : x.2.1.length ≤ 500) : (itemT x).length ≤ 1100 := by
  unfold itemT
  have := escL_length x.2.1
  rw [List.length_append, List.length_cons]
  split
  · unfold quoteL
    simp
    omega
  · omega
theorem itemB_data (x : Item) (h : itemOk x = true) : (itemB x).data.toList = itemT x := by
  obtain ⟨n, t, q⟩ := x
  have hh : ∀ y : ByteArray, (eqT (bs n) y).data.toList = n ++ 61 :: y.data.toList := fun y => by
    unfold eqT
    simp [ByteArray.data_append, bs_data]
  unfold itemB itemT
  rw [hh]
  cases q
  · simp [bs_data]
  · have h2 : okT (bs t) = true := by rw [okT_all]; simpa [itemOk] using h
    simp only [if_true]
    unfold qT
    rw [if_pos h2, bs_data, bs_data]
theorem itemsB_data (L : List Item) (h : L.all itemOk = true) : dats (L.map itemB) = L.map itemT := by
  unfold dats
  rw [List.map_map]
  refine List.map_congr_left fun x hx => ?_
  exact itemB_data x (List.all_eq_true.1 h x hx)
/-- The parameters, with commas between. -/
theorem joinI_any (L : List Item) (hok : L.all itemOk = true) (hz : ∀ x ∈ L, x.1.length ≤ 20 ∧ x.2.1.length ≤ 500) (hl : L.length ≤ 20) (n : Nat) (hn : L.length = n) (B : Nat) (v : Value) (w : World) (ho : OwnS w B v (L.map itemB)) :
    Calls Tryz.prog 19 #[v, .string ⟨#[44, 32]⟩] w fun e w' => e = .returned (.string (bs (Lib.join (L.map itemT) [44, 32]))) ∧ Below w.heap.size w w' := by
  have hlen : (Lib.join (L.map itemT) [44, 32]).length ≤ 30000 := by
    have h1 := join2_len 1100 (L.map itemT) (fun y hy => by
      obtain ⟨x, hx, rfl⟩ := List.mem_map.1 hy
      exact itemT_len x (hz x hx).1 (hz x hx).2)
    rw [List.length_map] at h1
    have : L.length * 1102 ≤ 20 * 1102 := Nat.mul_le_mul_right _ hl
    omega
  rw [← itemsB_data L hok] at hlen ⊢
  have hxl : (L.map itemB).length ≤ 20 := by rw [List.length_map]; exact hl
  generalize L.map itemB = xs at ho hlen hxl ⊢
  obtain ⟨_, h0⟩ := ho
  rcases h0 with ⟨rfl, h0⟩ | ⟨g, cap, cur, rfl, _, hh, hc, _, hs, ht⟩
  · have e : xs = [] := List.eq_nil_of_length_eq_zero h0
    subst e
    refine (Any.strings_Join_none lays156 Builder_Extra_156 none 0 ⟨#[44, 32]⟩ w).mono ?_
    rintro e w' ⟨rfl, rfl⟩
    exact ⟨rfl, Below.refl _ _⟩
  · have hb : g < w.heap.size := (Array.getElem?_eq_some_iff.1 hh).1
    have hcell : ∀ (j : Nat) x, xs[j]? = some x → w.cell? ⟨g, 0 + j, none⟩ = some (.string x) := fun j x hj => by
      rw [Nat.zero_add, cell_of hh]
      have hj2 := (List.getElem?_eq_some_iff.1 hj).1
      have e2 : (cur.toList.take (xs.length * 1))[j]? = some (.string x) := by rw [ht, List.getElem?_map, hj]; rfl
      rw [List.getElem?_take_of_lt (by omega)] at e2
      simpa using e2
    have c := Any.strings_Join lays156 Builder_Extra_156 g 0 cap xs ⟨#[44, 32]⟩ w hcell hb (by omega) hc (by
      show (Lib.join (dats xs) [44, 32]).length ≤ _
      omega)
    exact c
end Go.Proofs.YtgajhmmildbkfaaGreatFmt

/- A region driven by hand: an operation taken first. -/
namespace Go.Proofs.YtgajhmmildbkfaaGreatFmt
open Go.RowKit

section
variable {P : Program} {ops : Array Oper} {Q : Exit → Act → World → Prop} {md : Region.Mode} {S : World → Prop}
theorem takeH {i : Nat} {oi : Oper} {d : Option Tmp} {v : Value} {fuel : Nat} {listed : Array Bool} {a : Act} {w : World} (hi : ops[i]? = some oi) (hd : oi.dst = d)
    (hs : Region.noSelect ops = true) (hf : Region.free md ops listed i = true) (hr : (Region.ready md ops listed).contains i = true)
    (hQ : ∀ c a w, Q (.panic c) (a.put oi.dst v) w → Q (.panic c) a w) (hw : Region.wanted oi (yielded ops a.tmps) = true) (hy : ∀ w, S w → (execOp a.eval oi).run P w = .ok (.value v) w) (hS : S w)
    (h : wpAnyH P md ops Q S fuel (listed.setIfInBounds i true) (a.put d v) w) : wpAnyH P md ops Q S (fuel + 1) listed a w := by
  subst hd
  exact wpAnyH_take hi hs hf hr hQ (Or.inl ⟨hw, hy⟩) hS h
theorem skipH {i : Nat} {oi : Oper} {d : Option Tmp} {fuel : Nat} {listed : Array Bool} {a : Act} {w : World} (hi : ops[i]? = some oi) (hd : oi.dst = d)
    (hs : Region.noSelect ops = true) (hf : Region.free md ops listed i = true) (hr : (Region.ready md ops listed).contains i = true)
    (hQ : ∀ c a w, Q (.panic c) (a.put oi.dst undef) w → Q (.panic c) a w) (hw : Region.wanted oi (yielded ops a.tmps) = false) (hS : S w)
    (h : wpAnyH P md ops Q S fuel (listed.setIfInBounds i true) (a.put d undef) w) : wpAnyH P md ops Q S (fuel + 1) listed a w := by
  subst hd
  exact wpAnyH_take hi hs hf hr hQ (Or.inr ⟨hw, rfl⟩) hS h
end
end Go.Proofs.YtgajhmmildbkfaaGreatFmt

/- The header that proves a request, by the program. -/
namespace Go.Proofs.YtgajhmmildbkfaaGreatFmt
open Go.RowKit Go.Shelf
set_option linter.unusedVariables false
set_option linter.unusedSimpArgs false

def digV : Except Nat (List UInt8) → Value
  | .ok l => .tuple #[.string (bs l), .nilIface]
  | .error k => .tuple #[.string ⟨#[]⟩, .iface 28 (.int .i64 (k : Int))]
theorem digO_bad (a : PfA) (r : PfR) (n : Int) (k : Nat) (h : prvO a n = some k) : digO a r n = .error k := by
  unfold prvO at h
  unfold digO
  split at h
  · rename_i h1
    rw [if_pos h1]
    injection h with h
    rw [h]
  · rename_i h1
    rw [if_neg h1]
    split at h
    · rename_i h2
      rw [if_pos h2]
      injection h with h
      rw [h]
    · cases h
theorem digO_fit (a : PfA) (r : PfR) (n : Int) (h : prvO a n = none) : (∃ m : Nat, n = (m : Int) ∧ m < 4294967296) ∧ digO a r n = if (items a r n.toNat).all itemOk then .ok (digT (items a r n.toNat)) else .error 3 := by
  unfold prvO at h
  unfold digO
  split at h
  · cases h
  · rename_i h1
    rw [if_neg h1]
    split at h
    · cases h
    · rename_i h2
      rw [if_neg h2]
      exact ⟨⟨n.toNat, by omega, by omega⟩, rfl⟩
theorem dg_third (w1 : World) : (((w1.alloc (.cells #[.slice none 0 0] 22)).alloc (.cells #[.nilIface] 32)).alloc (.cells #[.nilFunc] 46)).heap[w1.heap.size + 1 + 1]? = some (.cells #[.nilFunc] 46 (0, 0)) := by
  have := heap_alloc_new ((w1.alloc (.cells #[.slice none 0 0] 22)).alloc (.cells #[.nilIface] 32)) (.cells #[.nilFunc] 46)
  simpa using this
theorem dg_new {w w1 : World} {a : PfA} {st : Bool} {dv : Value} {u p : ByteArray} (h : AcK w w1 a st dv u p) : DgS w (((w1.alloc (.cells #[.slice none 0 0] 22)).alloc (.cells #[.nilIface] 32)).alloc (.cells #[.func (.func 13) #[] #[.pointer (some ⟨w1.heap.size, 0, none⟩)]] 46)) a st dv u p w1.heap.size [] := by
  have hb1 : Below w1.heap.size w1 (w1.alloc (.cells #[.slice none 0 0] 22)) := (Below.refl _ _).alloc (Nat.le_refl _) _
  have h1 := heap_alloc_new w1 (.cells #[.slice none 0 0] 22)
  have z1 : (w1.alloc (.cells #[.slice none 0 0] 22)).heap.size = w1.heap.size + 1 := by simp
  generalize w1.alloc (.cells #[.slice none 0 0] 22) = wa at *
  have h2 := heap_alloc_new wa (.cells #[.nilIface] 32)
  have hb2 : Below wa.heap.size wa (wa.alloc (.cells #[.nilIface] 32)) := (Below.refl _ _).alloc (Nat.le_refl _) _
  have z2 : (wa.alloc (.cells #[.nilIface] 32)).heap.size = w1.heap.size + 2 := by simp [z1]
  generalize wa.alloc (.cells #[.nilIface] 32) = wb at *
  have h3 := heap_alloc_new wb (.cells #[.func (.func 13) #[] #[.pointer (some ⟨w1.heap.size, 0, none⟩)]] 46)
  have hb3 : Below wb.heap.size wb (wb.alloc (.cells #[.func (.func 13) #[] #[.pointer (some ⟨w1.heap.size, 0, none⟩)]] 46)) := (Below.refl _ _).alloc (Nat.le_refl _) _
  generalize wb.alloc (.cells #[.func (.func 13) #[] #[.pointer (some ⟨w1.heap.size, 0, none⟩)]] 46) = wc at *
  refine DgS.new h _ (hb1.trans ((hb2.mono (by omega)).trans (hb3.mono (by omega)))) ?_ ?_ ?_
  · rw [hb3.block _ (by omega), hb2.block _ (by omega)]
    exact h1
  · rw [hb3.block _ (by omega), ← z1]
    exact h2
  · rw [← z2]
    exact h3
theorem respL_len (a : PfA) (r : PfR) (n : Nat) : (respL a r n).length ≤ 64 := by
  unfold respL
  split <;> exact sumT_len _ _
theorem algT_len (a : PfA) : (algT a).length ≤ 3000 := by
  unfold algT
  split <;> split <;> decide
theorem qop_empty {s : ByteArray} (h : s.data.toList = []) : s = ⟨#[]⟩ := by rw [← bs_self s, h]; rfl
theorem qop_none {s : ByteArray} (h : s.data.toList = []) : (!s.toList.isEmpty) = false := by
  rw [ByteArray.toList_eq, h]
  rfl
theorem qop_full {s : ByteArray} (h : ¬ s.data.toList = []) : (!s.toList.isEmpty) = true := by
  rw [ByteArray.toList_eq]
  cases hs : s.data.toList with
  | nil => exact absurd hs h
  | cons x l => rfl
theorem qopI_len (a : PfA) (r : PfR) (m : Nat) : (fiveI a r m ++ [(nAlgo, algT a, false)] ++ qopI a m).length ≤ 20 := by
  unfold fiveI qopI
  split <;> simp
theorem cnI_len (a : PfA) (r : PfR) (m : Nat) : (fiveI a r m ++ [(nAlgo, algT a, false)] ++ qopI a m ++ cnI a r).length ≤ 20 := by
  unfold fiveI qopI cnI
  split <;> split <;> simp
theorem items_len (a : PfA) (r : PfR) (m : Nat) : (items a r m).length ≤ 20 := by
  unfold items fiveI qopI cnI opqI
  split <;> split <;> split <;> simp
theorem items_small (a : PfA) (r : PfR) (m : Nat) (hf : Fits a r) (ho : a.opq.size ≤ 500) : ∀ x ∈ items a r m, x.1.length ≤ 20 ∧ x.2.1.length ≤ 500 := by
  unfold Fits at hf
  have e : ∀ x : ByteArray, x.data.toList.length = x.size := fun x => Array.length_toList
  have h1 := respL_len a r m
  have h2 := countL_len m
  have h3 : (algT a).length ≤ 500 := by unfold algT; split <;> split <;> decide
  intro x hx
  unfold items fiveI qopI cnI opqI at hx
  simp only [List.mem_append, List.mem_cons, List.not_mem_nil, or_false] at hx
  rcases hx with ((((rfl | rfl | rfl | rfl | rfl) | rfl) | hx) | hx) | hx
  · exact ⟨(show nUser.length ≤ 20 by decide), by rw [e]; omega⟩
  · exact ⟨(show nRealm.length ≤ 20 by decide), by rw [e]; omega⟩
  · exact ⟨(show nNonce.length ≤ 20 by decide), by rw [e]; omega⟩
  · exact ⟨(show nUri.length ≤ 20 by decide), by rw [e]; omega⟩
  · exact ⟨(show nResp.length ≤ 20 by decide), by show (respL a r m).length ≤ 500; omega⟩
  · exact ⟨(show nAlgo.length ≤ 20 by decide), h3⟩
  · split at hx
    · cases hx
    · simp only [List.mem_cons, List.not_mem_nil, or_false] at hx
      rcases hx with rfl | rfl
      · exact ⟨(show nQop.length ≤ 20 by decide), by rw [e]; omega⟩
      · exact ⟨(show nNc.length ≤ 20 by decide), by show (countL m).length ≤ 500; omega⟩
  · split at hx
    · cases hx
    · simp only [List.mem_cons, List.not_mem_nil, or_false] at hx
      subst hx
      exact ⟨(show nCn.length ≤ 20 by decide), by rw [e]; omega⟩
  · split at hx
    · cases hx
    · simp only [List.mem_cons, List.not_mem_nil, or_false] at hx
      subst hx
      exact ⟨(show nOpq.length ≤ 20 by decide), by rw [e]; omega⟩
theorem items_join (a : PfA) (r : PfR) (m : Nat) (hf : Fits a r) (ho : a.opq.size ≤ 500) : Hid ((bs (Lib.join ((items a r m).map itemT) [44, 32])).size ≤ 30000) := by
  show _ ≤ _
  rw [bs_size]
  have h1 := join2_len 1100 ((items a r m).map itemT) (fun y hy => by
    obtain ⟨x, hx, rfl⟩ := List.mem_map.1 hy
    exact itemT_len x (items_small a r m hf ho x hx).1 (items_small a r m hf ho x hx).2)
  rw [List.length_map] at h1
  have h2 := items_len a r m
  have : (items a r m).length * 1102 ≤ 20 * 1102 := Nat.mul_le_mul_right _ h2
  omega
theorem dig_text (L : List Item) : .returned (.tuple #[.string ((⟨#[68, 105, 103, 101, 115, 116, 32]⟩ : ByteArray) ++ bs (Lib.join (L.map itemT) [44, 32])), .nilIface]) = Ending.returned (digV (.ok (digT L))) := by
  have e : bs (digT L) = (⟨#[68, 105, 103, 101, 115, 116, 32]⟩ : ByteArray) ++ bs (Lib.join (L.map itemT) [44, 32]) := by
    rw [← bs_self ((⟨#[68, 105, 103, 101, 115, 116, 32]⟩ : ByteArray) ++ bs (Lib.join (L.map itemT) [44, 32])), ByteArray.data_append, Array.toList_append, bs_data]
    rfl
  show _ = Ending.returned (.tuple #[.string (bs (digT L)), .nilIface])
  rw [e]
structure DgZ (a : PfA) (r : PfR) : Prop where
  hzu : r.user.data.toList.length ≤ 3000
  hzr : a.realm.data.toList.length ≤ 3000
  hzn : a.nonce.data.toList.length ≤ 3000
  hzt : r.target.data.toList.length ≤ 3000
  hzc : r.cnonce.data.toList.length ≤ 3000
  hzq : a.qop.data.toList.length ≤ 3000
  hzo : a.opq.data.toList.length ≤ 3000
theorem dgZ_of {a : PfA} {r : PfR} (hf : Fits a r) (ho : a.opq.size ≤ 500) : DgZ a r := by
  unfold Fits at hf
  have e : ∀ x : ByteArray, x.data.toList.length = x.size := fun x => Array.length_toList
  exact ⟨by rw [e]; omega, by rw [e]; omega, by rw [e]; omega, by rw [e]; omega, by rw [e]; omega, by rw [e]; omega, by rw [e]; omega⟩
set_option maxRecDepth 100000 in
set_option maxHeartbeats 8000000 in
theorem dig_any (a : PfA) (r : PfR) (st : Bool) (dv : Value) (n : Int) (hf : Fits a r) (ho : a.opq.size ≤ 500) (w : World) (HT : Hid (Tabs w)) :
    Calls Tryz.prog 6 #[.agg #[.int .i64 a.scheme, .string a.realm, .string a.nonce, .string a.opq, .bool a.sess, .string a.qop, .bool st, dv], .agg #[.string r.user, .string r.pass], .string r.method, .string r.target, .string r.body, .string r.cnonce, .int .i64 n] w fun e w' => e = .returned (digV (digO a r n)) ∧ Below w.heap.size w w' := by
  have hp := fun w => prv_any a st dv n w
  have HZ : Hid (DgZ a r) := dgZ_of hf ho
  have HK0 : Hid (AcK w ((w.alloc (.cells #[.int .i64 a.scheme, .string a.realm, .string a.nonce, .string a.opq, .bool a.sess, .string a.qop, .bool st, dv] 24)).alloc (.cells #[.string r.user, .string r.pass] 26)) a st dv r.user r.pass) := acK_start w a st dv r.user r.pass HT
  obtain ⟨c0, c1, c2, c3, c4, c5, c6, c7, d0, d1, _, _, _⟩ := HK0.out
  cases hpv : prvO a n with
  | some k =>
    have HE : Hid (digO a r n = .error k) := digO_bad a r n k hpv
    rw [hpv] at hp
    simp only [errOf] at hp
    go_enter Tryz.func6, Tryz.ntmps6
    go_wp2_with (go_at_call 12; refine (hp _).mono ?_; rintro e w1 ⟨rfl, hb1⟩; have HB1 : Hid (Below w.heap.size w w1) := HK0.out.bel.trans (hb1.mono HK0.out.bel.size); clear hb1)
    go_ret2
    exact ⟨by rw [HE.out]; rfl, HB1.out⟩
  | none =>
    obtain ⟨⟨m, rfl, hm⟩, he⟩ := digO_fit a r n hpv
    have HE : Hid (digO a r (m : Int) = if (items a r m).all itemOk then .ok (digT (items a r m)) else .error 3) := he
    rw [hpv] at hp
    simp only [errOf] at hp
    obtain ⟨X, HX⟩ : ∃ X, Hid (bs (respL a r m) = X) := ⟨_, rfl⟩
    have hrs : ∀ w, Hid (Tabs w) → Calls Tryz.prog 16 #[.agg #[.int .i64 a.scheme, .string a.realm, .string a.nonce, .string a.opq, .bool a.sess, .string a.qop, .bool st, dv], .agg #[.string r.user, .string r.pass], .string r.method, .string r.target, .string r.body, .string r.cnonce, .int .i64 (m : Int)] w fun e w' => e = .returned (.string X) ∧ Below w.heap.size w w' := fun w HT => by rw [← HX.out]; exact resp_any a r st dv m (by omega) hf w HT
    go_enter Tryz.func6, Tryz.ntmps6
    go_upto_region 8 with (go_at_call 12; refine (hp _).mono ?_; rintro e w1 ⟨rfl, hb1⟩; have HK1 : Hid (AcK w w1 a st dv r.user r.pass) := HK0.out.below hb1; clear hb1; have h3 := dg_third w1; have hs3 : (((w1.alloc (.cells #[.slice none 0 0] 22)).alloc (.cells #[.nilIface] 32)).alloc (.cells #[.nilFunc] 46)).cell? ⟨w1.heap.size + 1 + 1, 0, none⟩ = some .nilFunc := cell_of h3; have hf3 := free_of h3 0)
    have HS0 : Hid (DgS w _ a st dv r.user r.pass w1.heap.size []) := dg_new HK1.out
    clear h3 hs3 hf3 HK1 HK0 hp c0 c1 c2 c3 c4 c5 c6 c7 d0 d1
    generalize (((w1.alloc (.cells #[.slice none 0 0] 22)).alloc (.cells #[.nilIface] 32)).alloc (.cells #[.func (.func 13) #[] #[.pointer (some ⟨w1.heap.size, 0, none⟩)]] 46)) = W0 at HS0 ⊢
    generalize w1.heap.size = B at HS0 ⊢
    clear w1
    obtain ⟨c0, c1, c2, c3, c4, c5, c6, c7, d0, d1, q0⟩ := HS0.out.held
    go_wp2_with fail
    refine (HS0.out.quote HT nUser r.user.data.toList _ _ rfl (bs_self _).symm (by decide) HZ.out.hzu (by simp)).mono ?_
    rintro e W1 ⟨rfl, h1⟩
    have HS1 : Hid (DgS w W1 a st dv r.user r.pass B [(nUser, r.user.data.toList, true)]) := h1
    clear h1 HS0 c0 c1 c2 c3 c4 c5 c6 c7 d0 d1 q0
    obtain ⟨c0, c1, c2, c3, c4, c5, c6, c7, d0, d1, q0⟩ := HS1.out.held
    go_wp2_with fail
    refine (HS1.out.quote HT nRealm a.realm.data.toList _ _ rfl (bs_self _).symm (by decide) HZ.out.hzr (by simp)).mono ?_
    rintro e W2 ⟨rfl, h1⟩
    have HS2 : Hid (DgS w W2 a st dv r.user r.pass B [(nUser, r.user.data.toList, true), (nRealm, a.realm.data.toList, true)]) := h1
    clear h1 HS1 c0 c1 c2 c3 c4 c5 c6 c7 d0 d1 q0
    obtain ⟨c0, c1, c2, c3, c4, c5, c6, c7, d0, d1, q0⟩ := HS2.out.held
    go_wp2_with fail
    refine (HS2.out.quote HT nNonce a.nonce.data.toList _ _ rfl (bs_self _).symm (by decide) HZ.out.hzn (by simp)).mono ?_
    rintro e W3 ⟨rfl, h1⟩
    have HS3 : Hid (DgS w W3 a st dv r.user r.pass B [(nUser, r.user.data.toList, true), (nRealm, a.realm.data.toList, true), (nNonce, a.nonce.data.toList, true)]) := h1
    clear h1 HS2 c0 c1 c2 c3 c4 c5 c6 c7 d0 d1 q0
    obtain ⟨c0, c1, c2, c3, c4, c5, c6, c7, d0, d1, q0⟩ := HS3.out.held
    go_wp2_with fail
    refine (HS3.out.quote HT nUri r.target.data.toList _ _ rfl (bs_self _).symm (by decide) HZ.out.hzt (by simp)).mono ?_
    rintro e W4 ⟨rfl, h1⟩
    have HS4 : Hid (DgS w W4 a st dv r.user r.pass B [(nUser, r.user.data.toList, true), (nRealm, a.realm.data.toList, true), (nNonce, a.nonce.data.toList, true), (nUri, r.target.data.toList, true)]) := h1
    clear h1 HS3 c0 c1 c2 c3 c4 c5 c6 c7 d0 d1 q0
    obtain ⟨c0, c1, c2, c3, c4, c5, c6, c7, d0, d1, q0⟩ := HS4.out.held
    go_wp2_with (go_at_call 16; refine (hrs _ HS4.out.ac.tabs).mono ?_; rintro e W5 ⟨rfl, hb5⟩; have HS5 : Hid (DgS w W5 a st dv r.user r.pass B [(nUser, r.user.data.toList, true), (nRealm, a.realm.data.toList, true), (nNonce, a.nonce.data.toList, true), (nUri, r.target.data.toList, true)]) := HS4.out.below hb5; clear hb5)
    refine (HS5.out.quote HT nResp (respL a r m) _ _ rfl HX.out.symm (by decide) (Nat.le_trans (respL_len a r m) (by decide)) (by simp)).mono ?_
    rintro e W6 ⟨rfl, h1⟩
    have HS6 : Hid (DgS w W6 a st dv r.user r.pass B [(nUser, r.user.data.toList, true), (nRealm, a.realm.data.toList, true), (nNonce, a.nonce.data.toList, true), (nUri, r.target.data.toList, true), (nResp, respL a r m, true)]) := h1
    clear h1 HS4 HS5 c0 c1 c2 c3 c4 c5 c6 c7 d0 d1 q0 hrs
    go_upto_region 13 with fail
    have HS6d : Hid (DgS w W6.drew a st dv r.user r.pass B [(nUser, r.user.data.toList, true), (nRealm, a.realm.data.toList, true), (nNonce, a.nonce.data.toList, true), (nUri, r.target.data.toList, true), (nResp, respL a r m, true)]) := HS6.out.below (Below.refl _ _).drew
    refine wp_region_held_drew (S := DgH w a st dv r.user r.pass B) (by kernel_rfl) HS6d.out.held (fun hHeld => ?_)
    refine takeH (i := 0) (d := some 54) (v := ?_) rfl rfl (by kernel_rfl) (by kernel_rfl) (by kernel_rfl) (fun _ _ _ h => h) (by rfl) ?_ (by assumption) ?_
    rotate_left
    · intro w hSw; obtain ⟨c0, c1, c2, c3, c4, c5, c6, c7, d0, d1, q0⟩ := hSw; go_simp; with_reducible rfl
    try simp only [Act.put, List.setIfInBounds_toArray, List.set_cons_zero, List.set_cons_succ]
    refine takeH (i := 1) (d := some 55) (v := ?_) rfl rfl (by kernel_rfl) (by kernel_rfl) (by kernel_rfl) (fun _ _ _ h => h) (by rfl) ?_ (by assumption) ?_
    rotate_left
    · intro w hSw; obtain ⟨c0, c1, c2, c3, c4, c5, c6, c7, d0, d1, q0⟩ := hSw; go_simp; with_reducible rfl
    try simp only [Act.put, List.setIfInBounds_toArray, List.set_cons_zero, List.set_cons_succ]
    refine wpAnyH_ready (rs := [2]) (by kernel_rfl) (by simp) ?_
    refine AllReadyH.cons (by rfl) (fun K hKK => ?_) AllReadyH.nil
    go_simp
    refine (alg_any a st dv _).mono ?_
    rintro e W7 ⟨rfl, hb7⟩
    have HS7 : Hid (DgS w W7 a st dv r.user r.pass B [(nUser, r.user.data.toList, true), (nRealm, a.realm.data.toList, true), (nNonce, a.nonce.data.toList, true), (nUri, r.target.data.toList, true), (nResp, respL a r m, true)]) := HS6d.out.below hb7
    clear hb7
    go_wp2_with fail
    refine hKK.out _ _ HS7.out.held (fun hHeld => ?_)
    clear hKK K
    try simp only [Act.put, List.setIfInBounds_toArray, List.set_cons_zero, List.set_cons_succ]
    refine wpAnyH_ready (rs := [3]) (by kernel_rfl) (by simp) ?_
    refine AllReadyH.cons (by rfl) (fun K hKK => ?_) AllReadyH.nil
    go_simp
    refine (HS7.out.plain HT nAlgo (algT a) _ _ rfl rfl (by decide) (algT_len a) (by simp)).mono ?_
    rintro e W8 ⟨rfl, h1⟩
    have HS8 : Hid (DgS w W8 a st dv r.user r.pass B (fiveI a r m ++ [(nAlgo, algT a, false)])) := h1
    clear h1 HS7 HS6 HS6d
    go_wp2_with fail
    refine hKK.out _ _ HS8.out.held (fun hHeld => ?_)
    clear hKK K
    try simp only [Act.put, List.setIfInBounds_toArray, List.set_cons_zero, List.set_cons_succ]
    refine wpAnyH_done (by kernel_rfl) ?_ _
    obtain ⟨c0, c1, c2, c3, c4, c5, c6, c7, d0, d1, q0⟩ := HS8.out.held
    go_upto_if 60 with fail
    go_cut [] (fun wc => Hid (DgS w wc a st dv r.user r.pass B (fiveI a r m ++ [(nAlgo, algT a, false)] ++ qopI a m)))
    case first =>
      clear c0 c1 c2 c3 c4 c5 c6 c7 d0 d1 q0
      by_cases hq : a.qop.data.toList = []
      · have HQE : Hid (qopI a m = []) := by show _ = _; unfold qopI; rw [if_pos hq]
        have he : (!a.qop.toList.isEmpty) = false := qop_none hq
        rw [he]
        go_wp2
        go_meet
        show DgS w W8 a st dv r.user r.pass B (fiveI a r m ++ [(nAlgo, algT a, false)] ++ qopI a m)
        rw [HQE.out, List.append_nil]
        exact HS8.out
      · have HQE : Hid (qopI a m = [(nQop, a.qop.data.toList, false), (nNc, countL m, false)]) := by show _ = _; unfold qopI; rw [if_neg hq]
        have he : (!a.qop.toList.isEmpty) = true := qop_full hq
        rw [he]
        obtain ⟨c0, c1, c2, c3, c4, c5, c6, c7, d0, d1, q0⟩ := HS8.out.held
        go_wp2_with fail
        refine (HS8.out.plain HT nQop a.qop.data.toList _ _ rfl (bs_self _).symm (by decide) HZ.out.hzq (by simp [fiveI])).mono ?_
        rintro e W9 ⟨rfl, h1⟩
        have HS9 : Hid (DgS w W9 a st dv r.user r.pass B (fiveI a r m ++ [(nAlgo, algT a, false)] ++ [(nQop, a.qop.data.toList, false)])) := h1
        clear h1 c0 c1 c2 c3 c4 c5 c6 c7 d0 d1 q0 HS8
        go_upto_region 16 with fail
        have HS9d : Hid (DgS w W9.drew a st dv r.user r.pass B (fiveI a r m ++ [(nAlgo, algT a, false)] ++ [(nQop, a.qop.data.toList, false)])) := HS9.out.below (Below.refl _ _).drew
        refine wp_region_held_drew (S := DgH w a st dv r.user r.pass B) (by kernel_rfl) HS9d.out.held (fun hHeld => ?_)
        refine takeH (i := 0) (d := some 65) (v := ?_) rfl rfl (by kernel_rfl) (by kernel_rfl) (by kernel_rfl) (fun _ _ _ h => h) (by rfl) ?_ (by assumption) ?_
        rotate_left
        · intro w hSw; obtain ⟨c0, c1, c2, c3, c4, c5, c6, c7, d0, d1, q0⟩ := hSw; go_simp; with_reducible rfl
        try simp only [Act.put, List.setIfInBounds_toArray, List.set_cons_zero, List.set_cons_succ]
        refine takeH (i := 1) (d := some 66) (v := ?_) rfl rfl (by kernel_rfl) (by kernel_rfl) (by kernel_rfl) (fun _ _ _ h => h) (by rfl) ?_ (by assumption) ?_
        rotate_left
        · intro w hSw; go_simp; with_reducible rfl
        try simp only [Act.put, List.setIfInBounds_toArray, List.set_cons_zero, List.set_cons_succ]
        refine wpAnyH_ready (rs := [2]) (by kernel_rfl) (by simp) ?_
        refine AllReadyH.cons (by rfl) (fun K hKK => ?_) AllReadyH.nil
        go_simp
        refine (count_any m (by omega) _ HS9d.out.ac.tabs.bruijn).mono ?_
        rintro e WA ⟨rfl, hbA⟩
        have HSA : Hid (DgS w WA a st dv r.user r.pass B (fiveI a r m ++ [(nAlgo, algT a, false)] ++ [(nQop, a.qop.data.toList, false)])) := HS9d.out.below hbA
        clear hbA
        go_wp2_with fail
        refine hKK.out _ _ HSA.out.held (fun hHeld => ?_)
        clear hKK K
        try simp only [Act.put, List.setIfInBounds_toArray, List.set_cons_zero, List.set_cons_succ]
        refine wpAnyH_ready (rs := [3]) (by kernel_rfl) (by simp) ?_
        refine AllReadyH.cons (by rfl) (fun K hKK => ?_) AllReadyH.nil
        go_simp
        refine (HSA.out.plain HT nNc (countL m) _ _ rfl rfl (by decide) (Nat.le_trans (countL_len _) (by decide)) (by simp [fiveI])).mono ?_
        rintro e WB ⟨rfl, h1⟩
        have HSB : Hid (DgS w WB a st dv r.user r.pass B (fiveI a r m ++ [(nAlgo, algT a, false)] ++ qopI a m)) := by
          show _
          rw [HQE.out]
          simp only [List.append_assoc, List.cons_append, List.nil_append] at h1 ⊢
          exact h1
        clear h1 HSA HS9 HS9d
        go_wp2_with fail
        refine hKK.out _ _ HSB.out.held (fun hHeld => ?_)
        clear hKK K
        try simp only [Act.put, List.setIfInBounds_toArray, List.set_cons_zero, List.set_cons_succ]
        refine wpAnyH_done (by kernel_rfl) ?_ _
        go_wp2_with fail
        go_meet
        exact HSB
    case rest =>
      have HSC : Hid (DgS w wc a st dv r.user r.pass B (fiveI a r m ++ [(nAlgo, algT a, false)] ++ qopI a m)) := hcut
      clear hcut HS8 c0 c1 c2 c3 c4 c5 c6 c7 d0 d1 q0
      go_upto_region 17 with fail
      go_cut [75] (fun v wc => v = .bool (!(decide (a.qop.data.toList = []) && !a.sess)) ∧ Hid (DgS w wc a st dv r.user r.pass B (fiveI a r m ++ [(nAlgo, algT a, false)] ++ qopI a m)))
      case first =>
        obtain ⟨c0, c1, c2, c3, c4, c5, c6, c7, d0, d1, q0⟩ := HSC.out.held
        by_cases hq : a.qop.data.toList = []
        · have he : (!a.qop.toList.isEmpty) = false := qop_none hq
          obtain ⟨b, hs⟩ : ∃ b, a.sess = b := ⟨_, rfl⟩
          cases b
          · rw [hs] at c4
            go_wp2_with fail
            go_meet
            exact ⟨by simp [he, hq, hs], HSC.out⟩
          · rw [hs] at c4
            go_wp2_with fail
            go_meet
            exact ⟨by simp [he, hq, hs], HSC.out⟩
        · have he : (!a.qop.toList.isEmpty) = true := qop_full hq
          go_wp2_with fail
          go_meet
          exact ⟨by simp [he, hq], HSC.out⟩
      case rest =>
        obtain ⟨rfl, HSD⟩ := hcut
        clear HSC
        go_upto_if 75 with fail
        go_cut [] (fun wc => Hid (DgS w wc a st dv r.user r.pass B (fiveI a r m ++ [(nAlgo, algT a, false)] ++ qopI a m ++ cnI a r)))
        case first =>
          cases hb : (!(decide (a.qop.data.toList = []) && !a.sess))
          · have HQE : Hid (cnI a r = []) := by show _ = _; unfold cnI; rw [if_pos (by simpa using hb)]
            go_wp2
            go_meet
            show DgS w wc a st dv r.user r.pass B (fiveI a r m ++ [(nAlgo, algT a, false)] ++ qopI a m ++ cnI a r)
            rw [HQE.out, List.append_nil]
            exact HSD.out
          · have HQE : Hid (cnI a r = [(nCn, r.cnonce.data.toList, true)]) := by show _ = _; unfold cnI; rw [if_neg (fun h => by rw [h.1, h.2] at hb; simp at hb)]
            go_wp2_with fail
            refine (HSD.out.quote HT nCn r.cnonce.data.toList _ _ rfl (bs_self _).symm (by decide) HZ.out.hzc (qopI_len a r m)).mono ?_
            rintro e WE ⟨rfl, h1⟩
            have HSE : Hid (DgS w WE a st dv r.user r.pass B (fiveI a r m ++ [(nAlgo, algT a, false)] ++ qopI a m ++ cnI a r)) := by show _; rw [HQE.out]; exact h1
            clear h1 HSD
            go_wp2
            go_meet
            exact HSE
        case rest =>
          have HSF : Hid (DgS w wc a st dv r.user r.pass B (fiveI a r m ++ [(nAlgo, algT a, false)] ++ qopI a m ++ cnI a r)) := hcut
          clear hcut HSD
          obtain ⟨c0, c1, c2, c3, c4, c5, c6, c7, d0, d1, q0⟩ := HSF.out.held
          go_upto_if 81 with fail
          go_cut [] (fun wc => Hid (DgS w wc a st dv r.user r.pass B (items a r m)))
          case first =>
            clear c0 c1 c2 c3 c4 c5 c6 c7 d0 d1 q0
            by_cases hq : a.opq.data.toList = []
            · have HQE : Hid (opqI a = []) := by show _ = _; unfold opqI; rw [if_pos hq]
              have he : (!a.opq.toList.isEmpty) = false := qop_none hq
              rw [he]
              go_wp2
              go_meet
              show DgS w wc a st dv r.user r.pass B (items a r m)
              unfold items
              rw [HQE.out, List.append_nil]
              exact HSF.out
            · have HQE : Hid (opqI a = [(nOpq, a.opq.data.toList, true)]) := by show _ = _; unfold opqI; rw [if_neg hq]
              have he : (!a.opq.toList.isEmpty) = true := qop_full hq
              rw [he]
              obtain ⟨c0, c1, c2, c3, c4, c5, c6, c7, d0, d1, q0⟩ := HSF.out.held
              go_wp2_with fail
              refine (HSF.out.quote HT nOpq a.opq.data.toList _ _ rfl (bs_self _).symm (by decide) HZ.out.hzo (cnI_len a r m)).mono ?_
              rintro e WG ⟨rfl, h1⟩
              have HSG : Hid (DgS w WG a st dv r.user r.pass B (items a r m)) := by show _; unfold items; rw [HQE.out]; exact h1
              clear h1 HSF c0 c1 c2 c3 c4 c5 c6 c7 d0 d1 q0
              go_wp2
              go_meet
              exact HSG
          case rest =>
            have HSH : Hid (DgS w wc a st dv r.user r.pass B (items a r m)) := hcut
            clear hcut HSF c0 c1 c2 c3 c4 c5 c6 c7 d0 d1 q0
            cases hok : (items a r m).all itemOk
            · have HE2 : Hid (digO a r (m : Int) = .error 3) := by show _; rw [HE.out, hok]; rfl
              have b0 : wc.cell? ⟨B + 1, 0, none⟩ = some (.iface 28 (.int .i64 3)) := by
                have h := cell_of (i := 0) HSH.out.di.wr
                rw [hok] at h
                exact h
              go_wp2_with fail
              go_quiet (fail)
              go_wp2
              go_ret2
              have hbb := HSH.out.ac.bel
              exact ⟨by rw [HE2.out]; rfl, ⟨hbb.os, hbb.tape, hbb.output, hbb.size, hbb.block⟩⟩
            · have HE2 : Hid (digO a r (m : Int) = .ok (digT (items a r m))) := by show _; rw [HE.out, hok]; rfl
              have b0 : wc.cell? ⟨B + 1, 0, none⟩ = some .nilIface := by
                have h := cell_of (i := 0) HSH.out.di.wr
                rw [hok] at h
                exact h
              obtain ⟨v, hv1, hv2⟩ := HSH.out.di.row
              have v0 : wc.cell? ⟨B, 0, none⟩ = some v := cell_of hv1
              have HJ := joinI_any (items a r m) hok (items_small a r m hf ho) (items_len a r m) _ rfl _ v wc hv2
              obtain ⟨J, HJE⟩ : ∃ J, Hid (bs (Lib.join ((items a r m).map itemT) [44, 32]) = J) := ⟨_, rfl⟩
              have hjz : J.size ≤ 30000 := by rw [← HJE.out]; exact (items_join a r m hf ho).out
              rw [HJE.out] at HJ
              clear hv1 hv2
              go_wp2_with (go_at_call 19; refine HJ.mono ?_; rintro e wj ⟨rfl, hbj⟩; have HBJ : Hid (Below w.heap.size w wj) := HSH.out.ac.bel.trans (hbj.mono HSH.out.ac.bel.size); clear hbj)
              go_ret2
              exact ⟨by rw [HE2.out, ← dig_text, HJE.out]; rfl, HBJ.out⟩
end Go.Proofs.YtgajhmmildbkfaaGreatFmt

/- Who asks, and what is asked for, that came in: opened. -/
namespace Go.Proofs.YtgajhmmildbkfaaGreatFmt
open Go.ChangeShapes Go.WideShapes Go.ChangeAt Go.RowKit Go.Joins

theorem laidOutK : laidOutB Tryz.prog = true := by kernel_rfl
/-- No text of it is longer than a machine can hold. -/
def ReachK {H : Type} (t : TypeId) (d : DataW H) : Prop := ∀ n ∈ d.weights Tryz.prog t, n ≤ 140737488355328
theorem reachK_all {H : Type} {ts : List TypeId} {ds : List (DataW H)} (h : (DataW.weightsEach Tryz.prog ts ds).all (· ≤ reachBytes) = true) {j : Nat} {t : TypeId} {d : DataW H} (ht : ts[j]? = some t) (hd : ds[j]? = some d) : ReachK t d := fun n hn => by
  have h1 := List.all_eq_true.1 h _ (DataW.weights_mem_each ht hd n hn)
  have h2 : n ≤ reachBytes := of_decide_eq_true h1
  have := reachBytes_lt
  have e3 : (2 : Nat) ^ 47 = 140737488355328 := by decide
  omega
theorem array8 {α : Type} {cs : Array α} (h : cs.size = 8) : ∃ c0 c1 c2 c3 c4 c5 c6 c7, cs = #[c0, c1, c2, c3, c4, c5, c6, c7] := by
  obtain ⟨l⟩ := cs
  match l, h with
  | [c0, c1, c2, c3, c4, c5, c6, c7], _ => exact ⟨c0, c1, c2, c3, c4, c5, c6, c7, rfl⟩
theorem list8 {α : Type} {l : List α} (h : l.length = 8) : ∃ c0 c1 c2 c3 c4 c5 c6 c7, l = [c0, c1, c2, c3, c4, c5, c6, c7] := by
  match l, h with
  | [c0, c1, c2, c3, c4, c5, c6, c7], _ => exact ⟨c0, c1, c2, c3, c4, c5, c6, c7, rfl⟩
/-- No text is longer than a machine can hold. -/
def CredZ (u p : ByteArray) : Prop := u.size ≤ 140737488355328 ∧ p.size ≤ 140737488355328
def AskZ (a : PfA) : Prop := a.realm.size ≤ 140737488355328 ∧ a.nonce.size ≤ 140737488355328 ∧ a.opq.size ≤ 140737488355328 ∧ a.qop.size ≤ 140737488355328
section
variable {H : Type} {enc : TypeId × Value → H} {W : World}
set_option maxRecDepth 100000 in
theorem open_creds {b0 : Nat} {v : Value} {d : DataW H} {p : List MemPlace} (hv : Value.okWide Tryz.prog W .any b0 26 v) (h : DataW.Trod enc Tryz.prog W 0 (fun _ => true) true 26 v d p) :
    ∃ x y : ByteArray, v = .agg #[.string x, .string y] ∧ (ReachK 26 d → CredZ x y) := by
  obtain ⟨c0, c1, y0, y1, m, rfl, rfl, rfl, g0, g1⟩ := open_agg2 Tryz.underlying26 (by kernel_rfl) (by kernel_rfl) hv h
  obtain ⟨s0, e0, rfl, _⟩ := DataW.trod_string Tryz.underlying9 g0
  obtain ⟨s1, e1, rfl, _⟩ := DataW.trod_string Tryz.underlying9 g1
  simp only [List.cons.injEq, and_true] at e0 e1
  subst e0 e1
  refine ⟨s0, s1, rfl, fun hw => ?_⟩
  have w0 := hw s0.data.toList.length (by simp [DataW.weights, DataW.weightsEach, Tryz.underlying26])
  have w1 := hw s1.data.toList.length (by simp [DataW.weights, DataW.weightsEach, Tryz.underlying26])
  rw [Array.length_toList] at w0 w1
  exact ⟨w0, w1⟩
end
end Go.Proofs.YtgajhmmildbkfaaGreatFmt

/- What is asked for, that came in: opened. -/
namespace Go.Proofs.YtgajhmmildbkfaaGreatFmt
open Go.ChangeShapes Go.WideShapes Go.ChangeAt Go.RowKit Go.Joins Go.Deep

theorem one_field {H : Type} {enc : TypeId × Value → H} {W : World} {n : Nat} {f : Field} {cs : List Value} {i : Nat} {c : Value} {y : Option (DataW H × List MemPlace)} (ho : f.offset = i ∧ Tryz.prog.cellsOf f.type = 1) (hc : (cs.drop i).take 1 = [c])
    (h : DataW.trod enc Tryz.prog W 0 (fun _ => true) true n f.type ((cs.drop f.offset).take (Tryz.prog.cellsOf f.type)) = y) : DataW.trod enc Tryz.prog W 0 (fun _ => true) true n f.type [c] = y := by
  rw [ho.1, ho.2, hc] at h
  exact h
section
variable {H : Type} {enc : TypeId × Value → H} {W : World}
set_option maxRecDepth 100000 in
set_option maxHeartbeats 1000000 in
theorem open_ask8 {f0 f1 f2 f3 f4 f5 f6 f7 : Field} {t : TypeId} (hs : Tryz.prog.underlying t = some (.struct #[f0, f1, f2, f3, f4, f5, f6, f7])) (hone : oneCellFields Tryz.prog #[f0, f1, f2, f3, f4, f5, f6, f7] = true) (hC : Tryz.prog.cellsOf t = 8)
    {b0 : Nat} {v : Value} {d : DataW H} {p : List MemPlace} (hv : Value.okWide Tryz.prog W .any b0 t v) (h : DataW.Trod enc Tryz.prog W 0 (fun _ => true) true t v d p) :
    ∃ (c0 c1 c2 c3 c4 c5 c6 c7 : Value) (y0 y1 y2 y3 y4 y5 y6 y7 : DataW H × List MemPlace) (n : Nat), v = .agg #[c0, c1, c2, c3, c4, c5, c6, c7] ∧ d = .agg [y0.1, y1.1, y2.1, y3.1, y4.1, y5.1, y6.1, y7.1] ∧
      DataW.trod enc Tryz.prog W 0 (fun _ => true) true n f0.type [c0] = some y0 ∧ DataW.trod enc Tryz.prog W 0 (fun _ => true) true n f1.type [c1] = some y1 ∧ DataW.trod enc Tryz.prog W 0 (fun _ => true) true n f2.type [c2] = some y2 ∧ DataW.trod enc Tryz.prog W 0 (fun _ => true) true n f3.type [c3] = some y3 ∧
      DataW.trod enc Tryz.prog W 0 (fun _ => true) true n f4.type [c4] = some y4 ∧ DataW.trod enc Tryz.prog W 0 (fun _ => true) true n f5.type [c5] = some y5 ∧ DataW.trod enc Tryz.prog W 0 (fun _ => true) true n f6.type [c6] = some y6 ∧ DataW.trod enc Tryz.prog W 0 (fun _ => true) true n f7.type [c7] = some y7 := by
  obtain ⟨cs, rfl, hsz⟩ := okWide_struct hs hv
  obtain ⟨c0, c1, c2, c3, c4, c5, c6, c7, rfl⟩ := array8 (hsz.trans hC)
  obtain ⟨fuel, hf⟩ := h
  obtain ⟨xs, n, _, hx, _, hlen, hff⟩ := DataW.trod_struct hs hf
  obtain ⟨y0, y1, y2, y3, y4, y5, y6, y7, rfl⟩ := list8 (hlen.trans rfl)
  simp only [Prod.mk.injEq] at hx
  have o := hone_of hone
  exact ⟨c0, c1, c2, c3, c4, c5, c6, c7, y0, y1, y2, y3, y4, y5, y6, y7, n, rfl, hx.1, one_field (o 0 f0 rfl) rfl (hff 0 f0 rfl), one_field (o 1 f1 rfl) rfl (hff 1 f1 rfl), one_field (o 2 f2 rfl) rfl (hff 2 f2 rfl), one_field (o 3 f3 rfl) rfl (hff 3 f3 rfl),
    one_field (o 4 f4 rfl) rfl (hff 4 f4 rfl), one_field (o 5 f5 rfl) rfl (hff 5 f5 rfl), one_field (o 6 f6 rfl) rfl (hff 6 f6 rfl), one_field (o 7 f7 rfl) rfl (hff 7 f7 rfl)⟩
set_option maxRecDepth 100000 in
set_option maxHeartbeats 1000000 in
theorem open_ask {b0 : Nat} {v : Value} {d : DataW H} {p : List MemPlace} (hv : Value.okWide Tryz.prog W .any b0 24 v) (h : DataW.Trod enc Tryz.prog W 0 (fun _ => true) true 24 v d p) :
    ∃ (a : PfA) (st : Bool) (dv : Value), v = .agg #[.int .i64 a.scheme, .string a.realm, .string a.nonce, .string a.opq, .bool a.sess, .string a.qop, .bool st, dv] ∧ (ReachK 24 d → AskZ a) := by
  obtain ⟨c0, c1, c2, c3, c4, c5, c6, c7, y0, y1, y2, y3, y4, y5, y6, y7, n, rfl, rfl, g0, g1, g2, g3, g4, g5, g6, g7⟩ := open_ask8 Tryz.underlying24 (by kernel_rfl) (by kernel_rfl) hv h
  obtain ⟨s0, e0, rfl, _⟩ := DataW.trod_int Tryz.underlying3 g0
  obtain ⟨s1, e1, rfl, _⟩ := DataW.trod_string Tryz.underlying9 g1
  obtain ⟨s2, e2, rfl, _⟩ := DataW.trod_string Tryz.underlying9 g2
  obtain ⟨s3, e3, rfl, _⟩ := DataW.trod_string Tryz.underlying9 g3
  obtain ⟨s4, e4, rfl⟩ := DataW.trod_bool Tryz.underlying4 g4
  obtain ⟨s5, e5, rfl, _⟩ := DataW.trod_string Tryz.underlying9 g5
  obtain ⟨s6, e6, rfl⟩ := DataW.trod_bool Tryz.underlying4 g6
  simp only [List.cons.injEq, and_true] at e0 e1 e2 e3 e4 e5 e6
  subst e0 e1 e2 e3 e4 e5 e6
  refine ⟨⟨s0, s1, s2, s3, s4, s5⟩, s6, c7, rfl, fun hw => ?_⟩
  have w1 := hw s1.data.toList.length (by simp [DataW.weights, DataW.weightsEach, Tryz.underlying24])
  have w2 := hw s2.data.toList.length (by simp [DataW.weights, DataW.weightsEach, Tryz.underlying24])
  have w3 := hw s3.data.toList.length (by simp [DataW.weights, DataW.weightsEach, Tryz.underlying24])
  have w5 := hw s5.data.toList.length (by simp [DataW.weights, DataW.weightsEach, Tryz.underlying24])
  rw [Array.length_toList] at w1 w2 w3 w5
  exact ⟨w1, w2, w3, w5⟩
end
end Go.Proofs.YtgajhmmildbkfaaGreatFmt

/- Whether texts are too long to be held; what the boxes of an ask and of credentials hold. -/
namespace Go.Proofs.YtgajhmmildbkfaaGreatFmt
open Go.RowKit
open Go.Extern.Stop Go.Stop Go.Extern

/-- Too long to be held. -/
def longB (a : PfA) (u p m t b c : ByteArray) : Bool := decide (500 < a.realm.size + a.nonce.size + a.opq.size + a.qop.size + u.size + p.size + m.size + t.size + b.size + c.size)
set_option maxRecDepth 100000 in
set_option maxHeartbeats 2000000 in
theorem long_any (a : PfA) (st : Bool) (dv : Value) (za : AskZ a) (u p : ByteArray) (zc : CredZ u p) (m t b c : ByteArray) (zm : m.size ≤ 140737488355328) (zt : t.size ≤ 140737488355328) (zb : b.size ≤ 140737488355328) (zn : c.size ≤ 140737488355328) (w : World) :
    Calls Tryz.prog 4 #[.agg #[.int .i64 a.scheme, .string a.realm, .string a.nonce, .string a.opq, .bool a.sess, .string a.qop, .bool st, dv], .agg #[.string u, .string p], .string m, .string t, .string b, .string c] w fun e w' => e = .returned (.bool (longB a u p m t b c)) ∧ Below w.heap.size w w' := by
  obtain ⟨z1, z2, z3, z4⟩ := za
  obtain ⟨z5, z6⟩ := zc
  have hb1 : Below w.heap.size w ((w.alloc (.cells #[.int .i64 a.scheme, .string a.realm, .string a.nonce, .string a.opq, .bool a.sess, .string a.qop, .bool st, dv] 24)).alloc (.cells #[.string u, .string p] 26)) := ((Below.refl _ _).alloc (Nat.le_refl _) _).alloc (by simp) _
  have HN : Hid (decide ((500 : Int) < (a.realm.size : Int) + a.nonce.size + a.opq.size + a.qop.size + u.size + p.size + m.size + t.size + b.size + c.size) = longB a u p m t b c) := by
    show _ = _
    unfold longB
    rw [decide_eq_decide]
    omega
  go_enter Tryz.func4, Tryz.ntmps4
  go_wp2
  go_ret
  exact ⟨by rw [← HN.out]; rfl, hb1⟩
theorem AcK.held {w W : World} {a : PfA} {st : Bool} {dv : Value} {u p : ByteArray} (h : AcK w W a st dv u p) : W.cell? ⟨w.heap.size, 0, none⟩ = some (.int .i64 a.scheme) ∧ W.cell? ⟨w.heap.size, 1, none⟩ = some (.string a.realm) ∧ W.cell? ⟨w.heap.size, 2, none⟩ = some (.string a.nonce) ∧ W.cell? ⟨w.heap.size, 3, none⟩ = some (.string a.opq) ∧ W.cell? ⟨w.heap.size, 4, none⟩ = some (.bool a.sess) ∧ W.cell? ⟨w.heap.size, 5, none⟩ = some (.string a.qop) ∧ W.cell? ⟨w.heap.size, 6, none⟩ = some (.bool st) ∧ W.cell? ⟨w.heap.size, 7, none⟩ = some dv ∧ W.cell? ⟨w.heap.size + 1, 0, none⟩ = some (.string u) ∧ W.cell? ⟨w.heap.size + 1, 1, none⟩ = some (.string p) ∧ Hid (AcK w W a st dv u p) := ⟨h.c0, h.c1, h.c2, h.c3, h.c4, h.c5, h.c6, h.c7, h.d0, h.d1, h⟩
end Go.Proofs.YtgajhmmildbkfaaGreatFmt

/- A text between marks, by the document's own answer. -/
namespace Go.Proofs.YtgajhmmildbkfaaGreatFmt
open Go.RowKit

theorem refText_any (c : UInt8) (w : World) : Calls Tryz.prog 22 #[.int .u8 (c.toNat : Int)] w fun e w' => e = .returned (.bool (textB c)) ∧ w' = w := by
  by_cases h : (c.toNat : Int) = 9
  · rw [textB_9 c h]
    go_enter Tryz.func22, Tryz.ntmps22
    go_wp2
    go_ret
    exact ⟨rfl, rfl⟩
  · by_cases h2 : (31 : Int) < (c.toNat : Int)
    · by_cases h3 : (c.toNat : Int) = 127
      · rw [textB_127 c h3]
        go_enter Tryz.func22, Tryz.ntmps22
        go_wp2
        go_ret
        exact ⟨rfl, rfl⟩
      · rw [textB_yes c (by omega) h3]
        go_enter Tryz.func22, Tryz.ntmps22
        go_wp2
        go_ret
        exact ⟨ret_bool (by rw [bne_iff_ne.2 h3]; simp), rfl⟩
    · rw [textB_low c h (by omega)]
      go_enter Tryz.func22, Tryz.ntmps22
      go_wp2
      go_ret
      exact ⟨ret_bool (beq_eq_false_iff_ne.2 h), rfl⟩
theorem quoteO_part (s : ByteArray) (k : Nat) (hk : k < s.size) (c : UInt8) (e : s[k] = c) (hc : textB c = false) : quoteO s.data.toList = none := by
  unfold quoteO
  rw [if_neg]
  intro h
  have := List.all_eq_true.1 h c (by rw [← e]; exact List.getElem_mem (l := s.data.toList) (by simpa using hk))
  rw [hc] at this
  cases this
set_option maxHeartbeats 1000000 in
/-- Its answer: the text and OK, or nothing and ErrForm. -/
theorem refQuote_any (s : ByteArray) (hs : s.size ≤ 3000) (w : World) :
    Calls Tryz.prog 10 #[.string s] w fun e w' => w' = w ∧ ((e = .returned (.tuple #[.string (bs (quoteL s.data.toList)), .int .i64 0]) ∧ quoteO s.data.toList = some (quoteL s.data.toList)) ∨ (e = .returned (.tuple #[.string ⟨#[]⟩, .int .i64 3]) ∧ quoteO s.data.toList = none)) := by
  go_enter Tryz.func10, Tryz.ntmps10
  go_wp2
  go_loop [4, 8] (fun v i => ∃ (k : Nat) (o : ByteArray), k ≤ s.size ∧ i = .int .i64 k ∧ v = .string o ∧ o.size ≤ 2 * k ∧ Hid (o = bs (escL (s.data.toList.take k))) ∧ Hid ((s.data.toList.take k).all textB = true)) (fun _ i => s.size - (intOf i).toNat)
  case atStart => exact ⟨0, _, Nat.zero_le _, rfl, rfl, Nat.le_refl _, rfl, rfl⟩
  case round =>
    obtain ⟨k, o, hk, rfl, rfl, ho, HO, HK⟩ := hrel
    by_cases hlt : k < s.size
    · obtain ⟨c, hcd⟩ : ∃ c : UInt8, s[k] = c := ⟨_, rfl⟩
      have hcl : (c.toNat : Int) < 256 := by have := c.toNat_lt; omega
      cases hf : textB c
      · have HR : Hid (quoteO s.data.toList = none) := quoteO_part s k hlt c hcd hf
        go_wp2_with (go_at_call 22; refine (refText_any c _).mono ?_; rintro e w' ⟨rfl, rfl⟩; rw [hf])
        go_ret2
        exact ⟨rfl, .inr ⟨rfl, HR⟩⟩
      · have HS : Hid ((s.data.toList.take (k + 1)).all textB = true) := all_snoc textB s k hlt c hcd HK hf
        have HT : Hid (s.data.toList.take (k + 1) = s.data.toList.take k ++ [c]) := by rw [← hcd]; exact take_snoc s k hlt
        have HX : Hid (s.extract k (k + 1) = bs [c]) := by
          show _ = _
          apply ByteArray.ext
          apply Array.toList_inj.1
          rw [ByteArray.data_extract, Array.toList_extract, List.extract_eq_take_drop, Nat.add_sub_cancel_left, List.drop_eq_getElem_cons (by simpa using hlt), List.take_succ_cons, List.take_zero]
          show [s[k]] = [c]
          rw [hcd]
        have hxz : (s.extract k (k + 1)).size = 1 := by rw [HX.out]; rfl
        by_cases hq : c = 34 ∨ c = 92
        · have HE : Hid (bs (escL (s.data.toList.take (k + 1))) = o ++ bs [92] ++ bs [c]) := by show _ = _; rw [HT.out, escL_two _ _ hq, bs_append, bs_append, HO.out]
          have hqi : (((c.toNat : Int) == 34) = true) ∨ (((c.toNat : Int) == 34) = false ∧ ((c.toNat : Int) == 92) = true) := by
            rcases hq with rfl | rfl
            · exact .inl rfl
            · exact .inr ⟨rfl, rfl⟩
          clear hq
          rcases hqi with hqi | ⟨hqi, hqj⟩
          all_goals
            go_wp2_with (go_at_call 22; refine (refText_any c _).mono ?_; rintro e w' ⟨rfl, rfl⟩; rw [hf])
            go_round
            case rel => exact ⟨k + 1, o ++ ⟨#[92]⟩ ++ s.extract k (k + 1), by omega, by go_num, rfl, by rw [ByteArray.size_append, ByteArray.size_append, hxz]; have : (⟨#[92]⟩ : ByteArray).size = 1 := rfl; omega, by show _ = _; rw [HE.out, HX.out]; rfl, HS⟩
            case measure => simp [intOf]; omega
        · have HE : Hid (bs (escL (s.data.toList.take (k + 1))) = o ++ bs [c]) := by show _ = _; rw [HT.out, escL_one _ _ hq, bs_append, HO.out]
          have h34 : ((c.toNat : Int) == 34) = false := beq_eq_false_iff_ne.2 fun h => hq (.inl ((u8_is (n := 34) (by omega)).1 h))
          have h92 : ((c.toNat : Int) == 92) = false := beq_eq_false_iff_ne.2 fun h => hq (.inr ((u8_is (n := 92) (by omega)).1 h))
          clear hq
          go_wp2_with (go_at_call 22; refine (refText_any c _).mono ?_; rintro e w' ⟨rfl, rfl⟩; rw [hf])
          go_round
          case rel => exact ⟨k + 1, o ++ s.extract k (k + 1), by omega, by go_num, rfl, by rw [ByteArray.size_append, hxz]; omega, by show _ = _; rw [HE.out, HX.out], HS⟩
          case measure => simp [intOf]; omega
    · have HR : Hid (quoteO s.data.toList = some (quoteL s.data.toList)) := by
        show _ = _
        have h1 := HK.out
        rw [List.take_of_length_le (by simp; omega)] at h1
        unfold quoteO
        rw [if_pos h1]
      have HE : Hid (bs (quoteL s.data.toList) = bs [34] ++ o ++ bs [34]) := by
        show _ = _
        rw [HO.out, List.take_of_length_le (by simp; omega), ← bs_append, ← bs_append]
        rfl
      go_wp2
      go_ret2
      exact ⟨rfl, .inl ⟨by rw [HE.out]; rfl, HR⟩⟩
end Go.Proofs.YtgajhmmildbkfaaGreatFmt

/- What a challenge is. -/
namespace Go.Proofs.YtgajhmmildbkfaaGreatFmt

abbrev Par := ByteArray × ByteArray
structure Chal where
  scheme : ByteArray
  token : ByteArray
  params : List Par
end Go.Proofs.YtgajhmmildbkfaaGreatFmt

/- Rows of parameters that lie somewhere. -/
namespace Go.Proofs.YtgajhmmildbkfaaGreatFmt
open Go.RowKit

/-- A row of parameters that lies somewhere. -/
structure Pars (w : World) (a0 : Option Addr) (len b off : Nat) (ps : List Par) : Prop where
  len_eq : ps.length = len
  lies : 0 < len → a0 = some ⟨b, off, none⟩ ∧ b < w.heap.size
  one : ∀ (j : Nat) (p : Par), ps[j]? = some p → w.cell? ⟨b, off + j * 2, none⟩ = some (.string p.1)
  two : ∀ (j : Nat) (p : Par), ps[j]? = some p → w.cell? ⟨b, off + j * 2 + 1, none⟩ = some (.string p.2)
theorem Pars.grown {w w' : World} {a0 : Option Addr} {len b off : Nat} {ps : List Par} {row : Option Nat} (h : Pars w a0 len b off ps) (hg : w.grownBy w' row) (hr : 0 < len → some b ≠ row) : Pars w' a0 len b off ps := by
  have hpos : ∀ (j : Nat) (p : Par), ps[j]? = some p → 0 < len := fun j p hp => by
    have := (List.getElem?_eq_some_iff.1 hp).1
    have := h.len_eq
    omega
  exact ⟨h.len_eq, fun h0 => ⟨(h.lies h0).1, Nat.lt_of_lt_of_le (h.lies h0).2 hg.size⟩, fun j p hp => hg.cell (h.one j p hp) (hr (hpos j p hp)), fun j p hp => hg.cell (h.two j p hp) (hr (hpos j p hp))⟩
theorem Pars.below {w w' : World} {a0 : Option Addr} {len b off : Nat} {ps : List Par} (h : Pars w a0 len b off ps) (hb : Below w.heap.size w w') : Pars w' a0 len b off ps :=
  h.grown (row := none) ⟨hb.os, hb.tape, hb.output, hb.size, fun i hi _ => hb.block i hi⟩ (fun _ => by simp)
theorem Pars.belowB {w w' : World} {a0 : Option Addr} {len b off : Nat} {ps : List Par} {B : Nat} (h : Pars w a0 len b off ps) (hb : Below B w w') (hB : 0 < len → b < B) : Pars w' a0 len b off ps := by
  have hpos : ∀ (j : Nat) (p : Par), ps[j]? = some p → b < B := fun j p hp => by
    have := (List.getElem?_eq_some_iff.1 hp).1
    have := h.len_eq
    exact hB (by omega)
  exact ⟨h.len_eq, fun h0 => ⟨(h.lies h0).1, Nat.lt_of_lt_of_le (h.lies h0).2 hb.size⟩, fun j p hp => (hb.cell (p := ⟨b, off + j * 2, none⟩) (hpos j p hp)).trans (h.one j p hp), fun j p hp => (hb.cell (p := ⟨b, off + j * 2 + 1, none⟩) (hpos j p hp)).trans (h.two j p hp)⟩
end Go.Proofs.YtgajhmmildbkfaaGreatFmt

/- Whether a number lies between two, by the document's own answer. -/
namespace Go.Proofs.YtgajhmmildbkfaaGreatFmt
open Go.RowKit

set_option maxHeartbeats 400000 in
theorem within_any (n a b : Int) (w : World) :
    Calls Tryz.prog 8 #[.int .i64 n, .int .i64 a, .int .i64 b] w fun e w' => e = .returned (.bool (decide (a ≤ n ∧ n ≤ b))) ∧ w' = w := by
  by_cases h : a ≤ n
  · by_cases h2 : n ≤ b
    · go_enter Tryz.func8, Tryz.ntmps8
      go_wp2
      go_ret
      simp [h, h2]
    · go_enter Tryz.func8, Tryz.ntmps8
      go_wp2
      go_ret
      simp [h2]
  · go_enter Tryz.func8, Tryz.ntmps8
    go_wp2
    go_ret
    simp; omega

theorem within_yes (n a b : Int) (h : a ≤ n) (h2 : n ≤ b) (w : World) : Calls Tryz.prog 8 #[.int .i64 n, .int .i64 a, .int .i64 b] w fun e w' => e = .returned (.bool true) ∧ w' = w := by
  refine (within_any n a b w).mono ?_
  rintro e w' ⟨rfl, rfl⟩
  simp [h, h2]
theorem within_no (n a b : Int) (h : ¬ (a ≤ n ∧ n ≤ b)) (w : World) : Calls Tryz.prog 8 #[.int .i64 n, .int .i64 a, .int .i64 b] w fun e w' => e = .returned (.bool false) ∧ w' = w := by
  refine (within_any n a b w).mono ?_
  rintro e w' ⟨rfl, rfl⟩
  rw [decide_eq_false h]
  exact ⟨rfl, rfl⟩
end Go.Proofs.YtgajhmmildbkfaaGreatFmt

/- The header that proves a request, by the document. -/
namespace Go.Proofs.YtgajhmmildbkfaaGreatFmt
open Go.RowKit Go.Maps
open Go.Extern.Stop Go.Stop Go.Extern
set_option linter.unusedVariables false
set_option linter.unusedSimpArgs false

def refV : Except Nat (List UInt8) → Value
  | .ok l => .tuple #[.string (bs l), .int .i64 0]
  | .error k => .tuple #[.string ⟨#[]⟩, .int .i64 (k : Int)]
def psI (l : List Item) : List Par := l.map fun x => (bs x.1, bs x.2.1)
theorem prv_form (a : PfA) (n : Int) (q0 q1 q2 : Bool) (e3 : a.qop.toList.isEmpty = q0) (e4 : (a.qop.toList == [97, 117, 116, 104]) = q1) (e5 : (a.qop.toList == [97, 117, 116, 104, 45, 105, 110, 116]) = q2) :
    prvO a n = if (2 ≤ a.scheme ∧ a.scheme ≤ 3) ∧ (q0 || q1 || q2) = true then (if n < 1 ∨ 4294967295 < n then some 2 else none) else some 1 := by
  unfold prvO qAuth qInt
  rw [ByteArray.toList_eq] at e3 e4 e5
  subst e3 e4 e5
  have hs : (a.scheme = 2 ∨ a.scheme = 3) ↔ (2 ≤ a.scheme ∧ a.scheme ≤ 3) := by omega
  simp only [← hs]
  generalize a.qop.data.toList = Q
  by_cases h2 : a.scheme = 2 ∨ a.scheme = 3 <;> by_cases k0 : Q = [] <;> by_cases k1 : Q = [97, 117, 116, 104] <;> by_cases k2 : Q = [97, 117, 116, 104, 45, 105, 110, 116] <;> simp [h2, k0, k1, k2]
theorem q_three {q0 q1 q2 : Bool} (h : (q0 || q1 || q2) = true) : q0 = true ∨ (q0 = false ∧ q1 = true) ∨ (q0 = false ∧ q1 = false ∧ q2 = true) := by
  cases q0 <;> cases q1 <;> cases q2 <;> simp_all
theorem five_pars (W : World) (T : TypeId) (p0 p1 p2 p3 p4 : Par) : Pars (W.alloc (.cells #[.string p0.1, .string p0.2, .string p1.1, .string p1.2, .string p2.1, .string p2.2, .string p3.1, .string p3.2, .string p4.1, .string p4.2] T)) (some ⟨W.heap.size, 0, none⟩) 5 W.heap.size 0 [p0, p1, p2, p3, p4] := by
  refine ⟨rfl, fun _ => ⟨rfl, by simp⟩, ?_, ?_⟩
  · intro j p hj
    rw [World.cell?_alloc_mark]
    match j, hj with
    | 0, h => cases h; rfl
    | 1, h => cases h; rfl
    | 2, h => cases h; rfl
    | 3, h => cases h; rfl
    | 4, h => cases h; rfl
    | j + 5, h => simp at h
  · intro j p hj
    rw [World.cell?_alloc_mark]
    match j, hj with
    | 0, h => cases h; rfl
    | 1, h => cases h; rfl
    | 2, h => cases h; rfl
    | 3, h => cases h; rfl
    | 4, h => cases h; rfl
    | j + 5, h => simp at h
/-- The name of what sums, ahead of '-sess'. -/
def nmO (s : Int) : List UInt8 := if s = 3 then aSha else aMd5
theorem zeroS (w : World) : (zeroValue 9).run Tryz.prog w = .ok (.string ⟨#[]⟩) w := by kernel_rfl
theorem name_at (s : Int) (h : s = 2 ∨ s = 3) : (((DataW.map [] : DataW Unit).put (.int .i64 2) (.lit (.string aMd5))).put (.int .i64 3) (.lit (.string aSha))).atKey (.int .i64 s) (.lit (.string [])) = .lit (.string (nmO s)) := by
  rcases h with rfl | rfl <;> rfl

set_option maxRecDepth 100000 in
set_option maxHeartbeats 4000000 in
theorem refDig_no (a : PfA) (r : PfR) (st : Bool) (dv : Value) (n : Int) (k : Nat) (hpv : prvO a n = some k) (w : World) (HT : Hid (Tabs w)) :
    Calls Tryz.prog 5 #[.agg #[.int .i64 a.scheme, .string a.realm, .string a.nonce, .string a.opq, .bool a.sess, .string a.qop, .bool st, dv], .agg #[.string r.user, .string r.pass], .string r.method, .string r.target, .string r.body, .string r.cnonce, .int .i64 n] w fun e w' => e = .returned (.tuple #[.string ⟨#[]⟩, .int .i64 (k : Int)]) ∧ Below w.heap.size w w' := by
  have HK0 : Hid (AcK w ((w.alloc (.cells #[.int .i64 a.scheme, .string a.realm, .string a.nonce, .string a.opq, .bool a.sess, .string a.qop, .bool st, dv] 24)).alloc (.cells #[.string r.user, .string r.pass] 26)) a st dv r.user r.pass) := acK_start w a st dv r.user r.pass HT
  obtain ⟨c0, c1, c2, c3, c4, c5, c6, c7, d0, d1, _, _, _⟩ := HK0.out
  obtain ⟨q0, e3⟩ : ∃ b, a.qop.toList.isEmpty = b := ⟨_, rfl⟩
  obtain ⟨q1, e4⟩ : ∃ b, (a.qop.toList == [97, 117, 116, 104]) = b := ⟨_, rfl⟩
  obtain ⟨q2, e5⟩ : ∃ b, (a.qop.toList == [97, 117, 116, 104, 45, 105, 110, 116]) = b := ⟨_, rfl⟩
  have hE := prv_form a n q0 q1 q2 e3 e4 e5
  by_cases hs : 2 ≤ a.scheme ∧ a.scheme ≤ 3
  · by_cases hq : (q0 || q1 || q2) = true
    · rw [if_pos ⟨hs, hq⟩, hpv] at hE
      by_cases hn : n < 1 ∨ 4294967295 < n
      · rw [if_pos hn] at hE
        injection hE with hE
        subst hE
        have h1 := fun w => within_yes a.scheme 2 3 hs.1 hs.2 w
        have h2 := fun w => within_no n 1 4294967295 (by omega) w
        clear hs hn hpv
        rcases q_three hq with h | ⟨h, h'⟩ | ⟨h, h', h''⟩
        all_goals
          subst_vars
          go_enter Tryz.func5, Tryz.ntmps5
          go_wp2_with fail
          refine (h1 _).mono ?_
          rintro e w1 ⟨rfl, rfl⟩
          go_wp2_with fail
          refine (h2 _).mono ?_
          rintro e w2 ⟨rfl, rfl⟩
          go_wp2
          go_ret2
          exact ⟨rfl, HK0.out.bel⟩
      · rw [if_neg hn] at hE
        cases hE
    · rw [if_neg (fun h => hq h.2), hpv] at hE
      injection hE with hE
      subst hE
      cases q0
      · cases q1
        · cases q2
          · go_enter Tryz.func5, Tryz.ntmps5
            go_wp2_with fail
            refine (within_yes a.scheme 2 3 hs.1 hs.2 _).mono ?_
            rintro e w1 ⟨rfl, rfl⟩
            go_wp2
            go_ret2
            exact ⟨rfl, HK0.out.bel⟩
          · exact absurd rfl hq
        · exact absurd rfl hq
      · exact absurd rfl hq
  · rw [if_neg (fun h => hs h.1), hpv] at hE
    injection hE with hE
    subst hE
    go_enter Tryz.func5, Tryz.ntmps5
    go_wp2_with fail
    refine (within_no a.scheme 2 3 hs _).mono ?_
    rintro e w1 ⟨rfl, rfl⟩
    go_wp2
    go_ret2
    exact ⟨rfl, HK0.out.bel⟩
end Go.Proofs.YtgajhmmildbkfaaGreatFmt

/- A count, by the document. -/
namespace Go.Proofs.YtgajhmmildbkfaaGreatFmt
open Go.RowKit

set_option maxRecDepth 100000 in
set_option maxHeartbeats 1000000 in
theorem refCount_any (n : Nat) (hn : n < 9223372036854775808) (w : World) (HD : Hid (Bruijn w)) :
    Calls Tryz.prog 11 #[.int .i64 (n : Int)] w fun e w' => e = .returned (.string (bs (countL n))) ∧ Below w.heap.size w w' := by
  have hl := hexD_len n
  have hf := fmt16_any n hn
  go_enter Tryz.func11, Tryz.ntmps11
  go_wp2_with fail
  refine (hf _ HD).mono ?_
  rintro e w1 ⟨rfl, hb1⟩
  go_wp2
  go_loopw [3] (fun s wr => ∃ (j z : Nat) (H : ByteArray), s = .string H ∧ H.size = z ∧ z = j + (hexD n).length ∧ (j = 0 ∨ z ≤ 8) ∧ Hid (H = bs (List.replicate j 48 ++ hexD n) ∧ Below w.heap.size w wr)) (fun s _ => 8 - (match s with | .string H => H.size | _ => 0))
  case atStart => exact ⟨0, _, _, rfl, rfl, by rw [bs_size]; omega, .inl rfl, ⟨rfl, hb1⟩⟩
  case round =>
    obtain ⟨j, z, H, rfl, hz, hzj, hj, HI⟩ := hrel
    by_cases h8 : z < 8
    · have hi : (z : Int) < 8 := by omega
      go_wp2
      go_roundw
      case rel =>
        refine ⟨j + 1, z + 1, _, rfl, ?_, by omega, .inr (by omega), ⟨?_, HI.out.2⟩⟩
        · rw [ByteArray.size_append, hz]; show 1 + z = z + 1; omega
        · rw [HI.out.1, List.replicate_succ, List.cons_append, show (48 :: (List.replicate j 48 ++ hexD n) : List UInt8) = [48] ++ (List.replicate j 48 ++ hexD n) from rfl, bs_append]; rfl
      case measure =>
        show 8 - ((⟨#[48]⟩ : ByteArray) ++ H).size < 8 - H.size
        rw [ByteArray.size_append, hz]
        show 8 - (1 + z) < 8 - z
        omega
    · have hi : ¬ (z : Int) < 8 := by omega
      have HB := HI.out.2
      have HE : Hid (H = bs (countL n)) := by
        show H = _
        rw [HI.out.1]
        unfold countL
        congr 3
        omega
      go_wp2
      go_ret
      exact ⟨by rw [← HE.out]; rfl, HI.out.2⟩
end Go.Proofs.YtgajhmmildbkfaaGreatFmt
