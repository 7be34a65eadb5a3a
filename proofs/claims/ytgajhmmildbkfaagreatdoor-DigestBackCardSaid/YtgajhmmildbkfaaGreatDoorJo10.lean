/- Texts of one claim, joined: each begins with what it proves. -/
import Derived.Test.YtgajhmmildbkfaaGreatDoorJo4
import Derived.Test.YtgajhmmildbkfaaGreatDoorJo1
import Derived.Test.YtgajhmmildbkfaaGreatDoorJo9
import Derived.Test.YtgajhmmildbkfaaGreatDoorJo2
import Derived.Maps.RangeWalk
import Derived.StringKeys
import Derived.Maps.Views
import Derived.Maps.StringElems
import Derived.Lib.LaidU8
/- What the boxes of an ask and of credentials hold, cell by cell. -/
namespace Go.Proofs.YtgajhmmildbkfaaGreatDoor
open Go.RowKit

theorem AcK.held {w W : World} {a : PfA} {st : Bool} {dv : Value} {u p : ByteArray} (h : AcK w W a st dv u p) : W.cell? ⟨w.heap.size, 0, none⟩ = some (.int .i64 a.scheme) ∧ W.cell? ⟨w.heap.size, 1, none⟩ = some (.string a.realm) ∧ W.cell? ⟨w.heap.size, 2, none⟩ = some (.string a.nonce) ∧ W.cell? ⟨w.heap.size, 3, none⟩ = some (.string a.opq) ∧ W.cell? ⟨w.heap.size, 4, none⟩ = some (.bool a.sess) ∧ W.cell? ⟨w.heap.size, 5, none⟩ = some (.string a.qop) ∧ W.cell? ⟨w.heap.size, 6, none⟩ = some (.bool st) ∧ W.cell? ⟨w.heap.size, 7, none⟩ = some dv ∧ W.cell? ⟨w.heap.size + 1, 0, none⟩ = some (.string u) ∧ W.cell? ⟨w.heap.size + 1, 1, none⟩ = some (.string p) ∧ Hid (AcK w W a st dv u p) := ⟨h.c0, h.c1, h.c2, h.c3, h.c4, h.c5, h.c6, h.c7, h.d0, h.d1, h⟩
end Go.Proofs.YtgajhmmildbkfaaGreatDoor

/- A set of texts in a map that a call has made: what it holds, told of texts. -/
namespace Go.Proofs.YtgajhmmildbkfaaGreatDoor
open Go.RowKit Go.Maps

def fk (f : List UInt8 → Bool) : Lit → Bool
  | .string l => f l
  | _ => false
noncomputable abbrev RB : Value → Option (DataW Unit × List MemPlace) := plainElem Tryz.prog 4
/-- Block b is a map of at most n entries, of which there are those whose texts f says. -/
def Own9 (w : World) (b n : Nat) (f : List UInt8 → Bool) : Prop := ∃ D, w.ownsMap Tryz.prog 9 RB b n D ∧ ∀ kl, Maps.has D kl = fk f kl
/-- .. while it is walked through: those that lf says are still to come. -/
def Rng9 (w : World) (b r n : Nat) (f lf : List UInt8 → Bool) (cnt : Nat) : Prop := ∃ D left, w.ranges Tryz.prog 9 RB b r n D left cnt ∧ (∀ kl, Maps.has D kl = fk f kl) ∧ ∀ kl, left kl = fk lf kl
theorem Own9.lt {w : World} {b n : Nat} {f : List UInt8 → Bool} (h : Own9 w b n f) : b < w.heap.size := by obtain ⟨D, h1, _⟩ := h; exact h1.lt
theorem Own9.kept {w w' : World} {b n : Nat} {f : List UInt8 → Bool} {row : Option Nat} (h : Own9 w b n f) (hg : w.grownBy w' row) (hne : some b ≠ row) : Own9 w' b n f := by
  obtain ⟨D, h1, h2⟩ := h
  exact ⟨D, h1.kept hg hne, h2⟩
theorem Own9.congr {w : World} {b n : Nat} {f g : List UInt8 → Bool} (h : Own9 w b n f) (e : ∀ l, f l = g l) : Own9 w b n g := by
  rw [show g = f from funext fun l => (e l).symm]
  exact h
theorem Own9.mono {w : World} {b n n' : Nat} {f : List UInt8 → Bool} (h : Own9 w b n f) (hn : n ≤ n') : Own9 w b n' f := by
  obtain ⟨D, h1, h2⟩ := h
  exact ⟨D, h1.mono hn, h2⟩
theorem Rng9.own {w : World} {b r n cnt : Nat} {f lf : List UInt8 → Bool} (h : Rng9 w b r n f lf cnt) : Own9 w b n f := by
  obtain ⟨D, left, h1, h2, _⟩ := h
  exact ⟨D, h1.owns, h2⟩
theorem Rng9.congr {w : World} {b r n cnt : Nat} {f g lf lg : List UInt8 → Bool} (h : Rng9 w b r n f lf cnt) (e : ∀ l, f l = g l) (e2 : ∀ l, lf l = lg l) : Rng9 w b r n g lg cnt := by
  rw [show g = f from funext fun l => (e l).symm, show lg = lf from funext fun l => (e2 l).symm]
  exact h
theorem Rng9.left_eq {w : World} {b r n cnt : Nat} {f lf : List UInt8 → Bool} (h : Rng9 w b r n f lf cnt) : w.rangeLeft b r = cnt := by
  obtain ⟨D, left, h1, _⟩ := h
  exact h1.left_eq
theorem own9_made (w : World) : Own9 (w.alloc (.map #[] 0)) w.heap.size 0 (fun _ => false) := by
  refine ⟨_, World.ownsMap_made w _ _ _, fun kl => ?_⟩
  cases kl <;> rfl
theorem fk_put (f : List UInt8 → Bool) (D : DataW Unit) (h : ∀ kl, Maps.has D kl = fk f kl) (hD : IsMap D) (s : List UInt8) (hk : WideAt.IsKeyLit (.string s)) (d : DataW Unit) : ∀ kl, Maps.has (D.put (.string s) d) kl = fk (fun l => l == s || f l) kl := by
  intro kl
  by_cases e : kl = .string s
  · subst e
    rw [has_put_same hD hk]
    simp [fk]
  · rw [has_put_other e, h kl]
    cases kl <;> try rfl
    rename_i l
    have hl : l ≠ s := fun e2 => e (by rw [e2])
    simp [fk, hl]
theorem fk_del (f : List UInt8 → Bool) (D : DataW Unit) (h : ∀ kl, Maps.has D kl = fk f kl) (s : List UInt8) : ∀ kl, Maps.has (D.del (.string s)) kl = fk (fun l => f l && !(l == s)) kl := by
  intro kl
  by_cases e : kl = .string s
  · subst e
    rw [has_del_same]
    simp [fk]
  · rw [has_del_other e, h kl]
    cases kl <;> try rfl
    rename_i l
    have hl : l ≠ s := fun e2 => e (by rw [e2])
    simp [fk, hl]
theorem key_of (s : ByteArray) (hs : s.size ≤ 281474976710656) : keyOf Tryz.prog 9 (.string s) = some (.string s.data.toList) := by
  rw [← ByteArray.toList_eq, ByteArray.toList_eq]
  exact Go.WideMaps.keyOf_string_mk Tryz.underlying9 (by unfold maxLen; omega)
theorem key_inv {key : Value} {kl : Lit} (h : keyOf Tryz.prog 9 key = some kl) : ∃ s : ByteArray, key = .string s ∧ kl = .string s.data.toList := by
  have hk := Tryz.underlying9
  cases key <;> simp [keyOf, hk, mapKey] at h
  rename_i s
  obtain ⟨_, rfl⟩ := h
  exact ⟨s, rfl, rfl⟩
theorem key_good (s : ByteArray) (hs : s.size ≤ 281474976710656) : WideAt.IsKeyLit (.string s.data.toList) := (string_keyed Tryz.underlying9).key (key_of s hs)
section
variable {ops : Array Oper} {rest : List Oper} {o : Oper} {a : Act} {Q : Exit → Act → World → Prop}
theorem wp_put9 (hgd : o.guard = Option.none) (m x v : Operand) (t : TypeId) (hop : o.op = Op.mapUpdate t m x v) (ht : Tryz.prog.underlying t = some (.map 9 4)) (wr : World) (b n : Nat) (f : List UInt8 → Bool) (hm : a.eval m = .map (some b)) (hown : Own9 wr b n f) (hn : n ≤ 100000)
    (s : ByteArray) (hx : a.eval x = .string s) (hs : s.size ≤ 281474976710656) (hv : a.eval v = .bool true)
    (h : ∀ w', Own9 w' b (n + 1) (fun l => l == s.data.toList || f l) → wr.grownBy w' (some b) → wpList Tryz.prog ops Q rest (a.put o.dst undef) w') : wpList Tryz.prog ops Q (o :: rest) a wr := by
  obtain ⟨D, h1, h2⟩ := hown
  refine wpList_mapUpdate_own wr hgd m x v t hop 9 4 (string_keyed Tryz.underlying9) ht RB b n D hm h1 (by unfold maxLen; omega) _ _ (.string s.data.toList) hx hv (key_of s hs) (.lit (.bool true)) [] (plainElem_bool Tryz.underlying4 true) ?_
  intro w' h3 hg
  exact h w' ⟨_, h3, fk_put f D h2 (h1.isMap) _ (key_good s hs) _⟩ hg
theorem wp_del9 (hgd : o.guard = Option.none) (m x : Operand) (t : TypeId) (hop : o.op = Op.call { callee := Callee.builtin Builtin.delete, args := #[m, x], argTypes := #[t, 9] }) (ht : Tryz.prog.underlying t = some (.map 9 4)) (wr : World) (b n : Nat) (f : List UInt8 → Bool) (hm : a.eval m = .map (some b)) (hown : Own9 wr b n f)
    (s : ByteArray) (hx : a.eval x = .string s) (hs : s.size ≤ 281474976710656)
    (h : ∀ w', Own9 w' b n (fun l => f l && !(l == s.data.toList)) → wr.grownBy w' (some b) → wpList Tryz.prog ops Q rest (a.put o.dst (.tuple #[])) w') : wpList Tryz.prog ops Q (o :: rest) a wr := by
  obtain ⟨D, h1, h2⟩ := hown
  refine wpList_delete_own wr hgd m x t 9 hop 4 (string_keyed Tryz.underlying9) ht RB b n D hm h1 _ _ hx (key_of s hs) ?_
  intro w' h3 hg
  exact h w' ⟨_, h3, fk_del f D h2 _⟩ hg.grown
theorem wp_range9 (hgd : o.guard = Option.none) (m : Operand) (t : TypeId) (hop : o.op = Op.range t m) (ht : Tryz.prog.underlying t = some (.map 9 4)) (wr : World) (b n : Nat) (f : List UInt8 → Bool) (hm : a.eval m = .map (some b)) (hown : Own9 wr b n f)
    (h : ∀ w' cnt, Rng9 w' b wr.heap.size n f f cnt → wr.grownBy w' none → w'.heap.size = wr.heap.size + 1 → wpList Tryz.prog ops Q rest (a.put o.dst (.pointer (some ⟨wr.heap.size, 0, none⟩))) w') : wpList Tryz.prog ops Q (o :: rest) a wr := by
  obtain ⟨D, h1, h2⟩ := hown
  refine wpList_range_own wr hgd m t hop 9 4 (string_keyed Tryz.underlying9) ht RB b n D hm h1 ?_
  intro w' h3 hg hs
  exact h w' _ ⟨D, _, h3, h2, h2⟩ hg hs
theorem wp_next9 (hgd : o.guard = Option.none) (it : Operand) (hop : o.op = Op.next it false) (wr : World) (b r n cnt : Nat) (f lf : List UInt8 → Bool) (hit : a.eval it = .pointer (some ⟨r, 0, none⟩)) (hown : Rng9 wr b r n f lf cnt)
    (hDone : (∀ l, lf l = false) → wpList Tryz.prog ops Q rest (a.put o.dst (.tuple #[.bool false])) wr)
    (hMore : ∀ (s : ByteArray) (c : Value) (w' : World) (cnt' : Nat), lf s.data.toList = true → Rng9 w' b r n f (fun l => lf l && !(l == s.data.toList)) cnt' → cnt' < cnt → wr.grownBy w' (some r) → w'.heap.size = wr.heap.size →
      (Instr.entry (.pointer (some ⟨r, 0, none⟩))).run Tryz.prog w' = .ok (.tuple #[.string s, c]) w' → wpList Tryz.prog ops Q rest (a.put o.dst (.tuple #[.bool true, .string s, c])) w') : wpList Tryz.prog ops Q (o :: rest) a wr := by
  obtain ⟨D, left, h1, h2, h3⟩ := hown
  refine wpList_next_ranges wr hgd it hop 9 (string_keyed Tryz.underlying9) RB (fun s : ByteArray => Value.string s) (fun c : Value => c) (fun key kl hk => by obtain ⟨s, hs, _⟩ := key_inv hk; exact ⟨s, hs⟩) (fun v y _ => ⟨v, rfl⟩) b r n D left cnt hit h1 ?_ ?_
  · intro _ hl
    refine hDone fun l => ?_
    have := h3 (.string l)
    rw [hl] at this
    exact this.symm
  · intro s c kl y w' cnt' hk hlk _ _ hrg hlt hg hsz hen
    obtain ⟨s2, e1, e2⟩ := key_inv hk
    cases e1
    subst e2
    have hlf : lf s.data.toList = true := by
      have := h3 (.string s.data.toList)
      rw [hlk] at this
      exact this.symm
    refine hMore s c w' cnt' hlf ⟨D, _, hrg, h2, fun kl => ?_⟩ hlt hg hsz hen
    rw [h3 kl]
    cases kl <;> rfl
theorem wp_delr9 (hgd : o.guard = Option.none) (m x : Operand) (t : TypeId) (hop : o.op = Op.call { callee := Callee.builtin Builtin.delete, args := #[m, x], argTypes := #[t, 9] }) (ht : Tryz.prog.underlying t = some (.map 9 4)) (wr : World) (b r n cnt : Nat) (f lf : List UInt8 → Bool) (hm : a.eval m = .map (some b)) (hown : Rng9 wr b r n f lf cnt)
    (s : ByteArray) (hx : a.eval x = .string s) (hs : s.size ≤ 281474976710656) (hl : lf s.data.toList = false)
    (h : ∀ w' cnt', Rng9 w' b r n (fun l => f l && !(l == s.data.toList)) lf cnt' → cnt' ≤ cnt → wr.grownBy w' (some b) → wpList Tryz.prog ops Q rest (a.put o.dst (.tuple #[])) w') : wpList Tryz.prog ops Q (o :: rest) a wr := by
  obtain ⟨D, left, h1, h2, h3⟩ := hown
  refine wpList_delete_ranges wr hgd m x t 9 hop 4 (string_keyed Tryz.underlying9) ht RB b r n D left cnt hm h1 _ _ hx (key_of s hs) ?_
  intro w' cnt' hrg hle hg
  refine h w' cnt' ⟨_, _, hrg, fk_del f D h2 _, fun kl => ?_⟩ hle hg.grown
  rw [h3 kl]
  cases kl <;> try rfl
  rename_i l
  simp only [fk]
  by_cases e : l = s.data.toList
  · subst e
    rw [hl]
    rfl
  · rw [sameKey_ne (by intro e2; injection e2 with e3; exact e e3)]
    simp
theorem wp_len9 (hgd : o.guard = Option.none) (m : Operand) (t : TypeId) (hop : o.op = Op.call { callee := Callee.builtin Builtin.len, args := #[m], argTypes := #[t] }) (ht : Tryz.prog.underlying t = some (.map 9 4)) (wr : World) (b n : Nat) (f : List UInt8 → Bool) (hm : a.eval m = .map (some b)) (hown : Own9 wr b n f)
    (h : ∀ k : Nat, (k = 0 → ∀ l, f l = false) → (k ≠ 0 → ∃ l, f l = true) → k ≤ n → wpList Tryz.prog ops Q rest (a.put o.dst (.int .i64 (k : Int))) wr) : wpList Tryz.prog ops Q (o :: rest) a wr := by
  obtain ⟨D, h1, h2⟩ := hown
  obtain ⟨es, rfl, _, hg⟩ := h1.entries (string_keyed Tryz.underlying9)
  refine wpList_len_own wr hgd m t hop 9 4 ht RB b n _ hm h1 (h _ (fun h0 l => ?_) (fun h0 => ?_) h1.size_le)
  · have e : es = [] := List.eq_nil_of_length_eq_zero h0
    have := h2 (.string l)
    rw [e] at this
    exact this.symm
  · cases es with
    | nil => exact absurd rfl h0
    | cons p r =>
      have hp := hg p (by simp)
      have := h2 p.1
      rw [show Maps.has (DataW.map (p :: r)) p.1 = true from by rw [has_eq]; simp [WideAt.sameKey_self hp]] at this
      obtain ⟨k, d⟩ := p
      cases k <;> simp [fk] at this
      exact ⟨_, this⟩
end
end Go.Proofs.YtgajhmmildbkfaaGreatDoor

/- A map of texts to texts that a call has made: what each of its entries is like. -/
namespace Go.Proofs.YtgajhmmildbkfaaGreatDoor
open Go.RowKit Go.Maps

noncomputable abbrev RS : Value → Option (DataW Unit × List MemPlace) := plainElem Tryz.prog 9
/-- Block b is a map of at most n entries, each of which G says. -/
def OwnT (w : World) (b n : Nat) (G : List UInt8 → List UInt8 → Prop) : Prop := ∃ D, w.ownsMap Tryz.prog 9 RS b n D ∧ ∀ l, Maps.has D (.string l) = true → ∀ z, ∃ v, D.atKey (.string l) z = .lit (.string v) ∧ G l v
/-- .. while it is walked through. -/
def RngT (w : World) (b r n : Nat) (G : List UInt8 → List UInt8 → Prop) (cnt : Nat) : Prop := ∃ D left, w.ranges Tryz.prog 9 RS b r n D left cnt ∧ ∀ l, Maps.has D (.string l) = true → ∀ z, ∃ v, D.atKey (.string l) z = .lit (.string v) ∧ G l v
theorem OwnT.lt {w : World} {b n : Nat} {G : List UInt8 → List UInt8 → Prop} (h : OwnT w b n G) : b < w.heap.size := by obtain ⟨D, h1, _⟩ := h; exact h1.lt
theorem OwnT.kept {w w' : World} {b n : Nat} {G : List UInt8 → List UInt8 → Prop} {row : Option Nat} (h : OwnT w b n G) (hg : w.grownBy w' row) (hne : some b ≠ row) : OwnT w' b n G := by
  obtain ⟨D, h1, h2⟩ := h
  exact ⟨D, h1.kept hg hne, h2⟩
theorem OwnT.below {w w' : World} {b n : Nat} {G : List UInt8 → List UInt8 → Prop} (h : OwnT w b n G) (hb : Below w.heap.size w w') : OwnT w' b n G :=
  h.kept (row := none) ⟨hb.os, hb.tape, hb.output, hb.size, fun i hi _ => hb.block i hi⟩ (by simp)
theorem OwnT.mono {w : World} {b n n' : Nat} {G : List UInt8 → List UInt8 → Prop} (h : OwnT w b n G) (hn : n ≤ n') : OwnT w b n' G := by
  obtain ⟨D, h1, h2⟩ := h
  exact ⟨D, h1.mono hn, h2⟩
theorem ownT_made (w : World) (G : List UInt8 → List UInt8 → Prop) : OwnT (w.alloc (.map #[] 0)) w.heap.size 0 G :=
  ⟨_, World.ownsMap_made w _ _ _, fun l h => by cases h⟩
theorem OwnT.put {w : World} {b n : Nat} {G : List UInt8 → List UInt8 → Prop} (h : OwnT w b n G) (hn : n ≤ 1000) (k v : ByteArray) (hk : k.size ≤ 100000) (hv : v.size ≤ 100000) (hG : G k.data.toList v.data.toList) :
    ∃ w', (Instr.mapUpdate 40 (.map (some b)) (.string k) (.string v)).run Tryz.prog w = .ok () w' ∧ OwnT w' b (n + 1) G ∧ w.grownBy w' (some b) := by
  obtain ⟨D, h1, h2⟩ := h
  obtain ⟨w', hr, ho, hg⟩ := h1.update (string_keyed Tryz.underlying9) Tryz.underlying40 (by unfold maxLen; omega) (key_of k (by omega)) (plainElem_string (s := v) Tryz.underlying9 (by unfold maxLen; omega))
  refine ⟨w', hr, ⟨_, ho, fun l hl z => ?_⟩, hg⟩
  by_cases e : l = k.data.toList
  · subst e
    exact ⟨v.data.toList, atKey_put_same h1.isMap (key_good k (by omega)) _ z, hG⟩
  · have e2 : (Lit.string l) ≠ .string k.data.toList := fun h => e (by injection h)
    rw [has_put_other e2] at hl
    obtain ⟨u, h3, h4⟩ := h2 l hl z
    exact ⟨u, by rw [atKey_put_other e2]; exact h3, h4⟩
section
variable {ops : Array Oper} {rest : List Oper} {o : Oper} {a : Act} {Q : Exit → Act → World → Prop}
theorem wp_rangeT (hgd : o.guard = Option.none) (m : Operand) (t : TypeId) (hop : o.op = Op.range t m) (ht : Tryz.prog.underlying t = some (.map 9 9)) (wr : World) (b n : Nat) (G : List UInt8 → List UInt8 → Prop) (hm : a.eval m = .map (some b)) (hown : OwnT wr b n G)
    (h : ∀ w' cnt, RngT w' b wr.heap.size n G cnt → wr.grownBy w' none → w'.heap.size = wr.heap.size + 1 → wpList Tryz.prog ops Q rest (a.put o.dst (.pointer (some ⟨wr.heap.size, 0, none⟩))) w') : wpList Tryz.prog ops Q (o :: rest) a wr := by
  obtain ⟨D, h1, h2⟩ := hown
  refine wpList_range_own wr hgd m t hop 9 9 (string_keyed Tryz.underlying9) ht RS b n D hm h1 ?_
  intro w' h3 hg hs
  exact h w' _ ⟨D, _, h3, h2⟩ hg hs
theorem wp_nextT (hgd : o.guard = Option.none) (it : Operand) (hop : o.op = Op.next it false) (wr : World) (b r n cnt : Nat) (G : List UInt8 → List UInt8 → Prop) (hit : a.eval it = .pointer (some ⟨r, 0, none⟩)) (hown : RngT wr b r n G cnt)
    (hDone : Hid (cnt = cnt) → wpList Tryz.prog ops Q rest (a.put o.dst (.tuple #[.bool false])) wr)
    (hMore : ∀ (s : ByteArray) (c : ByteArray) (w' : World) (cnt' : Nat), G s.data.toList c.data.toList → RngT w' b r n G cnt' → cnt' < cnt → wr.grownBy w' (some r) → w'.heap.size = wr.heap.size →
      (Instr.entry (.pointer (some ⟨r, 0, none⟩))).run Tryz.prog w' = .ok (.tuple #[.string s, .string c]) w' → wpList Tryz.prog ops Q rest (a.put o.dst (.tuple #[.bool true, .string s, .string c])) w') : wpList Tryz.prog ops Q (o :: rest) a wr := by
  obtain ⟨D, left, h1, h2⟩ := hown
  refine wpList_next_ranges wr hgd it hop 9 (string_keyed Tryz.underlying9) RS (fun s : ByteArray => Value.string s) (fun c : ByteArray => Value.string c) (fun key kl hk => by obtain ⟨s, hs, _⟩ := key_inv hk; exact ⟨s, hs⟩) (fun v y hy => by obtain ⟨s, hs, _⟩ := plainElem_string_inv Tryz.underlying9 hy; exact ⟨s, hs⟩) b r n D left cnt hit h1 ?_ ?_
  · intro _ hl
    exact hDone rfl
  · intro s c kl y w' cnt' hk hlk h5 h6 hrg hlt hg hsz hen
    obtain ⟨s2, e1, e2⟩ := key_inv hk
    cases e1
    subst e2
    obtain ⟨v, hv, hg2⟩ := h2 _ (has_true_of_atKey h6) (.lit (.string []))
    rw [h6] at hv
    obtain ⟨c2, e3, e4, _⟩ := plainElem_string_inv Tryz.underlying9 h5
    cases e3
    rw [e4] at hv
    simp only [DataW.lit.injEq, Lit.string.injEq] at hv
    subst hv
    exact hMore s c w' cnt' hg2 ⟨D, _, hrg, h2⟩ hlt hg hsz hen
end
end Go.Proofs.YtgajhmmildbkfaaGreatDoor

/- The law DigestBack, walked. -/
namespace Go.Proofs.YtgajhmmildbkfaaGreatDoor
open Go.RowKit
set_option linter.unusedVariables false

theorem small4 (x0 x1 x2 x3 : ByteArray) (W : World) (o : Nat) (ho : o = W.heap.size) : ∀ (j : Nat) x, [x0, x1, x2, x3][j]? = some x → (W.alloc (.cells #[.string x0, .string x1, .string x2, .string x3] 9)).cell? ⟨o, j, none⟩ = some (.string x) := by
  subst ho
  intro j x hj
  rw [World.cell?_alloc_mark]
  match j, hj with
  | 0, h => cases h; rfl
  | 1, h => cases h; rfl
  | 2, h => cases h; rfl
  | 3, h => cases h; rfl
  | j + 4, h => simp at h
def GB (ps : List Par) (l v : List UInt8) : Prop := getL ps l = some (bs v) ∧ l.length ≤ 20
set_option maxRecDepth 100000 in
set_option maxHeartbeats 8000000 in
theorem back_walk (a : PfA) (st : Bool) (dv : Value) (za : AskZ a) (u p : ByteArray) (zc : CredZ u p) (m : ByteArray) (zm : m.size ≤ 140737488355328) (t : ByteArray) (zt : t.size ≤ 140737488355328) (b : ByteArray) (zb : b.size ≤ 140737488355328) (c : ByteArray) (zn : c.size ≤ 140737488355328)
    (n : Int) (n0 : -9223372036854775808 ≤ n) (n1 : n ≤ 9223372036854775807) (w : World) (HT : Hid (Tabs w)) :
    Calls Tryz.prog 3 #[.agg #[.int .i64 a.scheme, .string a.realm, .string a.nonce, .string a.opq, .bool a.sess, .string a.qop, .bool st, dv], .agg #[.string u, .string p], .string m, .string t, .string b, .string c, .int .i64 n] w fun e w' => e = .returned (.bool true) ∧ Below w.heap.size w w' := by
  have HK0 : Hid (AcK w _ a st dv u p) := acK_start w a st dv u p HT
  have hsm := small_any a st dv u p za zc [m, t, b, c] (by intro x hx; simp at hx; rcases hx with rfl | rfl | rfl | rfl <;> assumption)
  clear zm zt zb zn za zc
  go_enter Tryz.func3, Tryz.ntmps3
  go_wp2_with fail
  generalize ((w.alloc (.cells #[.int .i64 a.scheme, .string a.realm, .string a.nonce, .string a.opq, .bool a.sess, .string a.qop, .bool st, dv] 24)).alloc (.cells #[.string u, .string p] 26)) = W0 at HK0 ⊢
  refine (proved_any _ HK0.out.tabs).mono ?_
  rintro e w1 ⟨rfl, hb1⟩
  have HK1 : Hid (AcK w w1 a st dv u p) := HK0.out.below hb1
  clear hb1 HK0
  go_wp2_with fail
  refine (asked_any _).mono ?_
  rintro e w2 ⟨rfl, hb2⟩
  have HK2 : Hid (AcK w w2 a st dv u p) := HK1.out.below hb2
  clear hb2 HK1
  go_wp2_with fail
  refine (worded_any _).mono ?_
  rintro e w3 ⟨rfl, hb3⟩
  have HK3 : Hid (AcK w w3 a st dv u p) := HK2.out.below hb3
  clear hb3 HK2
  obtain ⟨c0, c1, c2, c3, c4, c5, c6, c7, d0, d1, _, _, _⟩ := HK3.out
  go_wp2_with fail
  refine (hsm w3.heap.size 4 4 rfl (by omega) _ (by simp) (small4 m t b c w3 _ rfl)).mono ?_
  rintro e w4 ⟨rfl, hb4⟩
  have hb4' : Below w3.heap.size w3 w4 := ((Below.refl _ _).alloc (Nat.le_refl _) _).trans (hb4.mono (by simp))
  have HK4 : Hid (AcK w w4 a st dv u p) := HK3.out.below hb4'
  clear hb4 hb4' c0 c1 c2 c3 c4 c5 c6 c7 d0 d1 hsm HK3
  obtain ⟨c0, c1, c2, c3, c4, c5, c6, c7, d0, d1, _, _, _⟩ := HK4.out
  cases hs : smallB a u p [m, t, b, c]
  · go_wp2
    go_ret
    exact ⟨rfl, HK4.out.bel⟩
  · have hfit : Fits a ⟨u, p, m, t, b, c⟩ ∧ a.realm.size + a.nonce.size + a.opq.size + a.qop.size + u.size + t.size + c.size ≤ 500 := by
      have h := of_decide_eq_true hs
      simp only [totZ, sumZ] at h
      unfold Fits
      simp only
      omega
    have HD := fun w HT => dig_any a ⟨u, p, m, t, b, c⟩ st dv n hfit.1 (by have := hfit.2; omega) w HT
    simp only at HD
    go_wp2_with fail
    cases hdg : digO a ⟨u, p, m, t, b, c⟩ n with
    | error k =>
      rw [hdg] at HD
      simp only [digV] at HD
      refine (HD _ HK4.out.tabs).mono ?_
      rintro e w5 ⟨rfl, hb5⟩
      have HK5 : Hid (AcK w w5 a st dv u p) := HK4.out.below hb5
      go_wp2
      go_ret
      exact ⟨rfl, HK5.out.bel⟩
    | ok l =>
      obtain ⟨hsc, hqo, k, rfl, hk, hok, hl⟩ := digO_ok hdg
      have hlz : (bs l).size ≤ 3000 := by rw [bs_size, hl]; exact digT_len a _ k hfit.1 hfit.2
      have HA : Hid (askL (bs l).data.toList = .ok [⟨bs digW, ⟨#[]⟩, parsI (items a ⟨u, p, m, t, b, c⟩ k)⟩]) := by show _ = _; rw [bs_data, hl]; exact items_read a _ k hqo hok
      have HGT : Hid (Gets a ⟨u, p, m, t, b, c⟩ k (parsI (items a ⟨u, p, m, t, b, c⟩ k))) := items_get a _ k
      have HFI : Hid (Fits a ⟨u, p, m, t, b, c⟩) := hfit.1
      have HZS : Hid (u.size ≤ 3000 ∧ a.realm.size ≤ 3000 ∧ a.nonce.size ≤ 3000 ∧ t.size ≤ 3000 ∧ c.size ≤ 3000 ∧ a.qop.size ≤ 3000 ∧ a.opq.size ≤ 3000) := by
        have h := hfit.1
        have h2 := hfit.2
        unfold Fits at h
        simp only at h
        refine ⟨?_, ?_, ?_, ?_, ?_, ?_, ?_⟩ <;> omega
      rw [hdg] at HD
      simp only [digV] at HD
      generalize parsI (items a ⟨u, p, m, t, b, c⟩ k) = ps at HA HGT
      generalize bs l = s at hlz HA HD
      clear hdg hl hok hs hfit
      refine (HD _ HK4.out.tabs).mono ?_
      rintro e w5 ⟨rfl, hb5⟩
      have HK5 : Hid (AcK w w5 a st dv u p) := HK4.out.below hb5
      clear hb5 HK4 HD c0 c1 c2 c3 c4 c5 c6 c7 d0 d1
      go_wp2_with fail
      refine (parse_any s hlz _).mono ?_
      rintro e w6 ⟨⟨cs, v, h1, h2, h3, rfl, hown⟩ | ⟨n, left, v, h1, _⟩, hb6⟩
      · have hxs : xsOf cs = [⟨bs digW, ⟨#[]⟩, ps⟩] := Except.ok.inj (h1.symm.trans HA.out)
        have HK6 : Hid (AcK w w6 a st dv u p) := HK5.out.below hb6
        obtain ⟨ca, ccap, g, ds, rfl, hC, hx, hBg, _⟩ := hown.chals
        have hl1 : cs.length = 1 := by rw [← xsOf_len, hxs]; rfl
        rw [hl1] at hC ⊢
        obtain ⟨d, rfl⟩ : ∃ d, ds = [d] := by
          have := hC.len_eq
          match ds, this with
          | [d], _ => exact ⟨d, rfl⟩
        have hdx : d.x = ⟨bs digW, ⟨#[]⟩, ps⟩ := (List.cons.inj (hx.trans hxs)).1
        have hmild : Mild d.x := by
          have : d.x ∈ xsOf cs := by rw [← hx]; exact List.mem_map.2 ⟨d, by simp, rfl⟩
          obtain ⟨c, hc, e⟩ := List.mem_map.1 this
          rw [← e]
          exact slight_mild (h3 c hc)
        obtain ⟨ha, hgl⟩ := hC.lies (by omega)
        subst ha
        have g0 : w6.cell? ⟨g, 0, none⟩ = some (.string d.x.scheme) := hC.one 0 d rfl
        have g1 : w6.cell? ⟨g, 1, none⟩ = some (.string d.x.token) := hC.two 0 d rfl
        have g2 : w6.cell? ⟨g, 2, none⟩ = some (.slice d.a d.len d.cap) := hC.three 0 d rfl
        have HP : Hid (ChOk w6 d) := hC.pars d (by simp)
        have HM : Hid (Mild d.x) := hmild
        have HGX : Hid (Gets a ⟨u, p, m, t, b, c⟩ k d.x.params) := by show Gets _ _ _ _; rw [hdx]; exact HGT.out
        have hdx' : d.x.scheme = ⟨#[68, 105, 103, 101, 115, 116]⟩ := by rw [hdx]; rfl
        clear HA h1 h2 h3 hown hC hx hxs hBg hb6 HK5 hdx hmild HGT
        rw [hdx'] at g0
        have hrs := fun w HT => resp_any a ⟨u, p, m, t, b, c⟩ st dv k (by omega) HFI.out w HT
        simp only at hrs
        obtain ⟨X, HX⟩ : ∃ X, Hid (bs (respL a ⟨u, p, m, t, b, c⟩ k) = X) := ⟨_, rfl⟩
        have HXZ : Hid (X.size ≤ 100000) := by show _ ≤ _; rw [← HX.out, bs_size]; exact Nat.le_trans (respL_len _ _ _) (by decide)
        simp only [HX.out] at hrs
        have HG1 : Hid (GB d.x.params nUser u.data.toList) := ⟨by rw [bs_self]; exact HGX.out.user, by decide⟩
        have HG2 : Hid (GB d.x.params nRealm a.realm.data.toList) := ⟨by rw [bs_self]; exact HGX.out.realm, by decide⟩
        have HG3 : Hid (GB d.x.params nNonce a.nonce.data.toList) := ⟨by rw [bs_self]; exact HGX.out.nonce, by decide⟩
        have HG4 : Hid (GB d.x.params nUri t.data.toList) := ⟨by rw [bs_self]; exact HGX.out.uri, by decide⟩
        have HG5 : Hid (GB d.x.params nResp X.data.toList) := ⟨by rw [bs_self, ← HX.out]; exact HGX.out.resp, by decide⟩
        go_upto_region 11 with fail
        go_cut [18] (fun v wq => ∃ B, v = .map (some B) ∧ Hid (OwnT wq B 5 (GB d.x.params)) ∧ Hid (Below w6.heap.size w6 wq) ∧ w6.heap.size ≤ B)
        case first =>
          have hKd : AcK w w6.drew a st dv u p := HK6.out.below (Below.refl _ _).drew
          refine wp_region_held_drew (S := (fun W => W.cell? ⟨w.heap.size, 0, none⟩ = some (.int .i64 a.scheme) ∧ W.cell? ⟨w.heap.size, 1, none⟩ = some (.string a.realm) ∧ W.cell? ⟨w.heap.size, 2, none⟩ = some (.string a.nonce) ∧ W.cell? ⟨w.heap.size, 3, none⟩ = some (.string a.opq) ∧ W.cell? ⟨w.heap.size, 4, none⟩ = some (.bool a.sess) ∧ W.cell? ⟨w.heap.size, 5, none⟩ = some (.string a.qop) ∧ W.cell? ⟨w.heap.size, 6, none⟩ = some (.bool st) ∧ W.cell? ⟨w.heap.size, 7, none⟩ = some dv ∧ W.cell? ⟨w.heap.size + 1, 0, none⟩ = some (.string u) ∧ W.cell? ⟨w.heap.size + 1, 1, none⟩ = some (.string p) ∧ Hid (AcK w W a st dv u p))) (by kernel_rfl) hKd.held (fun hHeld => ?_)
          refine takeH (i := 1) (d := some 77) (v := ?_) rfl rfl (by kernel_rfl) (by kernel_rfl) (by kernel_rfl) (fun _ _ _ h => h) (by rfl) ?_ (by assumption) ?_
          rotate_left
          · intro w hSw; obtain ⟨c0, c1, c2, c3, c4, c5, c6, c7, d0, d1, q0⟩ := hSw; go_simp; with_reducible rfl
          try simp only [Act.put, List.setIfInBounds_toArray, List.set_cons_zero, List.set_cons_succ]
          refine takeH (i := 2) (d := some 78) (v := ?_) rfl rfl (by kernel_rfl) (by kernel_rfl) (by kernel_rfl) (fun _ _ _ h => h) (by rfl) ?_ (by assumption) ?_
          rotate_left
          · intro w hSw; obtain ⟨c0, c1, c2, c3, c4, c5, c6, c7, d0, d1, q0⟩ := hSw; go_simp; with_reducible rfl
          try simp only [Act.put, List.setIfInBounds_toArray, List.set_cons_zero, List.set_cons_succ]
          refine takeH (i := 4) (d := some 79) (v := ?_) rfl rfl (by kernel_rfl) (by kernel_rfl) (by kernel_rfl) (fun _ _ _ h => h) (by rfl) ?_ (by assumption) ?_
          rotate_left
          · intro w hSw; obtain ⟨c0, c1, c2, c3, c4, c5, c6, c7, d0, d1, q0⟩ := hSw; go_simp; with_reducible rfl
          try simp only [Act.put, List.setIfInBounds_toArray, List.set_cons_zero, List.set_cons_succ]
          refine takeH (i := 5) (d := some 80) (v := ?_) rfl rfl (by kernel_rfl) (by kernel_rfl) (by kernel_rfl) (fun _ _ _ h => h) (by rfl) ?_ (by assumption) ?_
          rotate_left
          · intro w hSw; obtain ⟨c0, c1, c2, c3, c4, c5, c6, c7, d0, d1, q0⟩ := hSw; go_simp; with_reducible rfl
          try simp only [Act.put, List.setIfInBounds_toArray, List.set_cons_zero, List.set_cons_succ]
          refine takeH (i := 7) (d := some 81) (v := ?_) rfl rfl (by kernel_rfl) (by kernel_rfl) (by kernel_rfl) (fun _ _ _ h => h) (by rfl) ?_ (by assumption) ?_
          rotate_left
          · intro w hSw; obtain ⟨c0, c1, c2, c3, c4, c5, c6, c7, d0, d1, q0⟩ := hSw; go_simp; with_reducible rfl
          try simp only [Act.put, List.setIfInBounds_toArray, List.set_cons_zero, List.set_cons_succ]
          refine takeH (i := 8) (d := some 82) (v := ?_) rfl rfl (by kernel_rfl) (by kernel_rfl) (by kernel_rfl) (fun _ _ _ h => h) (by rfl) ?_ (by assumption) ?_
          rotate_left
          · intro w hSw; obtain ⟨c0, c1, c2, c3, c4, c5, c6, c7, d0, d1, q0⟩ := hSw; go_simp; with_reducible rfl
          try simp only [Act.put, List.setIfInBounds_toArray, List.set_cons_zero, List.set_cons_succ]
          refine takeH (i := 10) (d := some 83) (v := ?_) rfl rfl (by kernel_rfl) (by kernel_rfl) (by kernel_rfl) (fun _ _ _ h => h) (by rfl) ?_ (by assumption) ?_
          rotate_left
          · intro w hSw; obtain ⟨c0, c1, c2, c3, c4, c5, c6, c7, d0, d1, q0⟩ := hSw; go_simp; with_reducible rfl
          try simp only [Act.put, List.setIfInBounds_toArray, List.set_cons_zero, List.set_cons_succ]
          refine takeH (i := 12) (d := some 84) (v := ?_) rfl rfl (by kernel_rfl) (by kernel_rfl) (by kernel_rfl) (fun _ _ _ h => h) (by rfl) ?_ (by assumption) ?_
          rotate_left
          · intro w hSw; obtain ⟨c0, c1, c2, c3, c4, c5, c6, c7, d0, d1, q0⟩ := hSw; go_simp; with_reducible rfl
          try simp only [Act.put, List.setIfInBounds_toArray, List.set_cons_zero, List.set_cons_succ]
          refine takeH (i := 13) (d := some 85) (v := ?_) rfl rfl (by kernel_rfl) (by kernel_rfl) (by kernel_rfl) (fun _ _ _ h => h) (by rfl) ?_ (by assumption) ?_
          rotate_left
          · intro w hSw; obtain ⟨c0, c1, c2, c3, c4, c5, c6, c7, d0, d1, q0⟩ := hSw; go_simp; with_reducible rfl
          try simp only [Act.put, List.setIfInBounds_toArray, List.set_cons_zero, List.set_cons_succ]
          refine takeH (i := 14) (d := some 86) (v := ?_) rfl rfl (by kernel_rfl) (by kernel_rfl) (by kernel_rfl) (fun _ _ _ h => h) (by rfl) ?_ (by assumption) ?_
          rotate_left
          · intro w hSw; obtain ⟨c0, c1, c2, c3, c4, c5, c6, c7, d0, d1, q0⟩ := hSw; go_simp; with_reducible rfl
          try simp only [Act.put, List.setIfInBounds_toArray, List.set_cons_zero, List.set_cons_succ]
          refine takeH (i := 15) (d := some 87) (v := ?_) rfl rfl (by kernel_rfl) (by kernel_rfl) (by kernel_rfl) (fun _ _ _ h => h) (by rfl) ?_ (by assumption) ?_
          rotate_left
          · intro w hSw; obtain ⟨c0, c1, c2, c3, c4, c5, c6, c7, d0, d1, q0⟩ := hSw; go_simp; with_reducible rfl
          try simp only [Act.put, List.setIfInBounds_toArray, List.set_cons_zero, List.set_cons_succ]
          refine takeH (i := 16) (d := some 88) (v := ?_) rfl rfl (by kernel_rfl) (by kernel_rfl) (by kernel_rfl) (fun _ _ _ h => h) (by rfl) ?_ (by assumption) ?_
          rotate_left
          · intro w hSw; obtain ⟨c0, c1, c2, c3, c4, c5, c6, c7, d0, d1, q0⟩ := hSw; go_simp; with_reducible rfl
          try simp only [Act.put, List.setIfInBounds_toArray, List.set_cons_zero, List.set_cons_succ]
          refine takeH (i := 17) (d := some 89) (v := ?_) rfl rfl (by kernel_rfl) (by kernel_rfl) (by kernel_rfl) (fun _ _ _ h => h) (by rfl) ?_ (by assumption) ?_
          rotate_left
          · intro w hSw; obtain ⟨c0, c1, c2, c3, c4, c5, c6, c7, d0, d1, q0⟩ := hSw; go_simp; with_reducible rfl
          try simp only [Act.put, List.setIfInBounds_toArray, List.set_cons_zero, List.set_cons_succ]
          refine takeH (i := 18) (d := some 90) (v := ?_) rfl rfl (by kernel_rfl) (by kernel_rfl) (by kernel_rfl) (fun _ _ _ h => h) (by rfl) ?_ (by assumption) ?_
          rotate_left
          · intro w hSw; obtain ⟨c0, c1, c2, c3, c4, c5, c6, c7, d0, d1, q0⟩ := hSw; go_simp; with_reducible rfl
          try simp only [Act.put, List.setIfInBounds_toArray, List.set_cons_zero, List.set_cons_succ]
          refine wpAnyH_gen fun A hA => ?_
          refine wpAnyH_invR RgS.ok RgS.R (fun s a' w' => s.ok = true ∧ Hid (Below w6.heap.size w6 w') ∧ ∃ B, a' = s.A A (.map (some B)) (.string X) ∧ Hid (s.ma = true → OwnT w' B s.cnt (GB d.x.params) ∧ w6.heap.size ≤ B)) RgS.L RgS.N ?_ (fun s a w h => h.1) ?_ ?_ 9 ⟨false, false, false, false, false, false, false, false, false⟩ A _ (by decide) ⟨rfl, (Below.refl _ _).drew, 0, rfl, fun h => by cases h⟩
          · rintro ⟨ma, cl, i1, i2, i3, i4, i5, d1, d2⟩
            revert ma cl i1 i2 i3 i4 i5 d1 d2
            exact of_decide_eq_true (by kernel_rfl)
          · rintro s a' w' ⟨hok, HB, B, rfl, HM⟩ i hi
            have HK7 : Hid (AcK w w' a st dv u p) := HK6.out.below HB.out
            have HTP : Hid (Tabs w') := HK7.out.tabs
            have hmm := @run_makeMap Tryz.prog
            rcases RgS.R_mem hi with ⟨h1, rfl⟩ | ⟨h0, h1, rfl⟩ | ⟨h0, h1, rfl⟩ | ⟨h0, h1, rfl⟩ | ⟨h0, h1, rfl⟩ | ⟨h1, rfl⟩ | ⟨h0, h2, h1, rfl⟩ | ⟨h0, h1, rfl⟩ | ⟨h0, h1, rfl⟩
            · obtain ⟨ma, cl, i1, i2, i3, i4, i5, d1, d2⟩ := s
              try dsimp only at h1
              subst h1
              have h3 := RgS.open hok (by rfl)
              try dsimp only at h3
              obtain ⟨e1, e2⟩ := h3
              subst e1 e2
              have hok2 : RgS.ok ⟨true, cl, i1, i2, i3, i4, i5, false, false⟩ = true := by revert hok; cases cl <;> cases i1 <;> cases i2 <;> cases i3 <;> cases i4 <;> cases i5 <;> decide
              have hN2 : RgS.N ⟨true, cl, i1, i2, i3, i4, i5, false, false⟩ < RgS.N ⟨false, cl, i1, i2, i3, i4, i5, false, false⟩ := by clear hok hok2; cases cl <;> cases i1 <;> cases i2 <;> cases i3 <;> cases i4 <;> cases i5 <;> decide
              refine ⟨⟨true, cl, i1, i2, i3, i4, i5, false, false⟩, rfl, hN2, ?_⟩
              cases cl
              all_goals
                refine wpOp_at (by rfl) (fun K hK => ?_)
                simp only [RgS.A, hA, Act.put, List.setIfInBounds_toArray, List.set_cons_zero, List.set_cons_succ]
                go_simp
                try go_wp2_with fail
                have HB8 : Hid (Below w6.heap.size w6 (w'.alloc (.map #[] 0))) := HB.out.alloc HB.out.size _
                refine hK.out _ _ ⟨(HK6.out.below HB8.out).held, hok2, HB8, w'.heap.size, by simp only [RgS.A, hA, Act.put, List.setIfInBounds_toArray, List.set_cons_zero, List.set_cons_succ], fun _ => ⟨(ownT_made _ _).mono (Nat.zero_le _), HB.out.size⟩⟩
            · obtain ⟨ma, cl, i1, i2, i3, i4, i5, d1, d2⟩ := s
              try dsimp only at h0 h1
              subst h0 h1
              have h3 := RgS.open hok (by show RgS.all5 _ = false; unfold RgS.all5; simp)
              try dsimp only at h3
              obtain ⟨e1, e2⟩ := h3
              subst e1 e2
              have hok2 : RgS.ok ⟨true, cl, true, i2, i3, i4, i5, false, false⟩ = true := by revert hok; cases cl <;> cases i2 <;> cases i3 <;> cases i4 <;> cases i5 <;> decide
              have hN2 : RgS.N ⟨true, cl, true, i2, i3, i4, i5, false, false⟩ < RgS.N ⟨true, cl, false, i2, i3, i4, i5, false, false⟩ := by clear hok hok2; cases cl <;> cases i2 <;> cases i3 <;> cases i4 <;> cases i5 <;> decide
              refine ⟨⟨true, cl, true, i2, i3, i4, i5, false, false⟩, rfl, hN2, ?_⟩
              obtain ⟨hO, hBl⟩ := HM.out rfl
              obtain ⟨w2, hr, hO2, hg⟩ := hO.put (by unfold RgS.cnt b1; dsimp only; (repeat' split) <;> omega) ⟨#[117, 115, 101, 114, 110, 97, 109, 101]⟩ u (by decide) (by have := HZS.out.1; omega) HG1.out
              have HB8 : Hid (Below w6.heap.size w6 w2) := HB.out.grown hg HB.out.size (fun k hk => by cases hk; exact hBl)
              have HO8 : Hid (OwnT w2 B (RgS.cnt ⟨true, cl, true, i2, i3, i4, i5, false, false⟩) (GB d.x.params)) := hO2.mono (by unfold RgS.cnt; dsimp only; show _ ≤ _; simp only [show b1 true = 1 from rfl, show b1 false = 0 from rfl]; omega)
              clear hO hO2 hg
              cases cl
              all_goals
                refine wpOp_at (by rfl) (fun K hK => ?_)
                simp only [RgS.A, hA, Act.put, List.setIfInBounds_toArray, List.set_cons_zero, List.set_cons_succ]
                go_simp
                try go_wp2_with fail
                refine hK.out _ _ ⟨(HK6.out.below HB8.out).held, hok2, HB8, B, by simp only [RgS.A, hA, Act.put, List.setIfInBounds_toArray, List.set_cons_zero, List.set_cons_succ], fun _ => ⟨HO8.out, hBl⟩⟩
            · obtain ⟨ma, cl, i1, i2, i3, i4, i5, d1, d2⟩ := s
              try dsimp only at h0 h1
              subst h0 h1
              have h3 := RgS.open hok (by show RgS.all5 _ = false; unfold RgS.all5; simp)
              try dsimp only at h3
              obtain ⟨e1, e2⟩ := h3
              subst e1 e2
              have hok2 : RgS.ok ⟨true, cl, i1, true, i3, i4, i5, false, false⟩ = true := by revert hok; cases cl <;> cases i1 <;> cases i3 <;> cases i4 <;> cases i5 <;> decide
              have hN2 : RgS.N ⟨true, cl, i1, true, i3, i4, i5, false, false⟩ < RgS.N ⟨true, cl, i1, false, i3, i4, i5, false, false⟩ := by clear hok hok2; cases cl <;> cases i1 <;> cases i3 <;> cases i4 <;> cases i5 <;> decide
              refine ⟨⟨true, cl, i1, true, i3, i4, i5, false, false⟩, rfl, hN2, ?_⟩
              obtain ⟨hO, hBl⟩ := HM.out rfl
              obtain ⟨w2, hr, hO2, hg⟩ := hO.put (by unfold RgS.cnt b1; dsimp only; (repeat' split) <;> omega) ⟨#[114, 101, 97, 108, 109]⟩ a.realm (by decide) (by have := HZS.out.2.1; omega) HG2.out
              have HB8 : Hid (Below w6.heap.size w6 w2) := HB.out.grown hg HB.out.size (fun k hk => by cases hk; exact hBl)
              have HO8 : Hid (OwnT w2 B (RgS.cnt ⟨true, cl, i1, true, i3, i4, i5, false, false⟩) (GB d.x.params)) := hO2.mono (by unfold RgS.cnt; dsimp only; show _ ≤ _; simp only [show b1 true = 1 from rfl, show b1 false = 0 from rfl]; omega)
              clear hO hO2 hg
              cases cl
              all_goals
                refine wpOp_at (by rfl) (fun K hK => ?_)
                simp only [RgS.A, hA, Act.put, List.setIfInBounds_toArray, List.set_cons_zero, List.set_cons_succ]
                go_simp
                try go_wp2_with fail
                refine hK.out _ _ ⟨(HK6.out.below HB8.out).held, hok2, HB8, B, by simp only [RgS.A, hA, Act.put, List.setIfInBounds_toArray, List.set_cons_zero, List.set_cons_succ], fun _ => ⟨HO8.out, hBl⟩⟩
            · obtain ⟨ma, cl, i1, i2, i3, i4, i5, d1, d2⟩ := s
              try dsimp only at h0 h1
              subst h0 h1
              have h3 := RgS.open hok (by show RgS.all5 _ = false; unfold RgS.all5; simp)
              try dsimp only at h3
              obtain ⟨e1, e2⟩ := h3
              subst e1 e2
              have hok2 : RgS.ok ⟨true, cl, i1, i2, true, i4, i5, false, false⟩ = true := by revert hok; cases cl <;> cases i1 <;> cases i2 <;> cases i4 <;> cases i5 <;> decide
              have hN2 : RgS.N ⟨true, cl, i1, i2, true, i4, i5, false, false⟩ < RgS.N ⟨true, cl, i1, i2, false, i4, i5, false, false⟩ := by clear hok hok2; cases cl <;> cases i1 <;> cases i2 <;> cases i4 <;> cases i5 <;> decide
              refine ⟨⟨true, cl, i1, i2, true, i4, i5, false, false⟩, rfl, hN2, ?_⟩
              obtain ⟨hO, hBl⟩ := HM.out rfl
              obtain ⟨w2, hr, hO2, hg⟩ := hO.put (by unfold RgS.cnt b1; dsimp only; (repeat' split) <;> omega) ⟨#[110, 111, 110, 99, 101]⟩ a.nonce (by decide) (by have := HZS.out.2.2.1; omega) HG3.out
              have HB8 : Hid (Below w6.heap.size w6 w2) := HB.out.grown hg HB.out.size (fun k hk => by cases hk; exact hBl)
              have HO8 : Hid (OwnT w2 B (RgS.cnt ⟨true, cl, i1, i2, true, i4, i5, false, false⟩) (GB d.x.params)) := hO2.mono (by unfold RgS.cnt; dsimp only; show _ ≤ _; simp only [show b1 true = 1 from rfl, show b1 false = 0 from rfl]; omega)
              clear hO hO2 hg
              cases cl
              all_goals
                refine wpOp_at (by rfl) (fun K hK => ?_)
                simp only [RgS.A, hA, Act.put, List.setIfInBounds_toArray, List.set_cons_zero, List.set_cons_succ]
                go_simp
                try go_wp2_with fail
                refine hK.out _ _ ⟨(HK6.out.below HB8.out).held, hok2, HB8, B, by simp only [RgS.A, hA, Act.put, List.setIfInBounds_toArray, List.set_cons_zero, List.set_cons_succ], fun _ => ⟨HO8.out, hBl⟩⟩
            · obtain ⟨ma, cl, i1, i2, i3, i4, i5, d1, d2⟩ := s
              try dsimp only at h0 h1
              subst h0 h1
              have h3 := RgS.open hok (by show RgS.all5 _ = false; unfold RgS.all5; simp)
              try dsimp only at h3
              obtain ⟨e1, e2⟩ := h3
              subst e1 e2
              have hok2 : RgS.ok ⟨true, cl, i1, i2, i3, true, i5, false, false⟩ = true := by revert hok; cases cl <;> cases i1 <;> cases i2 <;> cases i3 <;> cases i5 <;> decide
              have hN2 : RgS.N ⟨true, cl, i1, i2, i3, true, i5, false, false⟩ < RgS.N ⟨true, cl, i1, i2, i3, false, i5, false, false⟩ := by clear hok hok2; cases cl <;> cases i1 <;> cases i2 <;> cases i3 <;> cases i5 <;> decide
              refine ⟨⟨true, cl, i1, i2, i3, true, i5, false, false⟩, rfl, hN2, ?_⟩
              obtain ⟨hO, hBl⟩ := HM.out rfl
              obtain ⟨w2, hr, hO2, hg⟩ := hO.put (by unfold RgS.cnt b1; dsimp only; (repeat' split) <;> omega) ⟨#[117, 114, 105]⟩ t (by decide) (by have := HZS.out.2.2.2.1; omega) HG4.out
              have HB8 : Hid (Below w6.heap.size w6 w2) := HB.out.grown hg HB.out.size (fun k hk => by cases hk; exact hBl)
              have HO8 : Hid (OwnT w2 B (RgS.cnt ⟨true, cl, i1, i2, i3, true, i5, false, false⟩) (GB d.x.params)) := hO2.mono (by unfold RgS.cnt; dsimp only; show _ ≤ _; simp only [show b1 true = 1 from rfl, show b1 false = 0 from rfl]; omega)
              clear hO hO2 hg
              cases cl
              all_goals
                refine wpOp_at (by rfl) (fun K hK => ?_)
                simp only [RgS.A, hA, Act.put, List.setIfInBounds_toArray, List.set_cons_zero, List.set_cons_succ]
                go_simp
                try go_wp2_with fail
                refine hK.out _ _ ⟨(HK6.out.below HB8.out).held, hok2, HB8, B, by simp only [RgS.A, hA, Act.put, List.setIfInBounds_toArray, List.set_cons_zero, List.set_cons_succ], fun _ => ⟨HO8.out, hBl⟩⟩
            · obtain ⟨ma, cl, i1, i2, i3, i4, i5, d1, d2⟩ := s
              try dsimp only at h1
              subst h1
              have h3 := RgS.open hok (by show RgS.all5 _ = false; unfold RgS.all5; simp)
              try dsimp only at h3
              obtain ⟨e1, e2⟩ := h3
              subst e1 e2
              have hok2 : RgS.ok ⟨ma, true, i1, i2, i3, i4, i5, false, false⟩ = true := by revert hok; cases ma <;> cases i1 <;> cases i2 <;> cases i3 <;> cases i4 <;> cases i5 <;> decide
              have hN2 : RgS.N ⟨ma, true, i1, i2, i3, i4, i5, false, false⟩ < RgS.N ⟨ma, false, i1, i2, i3, i4, i5, false, false⟩ := by clear hok hok2; cases ma <;> cases i1 <;> cases i2 <;> cases i3 <;> cases i4 <;> cases i5 <;> decide
              refine ⟨⟨ma, true, i1, i2, i3, i4, i5, false, false⟩, rfl, hN2, ?_⟩
              cases ma
              all_goals
                refine wpOp_at (by rfl) (fun K hK => ?_)
                simp only [RgS.A, hA, Act.put, List.setIfInBounds_toArray, List.set_cons_zero, List.set_cons_succ]
                go_simp
                refine (hrs _ HTP).mono ?_
                rintro e w2 ⟨rfl, hb2⟩
                go_wp2_with fail
                have HB8 : Hid (Below w6.heap.size w6 w2) := HB.out.trans (hb2.mono HB.out.size)
                refine hK.out _ _ ⟨(HK6.out.below HB8.out).held, hok2, HB8, B, by simp only [RgS.A, hA, Act.put, List.setIfInBounds_toArray, List.set_cons_zero, List.set_cons_succ], fun h => by first | (cases h; done) | exact ⟨((HM.out (by first | rfl | trivial)).1.below hb2).mono (Nat.le_refl _), (HM.out (by first | rfl | trivial)).2⟩⟩
            · obtain ⟨ma, cl, i1, i2, i3, i4, i5, d1, d2⟩ := s
              try dsimp only at h0 h1 h2
              subst h0 h1 h2
              have h3 := RgS.open hok (by show RgS.all5 _ = false; unfold RgS.all5; simp)
              try dsimp only at h3
              obtain ⟨e1, e2⟩ := h3
              subst e1 e2
              have hok2 : RgS.ok ⟨true, true, i1, i2, i3, i4, true, false, false⟩ = true := by revert hok; cases i1 <;> cases i2 <;> cases i3 <;> cases i4 <;> decide
              have hN2 : RgS.N ⟨true, true, i1, i2, i3, i4, true, false, false⟩ < RgS.N ⟨true, true, i1, i2, i3, i4, false, false, false⟩ := by clear hok hok2; cases i1 <;> cases i2 <;> cases i3 <;> cases i4 <;> decide
              refine ⟨⟨true, true, i1, i2, i3, i4, true, false, false⟩, rfl, hN2, ?_⟩
              obtain ⟨hO, hBl⟩ := HM.out rfl
              obtain ⟨w2, hr, hO2, hg⟩ := hO.put (by unfold RgS.cnt b1; dsimp only; (repeat' split) <;> omega) ⟨#[114, 101, 115, 112, 111, 110, 115, 101]⟩ X (by decide) HXZ.out HG5.out
              have HB8 : Hid (Below w6.heap.size w6 w2) := HB.out.grown hg HB.out.size (fun k hk => by cases hk; exact hBl)
              have HO8 : Hid (OwnT w2 B (RgS.cnt ⟨true, true, i1, i2, i3, i4, true, false, false⟩) (GB d.x.params)) := hO2.mono (by unfold RgS.cnt; dsimp only; show _ ≤ _; simp only [show b1 true = 1 from rfl, show b1 false = 0 from rfl]; omega)
              clear hO hO2 hg
              refine wpOp_at (by rfl) (fun K hK => ?_)
              simp only [RgS.A, hA, Act.put, List.setIfInBounds_toArray, List.set_cons_zero, List.set_cons_succ]
              go_simp
              try go_wp2_with fail
              refine hK.out _ _ ⟨(HK6.out.below HB8.out).held, hok2, HB8, B, by simp only [RgS.A, hA, Act.put, List.setIfInBounds_toArray, List.set_cons_zero, List.set_cons_succ], fun _ => ⟨HO8.out, hBl⟩⟩
            · obtain ⟨ma, cl, i1, i2, i3, i4, i5, d1, d2⟩ := s
              unfold RgS.all5 at h0
              simp only [Bool.and_eq_true] at h0
              obtain ⟨⟨⟨⟨⟨⟨g1, g2⟩, g3⟩, g4⟩, g5⟩, g6⟩, g7⟩ := h0
              try dsimp only at g1 g2 g3 g4 g5 g6 g7 h1
              subst g1 g2 g3 g4 g5 g6 g7 h1
              have e2 : d2 = false := by revert hok; cases d2 <;> decide
              subst e2
              have hok2 : RgS.ok ⟨true, true, true, true, true, true, true, true, false⟩ = true := by revert hok; decide
              have hN2 : RgS.N ⟨true, true, true, true, true, true, true, true, false⟩ < RgS.N ⟨true, true, true, true, true, true, true, false, false⟩ := by clear hok hok2; decide
              refine ⟨⟨true, true, true, true, true, true, true, true, false⟩, rfl, hN2, ?_⟩
              refine wpOp_at (by rfl) (fun K hK => ?_)
              simp only [RgS.A, hA, Act.put, List.setIfInBounds_toArray, List.set_cons_zero, List.set_cons_succ]
              go_simp
              try go_wp2_with fail
              refine hK.out _ _ ⟨HK7.out.held, hok2, HB, B, by simp only [RgS.A, hA, Act.put, List.setIfInBounds_toArray, List.set_cons_zero, List.set_cons_succ], HM.out⟩
            · obtain ⟨ma, cl, i1, i2, i3, i4, i5, d1, d2⟩ := s
              try dsimp only at h0 h1
              subst h0 h1
              have g0 : ma = true ∧ cl = true ∧ i1 = true ∧ i2 = true ∧ i3 = true ∧ i4 = true ∧ i5 = true := by revert hok; cases ma <;> cases cl <;> cases i1 <;> cases i2 <;> cases i3 <;> cases i4 <;> cases i5 <;> decide
              obtain ⟨g1, g2, g3, g4, g5, g6, g7⟩ := g0
              subst g1 g2 g3 g4 g5 g6 g7
              have hok2 : RgS.ok ⟨true, true, true, true, true, true, true, true, true⟩ = true := by revert hok; decide
              have hN2 : RgS.N ⟨true, true, true, true, true, true, true, true, true⟩ < RgS.N ⟨true, true, true, true, true, true, true, true, false⟩ := by clear hok hok2; decide
              refine ⟨⟨true, true, true, true, true, true, true, true, true⟩, rfl, hN2, ?_⟩
              refine wpOp_at (by rfl) (fun K hK => ?_)
              simp only [RgS.A, hA, Act.put, List.setIfInBounds_toArray, List.set_cons_zero, List.set_cons_succ]
              go_simp
              try go_wp2_with fail
              refine hK.out _ _ ⟨HK7.out.held, hok2, HB, B, by simp only [RgS.A, hA, Act.put, List.setIfInBounds_toArray, List.set_cons_zero, List.set_cons_succ], HM.out⟩
          · rintro s a' w' ⟨hok, HB, B, rfl, HM⟩ hR0
            have hs := RgS.done hok hR0
            subst hs
            obtain ⟨hO, hBl⟩ := HM.out rfl
            simp only [RgS.A, hA, Act.put, List.setIfInBounds_toArray, List.set_cons_zero, List.set_cons_succ]
            go_wp2
            go_meet
            exact ⟨B, rfl, hO, HB, hBl⟩
        case rest =>
          obtain ⟨B, rfl, HO7, HB7, hBl⟩ := hcut
          have HK7 : Hid (AcK w wc a st dv u p) := HK6.out.below HB7.out
          have HDS : Hid (d.x.scheme = ⟨#[68, 105, 103, 101, 115, 116]⟩) := hdx'
          obtain ⟨q0, e3⟩ : ∃ b, a.qop.toList.isEmpty = b := ⟨_, rfl⟩
          have HQL : Hid (a.qop.data.toList = [] ↔ q0 = true) := by show _ ↔ _; rw [← e3, ByteArray.toList_eq]; simp
          clear hrs HX HXZ HG1 HG2 HG3 HG4 HG5 hdx'
          obtain ⟨c0, c1, c2, c3, c4, c5, c6, c7, d0, d1, _, _, _⟩ := HK7.out
          go_upto_if 95 with fail
          go_cut [] (fun wq => Hid (OwnT wq B 8 (GB d.x.params)) ∧ Hid (Below w6.heap.size w6 wq))
          case first =>
            cases q0
            · have hqn : ¬ a.qop.data.toList = [] := fun h => by have := HQL.out.1 h; cases this
              obtain ⟨C, HC⟩ : ∃ C, Hid (bs (countL k) = C) := ⟨_, rfl⟩
              have HG6 : Hid (GB d.x.params nQop a.qop.data.toList) := ⟨by rw [bs_self, HGX.out.qop, if_neg hqn], by decide⟩
              have HG7 : Hid (GB d.x.params nNc C.data.toList) := ⟨by rw [bs_self, HGX.out.nc, if_neg hqn, HC.out], by decide⟩
              have HG8 : Hid (GB d.x.params nCn c.data.toList) := ⟨by rw [bs_self]; exact HGX.out.cn hqn, by decide⟩
              have HCZ : Hid (C.size ≤ 100000) := by show _ ≤ _; rw [← HC.out, bs_size]; exact Nat.le_trans (countL_len _) (by decide)
              have hct := fun w hB => count_any k (by omega) w hB
              simp only [HC.out] at hct
              go_upto_region 13 with fail
              have hKd : AcK w wc.drew a st dv u p := HK7.out.below (Below.refl _ _).drew
              refine wp_region_held_drew (S := (fun W => W.cell? ⟨w.heap.size, 0, none⟩ = some (.int .i64 a.scheme) ∧ W.cell? ⟨w.heap.size, 1, none⟩ = some (.string a.realm) ∧ W.cell? ⟨w.heap.size, 2, none⟩ = some (.string a.nonce) ∧ W.cell? ⟨w.heap.size, 3, none⟩ = some (.string a.opq) ∧ W.cell? ⟨w.heap.size, 4, none⟩ = some (.bool a.sess) ∧ W.cell? ⟨w.heap.size, 5, none⟩ = some (.string a.qop) ∧ W.cell? ⟨w.heap.size, 6, none⟩ = some (.bool st) ∧ W.cell? ⟨w.heap.size, 7, none⟩ = some dv ∧ W.cell? ⟨w.heap.size + 1, 0, none⟩ = some (.string u) ∧ W.cell? ⟨w.heap.size + 1, 1, none⟩ = some (.string p) ∧ Hid (AcK w W a st dv u p))) (by kernel_rfl) hKd.held (fun hHeld => ?_)
              refine takeH (i := 0) (d := some 96) (v := ?_) rfl rfl (by kernel_rfl) (by kernel_rfl) (by kernel_rfl) (fun _ _ _ h => h) (by rfl) ?_ (by assumption) ?_
              rotate_left
              · intro w hSw; obtain ⟨c0, c1, c2, c3, c4, c5, c6, c7, d0, d1, q0⟩ := hSw; go_simp; with_reducible rfl
              try simp only [Act.put, List.setIfInBounds_toArray, List.set_cons_zero, List.set_cons_succ]
              refine takeH (i := 1) (d := some 97) (v := ?_) rfl rfl (by kernel_rfl) (by kernel_rfl) (by kernel_rfl) (fun _ _ _ h => h) (by rfl) ?_ (by assumption) ?_
              rotate_left
              · intro w hSw; obtain ⟨c0, c1, c2, c3, c4, c5, c6, c7, d0, d1, q0⟩ := hSw; go_simp; with_reducible rfl
              try simp only [Act.put, List.setIfInBounds_toArray, List.set_cons_zero, List.set_cons_succ]
              refine takeH (i := 2) (d := some 98) (v := ?_) rfl rfl (by kernel_rfl) (by kernel_rfl) (by kernel_rfl) (fun _ _ _ h => h) (by rfl) ?_ (by assumption) ?_
              rotate_left
              · intro w hSw; obtain ⟨c0, c1, c2, c3, c4, c5, c6, c7, d0, d1, q0⟩ := hSw; go_simp; with_reducible rfl
              try simp only [Act.put, List.setIfInBounds_toArray, List.set_cons_zero, List.set_cons_succ]
              refine takeH (i := 3) (d := some 99) (v := ?_) rfl rfl (by kernel_rfl) (by kernel_rfl) (by kernel_rfl) (fun _ _ _ h => h) (by rfl) ?_ (by assumption) ?_
              rotate_left
              · intro w hSw; obtain ⟨c0, c1, c2, c3, c4, c5, c6, c7, d0, d1, q0⟩ := hSw; go_simp; with_reducible rfl
              try simp only [Act.put, List.setIfInBounds_toArray, List.set_cons_zero, List.set_cons_succ]
              refine takeH (i := 4) (d := some 100) (v := ?_) rfl rfl (by kernel_rfl) (by kernel_rfl) (by kernel_rfl) (fun _ _ _ h => h) (by rfl) ?_ (by assumption) ?_
              rotate_left
              · intro w hSw; obtain ⟨c0, c1, c2, c3, c4, c5, c6, c7, d0, d1, q0⟩ := hSw; go_simp; with_reducible rfl
              try simp only [Act.put, List.setIfInBounds_toArray, List.set_cons_zero, List.set_cons_succ]
              refine takeH (i := 5) (d := some 101) (v := ?_) rfl rfl (by kernel_rfl) (by kernel_rfl) (by kernel_rfl) (fun _ _ _ h => h) (by rfl) ?_ (by assumption) ?_
              rotate_left
              · intro w hSw; obtain ⟨c0, c1, c2, c3, c4, c5, c6, c7, d0, d1, q0⟩ := hSw; go_simp; with_reducible rfl
              try simp only [Act.put, List.setIfInBounds_toArray, List.set_cons_zero, List.set_cons_succ]
              refine takeH (i := 7) (d := some 103) (v := ?_) rfl rfl (by kernel_rfl) (by kernel_rfl) (by kernel_rfl) (fun _ _ _ h => h) (by rfl) ?_ (by assumption) ?_
              rotate_left
              · intro w hSw; obtain ⟨c0, c1, c2, c3, c4, c5, c6, c7, d0, d1, q0⟩ := hSw; go_simp; with_reducible rfl
              try simp only [Act.put, List.setIfInBounds_toArray, List.set_cons_zero, List.set_cons_succ]
              refine wpAnyH_ready (rs := [6]) (by kernel_rfl) (by simp) ?_
              refine AllReadyH.cons (by rfl) (fun K hKK => ?_) AllReadyH.nil
              go_simp
              refine (hct _ hKd.tabs.bruijn).mono ?_
              rintro e w8 ⟨rfl, hb8⟩
              have HB8 : Hid (Below w6.heap.size w6 w8) := HB7.out.drew.trans (hb8.mono HB7.out.size)
              have HO8 : Hid (OwnT w8 B 5 (GB d.x.params)) := (HO7.out.below (Below.refl _ _).drew).below hb8
              clear hb8
              go_wp2_with fail
              refine hKK.out _ _ (HK6.out.below HB8.out).held (fun hHeld => ?_)
              clear hKK K
              try simp only [Act.put, List.setIfInBounds_toArray, List.set_cons_zero, List.set_cons_succ]
              obtain ⟨w9, hr9, hO9, hg9⟩ := HO8.out.put (by decide) ⟨#[113, 111, 112]⟩ a.qop (by decide) (by have := HZS.out.2.2.2.2.2.1; omega) HG6.out
              have HB9 : Hid (Below w6.heap.size w6 w9) := HB8.out.grown hg9 HB8.out.size (fun k hk => by cases hk; exact hBl)
              have HO9 : Hid (OwnT w9 B 6 (GB d.x.params)) := hO9
              clear hO9 hg9
              refine wpAnyH_ready (rs := [8]) (by kernel_rfl) (by simp) ?_
              refine AllReadyH.cons (by rfl) (fun K hKK => ?_) AllReadyH.nil
              go_simp
              try go_wp2_with fail
              refine hKK.out _ _ (HK6.out.below HB9.out).held (fun hHeld => ?_)
              clear hKK K hr9
              try simp only [Act.put, List.setIfInBounds_toArray, List.set_cons_zero, List.set_cons_succ]
              obtain ⟨w10, hr10, hO10, hg10⟩ := HO9.out.put (by decide) ⟨#[110, 99]⟩ C (by decide) HCZ.out HG7.out
              have HB10 : Hid (Below w6.heap.size w6 w10) := HB9.out.grown hg10 HB9.out.size (fun k hk => by cases hk; exact hBl)
              have HO10 : Hid (OwnT w10 B 7 (GB d.x.params)) := hO10
              clear hO10 hg10
              refine wpAnyH_ready (rs := [9]) (by kernel_rfl) (by simp) ?_
              refine AllReadyH.cons (by rfl) (fun K hKK => ?_) AllReadyH.nil
              go_simp
              try go_wp2_with fail
              refine hKK.out _ _ (HK6.out.below HB10.out).held (fun hHeld => ?_)
              clear hKK K hr10
              try simp only [Act.put, List.setIfInBounds_toArray, List.set_cons_zero, List.set_cons_succ]
              obtain ⟨w11, hr11, hO11, hg11⟩ := HO10.out.put (by decide) ⟨#[99, 110, 111, 110, 99, 101]⟩ c (by decide) (by have := HZS.out.2.2.2.2.1; omega) HG8.out
              have HB11 : Hid (Below w6.heap.size w6 w11) := HB10.out.grown hg11 HB10.out.size (fun k hk => by cases hk; exact hBl)
              have HO11 : Hid (OwnT w11 B 8 (GB d.x.params)) := hO11
              clear hO11 hg11
              refine wpAnyH_ready (rs := [10]) (by kernel_rfl) (by simp) ?_
              refine AllReadyH.cons (by rfl) (fun K hKK => ?_) AllReadyH.nil
              go_simp
              try go_wp2_with fail
              refine hKK.out _ _ (HK6.out.below HB11.out).held (fun hHeld => ?_)
              clear hKK K hr11
              try simp only [Act.put, List.setIfInBounds_toArray, List.set_cons_zero, List.set_cons_succ]
              refine wpAnyH_done (by kernel_rfl) ?_ _
              go_wp2_with fail
              go_meet
              exact ⟨HO11, HB11⟩
            · go_wp2
              go_meet
              exact ⟨HO7.out.mono (by decide), HB7⟩
          case rest =>
            obtain ⟨HO8, HB8⟩ := hcut
            have HK8 : Hid (AcK w wc a st dv u p) := HK6.out.below HB8.out
            try clear c0 c1 c2 c3 c4 c5 c6 c7 d0 d1
            try clear HO7 HB7 HK7
            obtain ⟨o0, eo⟩ : ∃ b, a.opq.toList.isEmpty = b := ⟨_, rfl⟩
            have HOL : Hid (a.opq.data.toList = [] ↔ o0 = true) := by show _ ↔ _; rw [← eo, ByteArray.toList_eq]; simp
            obtain ⟨c0, c1, c2, c3, c4, c5, c6, c7, d0, d1, _, _, _⟩ := HK8.out
            go_upto_if 106 with fail
            go_cut [] (fun wq => Hid (OwnT wq B 9 (GB d.x.params)) ∧ Hid (Below w6.heap.size w6 wq))
            case first =>
              cases o0
              · have hqn : ¬ a.opq.data.toList = [] := fun h => by have := HOL.out.1 h; cases this
                have HG9 : Hid (GB d.x.params nOpq a.opq.data.toList) := ⟨by rw [bs_self, HGX.out.opq, if_neg hqn], by decide⟩
                obtain ⟨w9, hr9, hO9, hg9⟩ := HO8.out.put (by decide) ⟨#[111, 112, 97, 113, 117, 101]⟩ a.opq (by decide) (by have := HZS.out.2.2.2.2.2.2; omega) HG9.out
                have HB9 : Hid (Below w6.heap.size w6 w9) := HB8.out.grown hg9 HB8.out.size (fun k hk => by cases hk; exact hBl)
                have HO9 : Hid (OwnT w9 B 9 (GB d.x.params)) := hO9
                clear hO9 hg9
                go_wp2
                go_meet
                exact ⟨HO9, HB9⟩
              · go_wp2
                go_meet
                exact ⟨HO8.out.mono (by decide), HB8⟩
            case rest =>
              obtain ⟨HO9, HB9⟩ := hcut
              try clear c0 c1 c2 c3 c4 c5 c6 c7 d0 d1
              try clear HO8 HB8 HK8 HOL eo o0
              have hgt := fun n hn w hx => get_any d n HM.out.1 hn w hx
              simp only [HDS.out] at hgt
              go_wp2_with (first | (at_range; refine wp_rangeT rfl _ _ rfl Tryz.underlying40 wc B 9 (GB d.x.params) rfl HO9.out ?_; intro wr cnt hR hgr hsz; have HR : Hid (RngT wr B wc.heap.size 9 (GB d.x.params) cnt) := hR; have HBR : Hid (Below w6.heap.size w6 wr) := HB9.out.grown hgr HB9.out.size (fun k hk => by cases hk); clear hR hgr hsz) | go_in)
              try go_frame
              obtain ⟨r, HRR⟩ : ∃ r, Hid (wc.heap.size = r ∧ w6.heap.size ≤ r) := ⟨_, rfl, HB9.out.size⟩
              rw [HRR.out.1] at HR ⊢
              have HR1 : Hid (RngT wr B r 9 (GB d.x.params) cnt) := HR
              clear HO9 HB9 HR
              go_loopw [] (fun wr => ∃ (cnt : Nat), Hid (RngT wr B r 9 (GB d.x.params) cnt) ∧ Hid (Below w6.heap.size w6 wr)) (fun wr => wr.rangeLeft B r)
              case atStart => exact ⟨cnt, HR1, HBR⟩
              case round =>
                clear HR1 HBR
                obtain ⟨cnt, HJ, HB⟩ := hrel
                go_wp2_with (first | (at_next; refine wp_nextT rfl _ rfl wr B r 9 cnt (GB d.x.params) rfl HJ.out ?_ ?_) | go_in)
                · intro hdn
                  clear hdn
                  have HKr : Hid (AcK w wr a st dv u p) := HK6.out.below HB.out
                  have HPr : Hid (ChOk wr d) := HP.out.below HB.out
                  have k0 : wr.cell? ⟨g, 0, none⟩ = some (.string ⟨#[68, 105, 103, 101, 115, 116]⟩) := (HB.out.cell (p := ⟨g, 0, none⟩) hgl).trans g0
                  have k1 : wr.cell? ⟨g, 1, none⟩ = some (.string d.x.token) := (HB.out.cell (p := ⟨g, 1, none⟩) hgl).trans g1
                  have k2 : wr.cell? ⟨g, 2, none⟩ = some (.slice d.a d.len d.cap) := (HB.out.cell (p := ⟨g, 2, none⟩) hgl).trans g2
                  obtain ⟨c0, c1, c2, c3, c4, c5, c6, c7, d0, d1, _, _, _⟩ := HKr.out
                  have hgn := hgt ⟨#[110, 99]⟩ (by decide) wr HPr.out
                  have hnc : getL d.x.params [110, 99] = if a.qop.data.toList = [] then none else some (bs (countL k)) := HGX.out.nc
                  have hnl : (⟨#[110, 99]⟩ : ByteArray).data.toList = [110, 99] := rfl
                  rw [hnl, hnc] at hgn
                  clear hnc hnl HJ g0 g1 g2
                  cases q0
                  · rw [if_neg (fun h => by have := HQL.out.1 h; cases this)] at hgn
                    simp only [optV, Option.getD_some, Option.isSome_some] at hgn
                    generalize bs (countL k) = C at hgn
                    go_wp2_with fail
                    refine hgn.mono ?_
                    rintro e wz ⟨rfl, hbz⟩
                    have HKz : Hid (AcK w wz a st dv u p) := HKr.out.below hbz
                    clear hbz c0 c1 c2 c3 c4 c5 c6 c7 d0 d1 hgn
                    obtain ⟨c0, c1, c2, c3, c4, c5, c6, c7, d0, d1, _, _, _⟩ := HKz.out
                    go_wp2
                    go_ret
                    exact ⟨by first | rfl | simp [e3], HKz.out.bel⟩
                  · rw [if_pos (HQL.out.2 rfl)] at hgn
                    simp only [optV, Option.getD_none, Option.isSome_none] at hgn
                    go_wp2_with fail
                    refine hgn.mono ?_
                    rintro e wz ⟨rfl, hbz⟩
                    have HKz : Hid (AcK w wz a st dv u p) := HKr.out.below hbz
                    clear hbz c0 c1 c2 c3 c4 c5 c6 c7 d0 d1 hgn
                    obtain ⟨c0, c1, c2, c3, c4, c5, c6, c7, d0, d1, _, _, _⟩ := HKz.out
                    go_wp2
                    go_ret
                    exact ⟨by first | rfl | simp [e3], HKz.out.bel⟩
                · intro kk vv w10 cnt10 hG hR10 hlt10 hg10 hs10 hen
                  have HJ10 : Hid (RngT w10 B r 9 (GB d.x.params) cnt10 ∧ cnt10 < cnt ∧ wr.rangeLeft B r = cnt) := ⟨hR10, hlt10, by obtain ⟨_, _, h, _⟩ := HJ.out; exact h.left_eq⟩
                  have HB10 : Hid (Below w6.heap.size w6 w10) := HB.out.grown hg10 HB.out.size (fun k hk => by cases hk; exact HRR.out.2)
                  have HP10 : Hid (ChOk w10 d) := HP.out.below HB10.out
                  have k0 : w10.cell? ⟨g, 0, none⟩ = some (.string ⟨#[68, 105, 103, 101, 115, 116]⟩) := (HB10.out.cell (p := ⟨g, 0, none⟩) hgl).trans g0
                  have k1 : w10.cell? ⟨g, 1, none⟩ = some (.string d.x.token) := (HB10.out.cell (p := ⟨g, 1, none⟩) hgl).trans g1
                  have k2 : w10.cell? ⟨g, 2, none⟩ = some (.slice d.a d.len d.cap) := (HB10.out.cell (p := ⟨g, 2, none⟩) hgl).trans g2
                  have hkz : kk.size ≤ 3000 := by have h1 : kk.data.toList.length = kk.size := Array.length_toList; have := hG.2; omega
                  have hgn := hgt kk hkz w10 HP10.out
                  rw [hG.1, bs_self] at hgn
                  simp only [optV, Option.getD_some, Option.isSome_some] at hgn
                  have HBr : Hid (B < w10.heap.size ∧ r < w10.heap.size) := by
                    obtain ⟨_, _, h, _⟩ := hR10
                    exact ⟨h.owns.lt, h.lt⟩
                  clear hG hR10 hlt10 hg10 hs10 HJ HB g0 g1 g2 hkz
                  go_wp2_with fail
                  refine hgn.mono ?_
                  rintro e wz ⟨rfl, hbz⟩
                  have HBz : Hid (Below w6.heap.size w6 wz) := HB10.out.trans (hbz.mono HB10.out.size)
                  have HJz : Hid (RngT wz B r 9 (GB d.x.params) cnt10 ∧ cnt10 < cnt ∧ wr.rangeLeft B r = cnt) := ⟨by obtain ⟨D, left, h, h2⟩ := HJ10.out.1; exact ⟨D, left, h.kept (row := none) ⟨hbz.os, hbz.tape, hbz.output, hbz.size, fun i hi _ => hbz.block i hi⟩ (by simp) (by simp), h2⟩, HJ10.out.2⟩
                  clear hbz hgn
                  go_wp2
                  go_roundw
                  case rel => exact ⟨cnt10, HJz.out.1, HBz⟩
                  case measure => obtain ⟨_, _, h, _⟩ := HJz.out.1; rw [h.left_eq, HJz.out.2.2]; exact HJz.out.2.1
      · have := h1.symm.trans HA.out
        cases this
end Go.Proofs.YtgajhmmildbkfaaGreatDoor

/- What the library's table holds, by what the row lays. -/
namespace Go.Proofs.YtgajhmmildbkfaaGreatDoor
open Go.RowKit

def bruijnL : List Int := [0, 1, 56, 2, 57, 49, 28, 3, 61, 58, 42, 50, 38, 29, 17, 4, 62, 47, 59, 36, 45, 43, 51, 22, 53, 39, 33, 30, 24, 18, 12, 5, 63, 55, 48, 27, 60, 41, 37, 16, 46, 35, 44, 21, 52, 32, 23, 11, 54, 26, 40, 15, 34, 20, 31, 10, 25, 14, 19, 9, 13, 8, 7, 6]
theorem bruijn_laid {W : World} (h : Lib.VarReads Tryz.prog W "math/bits.deBruijn64tab" Rows.laid_math_bits_deBruijn64tab) : Bruijn W := by
  have hc : W.cell? ⟨7, 15, none⟩ = some (.int .u8 4) := by
    have h' : Lib.VarReads Tryz.prog W "math/bits.deBruijn64tab" (Lib.tabData .u8 bruijnL) := h
    obtain ⟨g', t', cs, fuel, p, hg, hty', hvar, hd⟩ := h'
    have hn : Tryz.prog.globalNamed "math/bits.deBruijn64tab" = some 7 := by kernel_rfl
    have hty : (Tryz.prog.globals[7]?).map (·.type) = some 175 := by kernel_rfl
    obtain rfl := Option.some.inj (hn.symm.trans hg)
    obtain rfl := Option.some.inj (hty.symm.trans hty')
    have hcs := Lib.cells_of_tab Tryz.underlying175 Tryz.underlying5 (by kernel_rfl) (by kernel_rfl) hd
    have := World.var?_cell hg hvar 15
    rw [this, ← Array.getElem?_toList, hcs]
    rfl
  refine ⟨hc, ?_⟩
  rcases Nat.lt_or_ge 7 W.heap.size with hl | hl
  · exact hl
  · simp [World.cell?, Array.getElem?_eq_none hl] at hc
end Go.Proofs.YtgajhmmildbkfaaGreatDoor

/- What the tables hold, by what the row lays. -/
namespace Go.Proofs.YtgajhmmildbkfaaGreatDoor
open Go.RowKit

theorem lt_of_cell {W : World} {g i : Nat} {v : Value} (h : W.cell? ⟨g, i, none⟩ = some v) : g < W.heap.size := by
  rcases Nat.lt_or_ge g W.heap.size with hl | hl
  · exact hl
  · simp [World.cell?, Array.getElem?_eq_none hl] at h
theorem tab_at {W : World} (name : String) (g t e n : Nat) (k : IntKind) (zs : List Int) (hn : Tryz.prog.globalNamed name = some g) (hty : (Tryz.prog.globals[g]?).map (·.type) = some t) (ht : Tryz.prog.underlying t = some (.array n e)) (he : Tryz.prog.underlying e = some (.int k))
    (hce : Tryz.prog.cellsOf e = 1) (hct : Tryz.prog.cellsOf t = n) (h : Lib.VarReads Tryz.prog W name (Lib.tabData k zs)) (i : Nat) (z : Int) (hz : zs[i]? = some z) : W.cell? ⟨g, i, none⟩ = some (.int k z) := by
  obtain ⟨g', t', cs, fuel, p, hg, hty', hvar, hd⟩ := h
  obtain rfl := Option.some.inj (hn.symm.trans hg)
  obtain rfl := Option.some.inj (hty.symm.trans hty')
  have hcs := Lib.cells_of_tab ht he hce hct hd
  have := World.var?_cell hg hvar i
  rw [this, ← Array.getElem?_toList, hcs]
  simp [hz]
theorem cast_at (l : List Nat) (i : Nat) (h : i < l.length) : (l.map fun (n : Nat) => (n : Int))[i]? = some ((l.getD i 0 : Nat) : Int) := by
  simp [h]
theorem sines_laid {W : World} (h : Lib.VarReads Tryz.prog W "gatepost/api.Sines" Rows.laid_gatepost_api_Sines) : Sines W := by
  have hc := fun i (hi : i < 64) => tab_at "gatepost/api.Sines" 2 119 114 64 .u32 (sinesL.map fun (n : Nat) => (n : Int)) (by kernel_rfl) (by kernel_rfl) Tryz.underlying119 Tryz.underlying114 (by kernel_rfl) (by kernel_rfl) h i _ (cast_at sinesL i hi)
  exact ⟨hc, lt_of_cell (hc 0 (by omega))⟩
theorem roots_laid {W : World} (h : Lib.VarReads Tryz.prog W "gatepost/api.Roots" Rows.laid_gatepost_api_Roots) : Roots W := by
  have hc := fun i (hi : i < 64) => tab_at "gatepost/api.Roots" 1 119 114 64 .u32 (rootsL.map fun (n : Nat) => (n : Int)) (by kernel_rfl) (by kernel_rfl) Tryz.underlying119 Tryz.underlying114 (by kernel_rfl) (by kernel_rfl) h i _ (cast_at rootsL i hi)
  exact ⟨hc, lt_of_cell (hc 0 (by omega))⟩
theorem begin_laid {W : World} (h : Lib.VarReads Tryz.prog W "gatepost/api.Begin" Rows.laid_gatepost_api_Begin) : Begin W := by
  have hc := fun i (hi : i < 8) => tab_at "gatepost/api.Begin" 0 115 114 8 .u32 (beginL.map fun (n : Nat) => (n : Int)) (by kernel_rfl) (by kernel_rfl) Tryz.underlying115 Tryz.underlying114 (by kernel_rfl) (by kernel_rfl) h i _ (cast_at beginL i hi)
  exact ⟨hc, lt_of_cell (hc 0 (by omega))⟩
def rowT (i : Nat) : List Int := [((turnsL.getD (i * 4) 0 : Nat) : Int), ((turnsL.getD (i * 4 + 1) 0 : Nat) : Int), ((turnsL.getD (i * 4 + 2) 0 : Nat) : Int), ((turnsL.getD (i * 4 + 3) 0 : Nat) : Int)]
theorem turns_data : (Rows.laid_gatepost_sum_turns : DataW Unit) = .agg [Lib.tabData .i64 (rowT 0), Lib.tabData .i64 (rowT 1), Lib.tabData .i64 (rowT 2), Lib.tabData .i64 (rowT 3)] := rfl
theorem turns_laid {W : World} (h : Lib.VarReads Tryz.prog W "gatepost/sum.turns" Rows.laid_gatepost_sum_turns) : Turns W := by
  have hc : ∀ q r, q < 4 → r < 4 → W.cell? ⟨3, q * 4 + r, none⟩ = some (.int .i64 ((turnsL.getD (q * 4 + r) 0 : Nat) : Int)) := by
    intro q r hq hr
    obtain ⟨g', t', cs, fuel, p, hg, hty, hvar, hd⟩ := h
    have hn : Tryz.prog.globalNamed "gatepost/sum.turns" = some 3 := by kernel_rfl
    have ht : (Tryz.prog.globals[3]?).map (·.type) = some 154 := by kernel_rfl
    obtain rfl := Option.some.inj (hn.symm.trans hg)
    obtain rfl := Option.some.inj (ht.symm.trans hty)
    rw [turns_data] at hd
    obtain ⟨fuel', d, q', hdi, he⟩ := Lib.array_elem Tryz.underlying154 hd q hq
    have h4 : Tryz.prog.cellsOf 153 = 4 := by kernel_rfl
    have h1 : Tryz.prog.cellsOf 3 = 1 := by kernel_rfl
    rw [h4] at he
    have hd2 : d = Lib.tabData .i64 (rowT q) := by
      obtain rfl | rfl | rfl | rfl : q = 0 ∨ q = 1 ∨ q = 2 ∨ q = 3 := by omega
      all_goals (simp at hdi; exact hdi.symm)
    subst hd2
    have hcs := Lib.cells_of_tab Tryz.underlying153 Tryz.underlying3 h1 h4 he
    have e := congrArg (·[r]?) hcs
    have := World.var?_cell hg hvar (q * 4 + r)
    rw [this, ← Array.getElem?_toList]
    simp only [List.getElem?_take, List.getElem?_drop, if_pos hr] at e
    rw [e]
    obtain rfl | rfl | rfl | rfl : r = 0 ∨ r = 1 ∨ r = 2 ∨ r = 3 := by omega
    all_goals simp [rowT]
  have hc2 : ∀ i, i < 16 → W.cell? ⟨3, i, none⟩ = some (.int .i64 ((turnsL.getD i 0 : Nat) : Int)) := by
    intro i hi
    have := hc (i / 4) (i % 4) (by omega) (by omega)
    have e : i / 4 * 4 + i % 4 = i := by omega
    rwa [e] at this
  exact ⟨hc2, lt_of_cell (hc2 0 (by omega))⟩
end Go.Proofs.YtgajhmmildbkfaaGreatDoor

/- The tables that a proof reads, by what the row lays. -/
namespace Go.Proofs.YtgajhmmildbkfaaGreatDoor
open Go.RowKit

theorem tabs_laid {W : World} (h0 : Lib.VarReads Tryz.prog W "math/bits.deBruijn64tab" Rows.laid_math_bits_deBruijn64tab) (h1 : Lib.VarReads Tryz.prog W "gatepost/api.Sines" Rows.laid_gatepost_api_Sines) (h2 : Lib.VarReads Tryz.prog W "gatepost/api.Roots" Rows.laid_gatepost_api_Roots)
    (h3 : Lib.VarReads Tryz.prog W "gatepost/api.Begin" Rows.laid_gatepost_api_Begin) (h4 : Lib.VarReads Tryz.prog W "gatepost/sum.turns" Rows.laid_gatepost_sum_turns) : Tabs W :=
  ⟨sines_laid h1, turns_laid h4, begin_laid h3, roots_laid h2, bruijn_laid h0⟩
end Go.Proofs.YtgajhmmildbkfaaGreatDoor
