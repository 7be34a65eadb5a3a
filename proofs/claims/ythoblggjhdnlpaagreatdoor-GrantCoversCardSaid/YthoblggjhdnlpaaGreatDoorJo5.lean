/- Texts of one claim, joined: each begins with what it proves. -/
import Derived.Test.YthoblggjhdnlpaaGreatDoorJo4
import Derived.Test.YthoblggjhdnlpaaGreatDoorJo3
import Derived.Test.YthoblggjhdnlpaaGreatDoorJo2
import Derived.Test.YthoblggjhdnlpaaGreatDoorJo1
import Derived.Deep.Onto
import Derived.Deep.LoopGhost
import Derived.Laws.OwnMore
import Derived.Laws.IdiomCopy
import Derived.Deep.Upon
import Derived.Below
import Derived.Shelf.SlicesQ.Load
import Derived.Deep.QuietTactic
import Derived.BigQuiet
import Derived.Deep.AppendLies
import Derived.Deep.Cut
import Derived.Deep.Draws
/- Fields: the lines of an answer, by the program. -/
namespace Go.Proofs.YthoblggjhdnlpaaGreatDoor
open Go.RowKit

/-- What Fields answers. -/
def FldAns (o : Except (Option Nat) (List Par)) (B : Nat) (e : Ending) (w' : World) : Prop :=
  (∃ acc v, o = .ok acc ∧ acc.length ≤ 40 ∧ e = .returned (.tuple #[v, .nilIface]) ∧ OwnP w' B v acc) ∨
  (o = .error none ∧ e = .returned (.tuple #[.slice none 0 0, .iface 54 (.int .i64 4)])) ∨
  (∃ i g : Nat, o = .error (some i) ∧ e = .returned (.tuple #[.slice none 0 0, .iface 70 (.pointer (some ⟨g, 0, none⟩))]) ∧ w'.cell? ⟨g, 0, none⟩ = some (.int .i64 3) ∧ w'.cell? ⟨g, 1, none⟩ = some (.int .i64 (i : Int)) ∧ B ≤ g)
theorem drop_at9 {α : Type} {l : List α} {k : Nat} {x : α} (h : l[k]? = some x) : l.drop k = x :: l.drop (k + 1) := by
  obtain ⟨hl, e⟩ := List.getElem?_eq_some_iff.1 h
  rw [List.drop_eq_getElem_cons hl, e]
theorem OwnP.mono9 {w : World} {B B' : Nat} {v : Value} {ps : List Par} (h : OwnP w B v ps) (hb : B' ≤ B) : OwnP w B' v ps := World.ownsRow.mono h hb
set_option maxRecDepth 100000 in
set_option maxHeartbeats 8000000 in
theorem fields9_any (s : ByteArray) (hs : s.size ≤ 3000) (w : World) :
    Calls Tryz.prog 12 #[.string s] w fun e w' => FldAns (fieldsF s.data.toList) w.heap.size e w' ∧ Below w.heap.size w w' := by
  obtain ⟨o, HO⟩ : ∃ o, Hid (fieldsF s.data.toList = o) := ⟨_, rfl⟩
  rw [HO.out]
  go_enter Tryz.func12, Tryz.ntmps12
  go_wp2_with fail
  refine (split_one s 10 (by omega) _).mono ?_
  rintro e w1 ⟨ls, rfl, hn, hw1, hsp⟩
  have HSP : Hid (ls.map (·.data.toList) = splitL 10 s.data.toList) := hsp
  have HB1 : Hid (Below w.heap.size w w1) := by show Below _ _ _; rw [hw1]; exact (Below.refl _ _).alloc (Nat.le_refl _) _
  have HR1 : Hid (w1.heap[w.heap.size]? = some (.cells (ls.map Value.string).toArray 9 (0, 0)) ∧ w1.heap.size = w.heap.size + 1) := by show _ ∧ _; rw [hw1]; exact ⟨heap_alloc_new _ _, by simp⟩
  have HLZ : Hid (∀ l ∈ ls, l.size ≤ 3000) := fun l hl => by
    have h1 : l.data.toList ∈ splitL 10 s.data.toList := by rw [← hsp]; exact List.mem_map.2 ⟨l, hl, rfl⟩
    have h2 := splitL_lens 10 _ _ h1
    have h3 : s.data.toList.length = s.size := Array.length_toList
    have h4 : l.data.toList.length = l.size := Array.length_toList
    omega
  have HFF : Hid (fieldsF s.data.toList = runF 0 [] (ls.map (·.data.toList))) := by show _ = _; unfold fieldsF; rw [hsp]
  obtain ⟨n, HN⟩ : ∃ n, Hid (ls.length = n) := ⟨_, rfl⟩
  have hn1 : n ≤ 3001 := by have := HN.out; omega
  rw [HN.out]
  clear hw1 hsp hn
  go_wp2
  go_loopw [4, 17] (fun v i wr => ∃ (k : Nat) (acc : List Par) (a : Option Addr) (m c : Nat), k ≤ n ∧ i = .int .i64 k ∧ v = .slice a m c ∧ m ≤ 40 ∧ Hid (acc.length = m) ∧ Hid (runF 0 [] (ls.map (·.data.toList)) = runF k acc ((ls.map (·.data.toList)).drop k)) ∧ Hid (OwnP wr (w.heap.size + 1) (.slice a m c) acc ∧ Below (w.heap.size + 1) w1 wr)) (fun _ i _ => n - (intOf i).toNat)
  case atStart => exact ⟨0, [], none, 0, 0, Nat.zero_le _, rfl, rfl, by omega, rfl, rfl, ownP_nil _ _, Below.refl _ _⟩
  case round =>
    obtain ⟨k, acc, a, m, c, hk, rfl, rfl, hm, HAC, HK, HI⟩ := hrel
    have HBW : Hid (Below w.heap.size w wr) := HB1.out.trans (HI.out.2.mono (by omega))
    have HZR : Hid (w.heap.size + 1 ≤ wr.heap.size) := by have := HI.out.2.size; have := HR1.out.2; show _ ≤ _; omega
    by_cases hlt : k < n
    · have hltz : (k : Int) < (n : Int) := by omega
      obtain ⟨l, hl⟩ : ∃ l, ls[k]? = some l := ⟨ls[k]'(by have := HN.out; omega), List.getElem?_eq_getElem _⟩
      have hlz := HLZ.out l (List.mem_of_getElem? hl)
      have cl : wr.cell? ⟨w.heap.size, k, none⟩ = some (.string l) := by
        have hr : wr.heap[w.heap.size]? = some (.cells (ls.map Value.string).toArray 9 (0, 0)) := by rw [HI.out.2.block _ (by omega)]; exact HR1.out.1
        exact cells_of hr k _ (by simp [hl])
      have HD : Hid ((ls.map (·.data.toList)).drop k = l.data.toList :: (ls.map (·.data.toList)).drop (k + 1)) := drop_at9 (by rw [List.getElem?_map, hl]; rfl)
      obtain ⟨t, HT⟩ : ∃ t, Hid (bs (lineT l.data.toList) = t) := ⟨_, rfl⟩
      have htz : t.size ≤ 3000 := by
        rw [← HT.out, bs_size]
        have h4 : l.data.toList.length = l.size := Array.length_toList
        have h5 : (lineT l.data.toList).length ≤ l.data.toList.length := by
          unfold lineT Lib.trimSuffix
          split <;> simp
        omega
      have HTL : Hid (lineT l.data.toList = t.data.toList) := by show _ = _; rw [← HT.out, bs_data]
      have htr := fun W => trim_any l ⟨#[13]⟩ W (by omega)
      have e13 : bs (Lib.trimSuffix l.data.toList (⟨#[13]⟩ : ByteArray).data.toList) = t := HT.out
      rw [e13] at htr
      clear hl e13
      go_wp2_with fail
      refine (htr _).mono ?_
      rintro e w2 ⟨rfl, hw2⟩
      obtain rfl := hw2.symm
      clear htr cl
      by_cases h0 : t.size = 0
      · have HNX : Hid (runF 0 [] (ls.map (·.data.toList)) = runF (k + 1) acc ((ls.map (·.data.toList)).drop (k + 1))) := by
          show _ = _
          rw [HK.out, HD.out]
          refine runF_skip ?_
          rw [HTL.out]
          exact List.eq_nil_of_length_eq_zero (by rw [Array.length_toList]; exact h0)
        have he : t.toList.isEmpty = true := by
          rw [ByteArray.toList_eq, List.isEmpty_iff]
          exact List.eq_nil_of_length_eq_zero (by rw [Array.length_toList]; exact h0)
        go_wp2
        go_roundw
        case rel => exact ⟨k + 1, acc, a, m, c, by omega, by go_num, rfl, hm, HAC, HNX, HI.out⟩
        case measure => simp [intOf]; omega
      · have HNE : Hid (lineT l.data.toList ≠ []) := by
          show _ ≠ _
          rw [HTL.out]
          intro e
          have h4 : t.data.toList.length = t.size := Array.length_toList
          rw [e] at h4
          exact h0 h4.symm
        have he : t.toList.isEmpty = false := by
          rw [ByteArray.toList_eq, ← HTL.out, List.isEmpty_eq_false_iff]
          exact HNE.out
        go_wp2_with fail
        refine (cut_any t 58 (by omega) _).mono ?_
        rintro e w3 ⟨x, y, f, rfl, hx, hy, hcut, hb3⟩
        have HB3 : Hid (Below wr.heap.size wr w3) := hb3
        clear hb3
        cases f
        · have HEE : Hid (o = .error (some k)) := by
            show _ = _
            rw [← HO.out, HFF.out, HK.out, HD.out]
            exact runF_bad HNE.out (by rw [HTL.out]; exact lineF_none1 hcut.out)
          have HBZ : Hid (Below w.heap.size w w3) := HBW.out.trans (HB3.out.mono HBW.out.size)
          go_wp2
          go_ret2
          exact ⟨.inr (.inr ⟨k, _, HEE.out, rfl, World.cell?_alloc_mark _ _ _ _ _, World.cell?_alloc_mark _ _ _ _ _, HBZ.out.size⟩), HBZ.out.alloc HBZ.out.size _⟩
        · obtain ⟨q, HQ⟩ : ∃ q, Hid (isL x.data.toList = q) := ⟨_, rfl⟩
          have his := fun W => is_any x (by omega) W
          rw [HQ.out] at his
          go_wp2_with fail
          refine (his _).mono ?_
          rintro e w4 ⟨rfl, hw4⟩
          obtain rfl := hw4.symm
          clear his
          cases q
          · have HEE : Hid (o = .error (some k)) := by
              show _ = _
              rw [← HO.out, HFF.out, HK.out, HD.out]
              exact runF_bad HNE.out (by rw [HTL.out]; exact lineF_none2 hcut.out HQ.out)
            have HBZ : Hid (Below w.heap.size w w3) := HBW.out.trans (HB3.out.mono HBW.out.size)
            go_wp2
            go_ret2
            exact ⟨.inr (.inr ⟨k, _, HEE.out, rfl, World.cell?_alloc_mark _ _ _ _ _, World.cell?_alloc_mark _ _ _ _ _, HBZ.out.size⟩), HBZ.out.alloc HBZ.out.size _⟩
          · have HLF : Hid (lineF (lineT l.data.toList) = some (x, bs (trimW y.data.toList))) := by
              show _ = _
              rw [HTL.out, lineF_some hcut.out HQ.out, bs_self]
            by_cases h40 : m = 40
            · have HEE : Hid (o = .error none) := by
                show _ = _
                rw [← HO.out, HFF.out, HK.out, HD.out]
                exact runF_many HNE.out HLF.out (by rw [HAC.out]; exact h40)
              have HBZ : Hid (Below w.heap.size w w3) := HBW.out.trans (HB3.out.mono HBW.out.size)
              have h40z : (m : Int) = 40 := by omega
              go_wp2
              go_ret2
              exact ⟨.inr (.inl ⟨HEE.out, rfl⟩), HBZ.out⟩
            · have HNX : Hid (runF 0 [] (ls.map (·.data.toList)) = runF (k + 1) (acc ++ [(x, bs (trimW y.data.toList))]) ((ls.map (·.data.toList)).drop (k + 1))) := by
                show _ = _
                rw [HK.out, HD.out]
                exact runF_next HNE.out HLF.out (by rw [HAC.out]; exact h40)
              have h40z : ¬ (m : Int) = 40 := by omega
              have HI3 : Hid (OwnP w3 (w.heap.size + 1) (.slice a m c) acc ∧ Below (w.heap.size + 1) w1 w3) := ⟨HI.out.1.below HB3.out, HI.out.2.trans (HB3.out.mono HZR.out)⟩
              clear hcut HB3
              go_wp2_with fail
              refine (clone_any x (by omega) _).mono ?_
              rintro e w4 ⟨rfl, hb4⟩
              go_wp2_with fail
              refine (trimBoth_any y (by omega) _).mono ?_
              rintro e w5 ⟨u, rfl, hu, huz, hb5⟩
              have HU : Hid (bs (trimW y.data.toList) = u) := by show _ = _; rw [← hu.out, bs_self]
              rw [HU.out] at HNX
              go_wp2_with fail
              refine (clone_any u (by omega) _).mono ?_
              rintro e w6 ⟨rfl, hb6⟩
              have HI6 : Hid (OwnP w6 (w.heap.size + 1) (.slice a m c) acc ∧ Below (w.heap.size + 1) w1 w6 ∧ w.heap.size + 1 ≤ w6.heap.size) := by
                have hz : w.heap.size + 1 ≤ w3.heap.size := by have := HI3.out.2.size; have := HR1.out.2; omega
                have b6 := hb4.trans ((hb5.trans (hb6.mono hb5.size)).mono hb4.size)
                exact ⟨HI3.out.1.below b6, HI3.out.2.trans (b6.mono hz), Nat.le_trans hz b6.size⟩
              clear hu hb4 hb5 hb6 HI3
              go_wp2_with (at_builtin; refine wp_appp rfl _ _ rfl (w.heap.size + 1) w6 (.slice a m c) acc m rfl HI6.out.1 HAC.out (by omega) HI6.out.2.2 (x, u) _ rfl rfl ?_; intro g7 cap7 w7 hown7 hg7 hlt7; have HI7 : Hid (OwnP w7 (w.heap.size + 1) (.slice (some ⟨g7, 0, none⟩) (m + 1) cap7) (acc ++ [(x, u)]) ∧ Below (w.heap.size + 1) w1 w7) := ⟨hown7, (HI6.out.2.1.alloc HI6.out.2.2 _).grown hg7 (by have := HI6.out.2.2; simp; omega) (fun i hi => (HI6.out.1.lt i hi).1)⟩; clear hown7 hg7 hlt7)
              go_roundw
              case rel => exact ⟨k + 1, acc ++ [(x, u)], _, m + 1, _, by omega, by go_num, rfl, by omega, (by show _ = _; rw [List.length_append, HAC.out]; rfl), HNX, HI7.out⟩
              case measure => simp [intOf]; omega
    · have hltz : ¬ (k : Int) < (n : Int) := by omega
      have HE : Hid (o = .ok acc) := by
        show _ = _
        rw [← HO.out, HFF.out, HK.out, List.drop_of_length_le (by rw [List.length_map]; have := HN.out; omega)]
        rfl
      go_wp2
      go_ret2
      exact ⟨.inl ⟨acc, _, HE.out, by rw [HAC.out]; exact hm, rfl, HI.out.1.mono9 (by omega)⟩, HBW.out⟩
end Go.Proofs.YthoblggjhdnlpaaGreatDoor

/- Rows of elements of some cells each that a call owns, and how they are written into. -/
namespace Go.Proofs.YthoblggjhdnlpaaGreatDoor
open Go.RowKit

theorem heap_setCells (g : Nat) (t : TypeId) : ∀ (vs : List Value) (o : Nat) (w : World) (cur : Array Value), w.heap[g]? = some (.cells cur t (0, 0)) →
    ∃ cur', (w.setCells g o vs).heap[g]? = some (.cells cur' t (0, 0)) ∧ cur'.size = cur.size ∧ (o + vs.length ≤ cur.size → cur'.toList = cur.toList.take o ++ vs ++ cur.toList.drop (o + vs.length))
  | [], o, w, cur, h => ⟨cur, h, rfl, fun _ => by simp⟩
  | v :: r, o, w, cur, h => by
    obtain ⟨cur', h1, h2, h3⟩ := heap_setCells g t r (o + 1) (w.setCell ⟨g, o, none⟩ v) (cur.setIfInBounds o v) (heap_setCell_same w g o cur t v h)
    refine ⟨cur', h1, by rw [h2]; simp, fun hl => ?_⟩
    simp only [List.length_cons] at hl
    rw [h3 (by simp; omega), Array.toList_setIfInBounds]
    have ho : o < cur.toList.length := by rw [Array.length_toList]; omega
    have e1 : (cur.toList.set o v).take (o + 1) = cur.toList.take o ++ [v] := by
      apply List.ext_getElem?
      intro i
      simp only [List.getElem?_take, List.getElem?_set, List.getElem?_append, List.length_take]
      by_cases h1 : i < o
      · rw [if_pos (by omega), if_neg (by omega), if_pos (by omega), if_pos h1]
      · by_cases h2 : i = o
        · subst h2
          rw [if_pos (by omega), if_pos rfl, if_pos ho, if_neg (by omega)]
          rw [show i - min i cur.toList.length = 0 by omega]
          rfl
        · rw [if_neg (by omega), if_neg (by omega)]
          symm
          rw [List.getElem?_eq_none]
          simp
          omega
    have e2 : (cur.toList.set o v).drop (o + 1 + r.length) = cur.toList.drop (o + (v :: r).length) := by
      rw [List.drop_set_of_lt (by omega)]
      congr 1
      simp
      omega
    rw [e1, e2]
    simp
theorem grown_setCells (w : World) (g o : Nat) (vs : List Value) : w.grownBy (w.setCells g o vs) (some g) :=
  ⟨World.os_setCells w g o vs, by
    induction vs generalizing o w with
    | nil => rfl
    | cons v r ih => exact (ih (w.setCell ⟨g, o, none⟩ v) (o + 1)).trans rfl, World.output_setCells w g o vs, by
    induction vs generalizing o w with
    | nil => exact Nat.le_refl _
    | cons v r ih => exact Nat.le_trans (by simp [World.setCell]) (ih (w.setCell ⟨g, o, none⟩ v) (o + 1)), fun k hk hne => World.heap_setCells_other w g o vs hk (fun e => hne (by rw [e]))⟩

theorem gtrans {a b c : World} {row : Option Nat} (h : a.grownBy b row) (k : b.grownBy c row) : a.grownBy c row :=
  ⟨k.os.trans h.os, k.tape.trans h.tape, k.output.trans h.output, Nat.le_trans h.size k.size, fun i hi hne => (k.block i (Nat.lt_of_lt_of_le hi h.size) hne).trans (h.block i hi hne)⟩
theorem flat_len {k : Nat} : ∀ {xs : List (List Value)}, (∀ x ∈ xs, x.length = k) → xs.flatten.length = xs.length * k
  | [], _ => by simp
  | x :: r, h => by
    rw [List.flatten_cons, List.length_append, h x (by simp), flat_len (fun y hy => h y (by simp [hy])), List.length_cons, Nat.succ_mul, Nat.add_comm]
theorem flat_take {k : Nat} : ∀ {xs : List (List Value)} (_ : ∀ x ∈ xs, x.length = k) (i : Nat), xs.flatten.take (i * k) = (xs.take i).flatten
  | [], _, i => by simp
  | x :: r, h, 0 => by simp
  | x :: r, h, i + 1 => by
    have hx := h x (by simp)
    rw [List.flatten_cons, List.take_succ_cons, List.flatten_cons, ← flat_take (fun y hy => h y (by simp [hy])) i, Nat.succ_mul, Nat.add_comm, List.take_append]
    rw [hx, Nat.add_sub_cancel_left, List.take_of_length_le (by omega)]
theorem flat_drop {k : Nat} : ∀ {xs : List (List Value)} (_ : ∀ x ∈ xs, x.length = k) (i : Nat), xs.flatten.drop (i * k) = (xs.drop i).flatten
  | [], _, i => by simp
  | x :: r, h, 0 => by simp
  | x :: r, h, i + 1 => by
    have hx := h x (by simp)
    rw [List.flatten_cons, List.drop_succ_cons, ← flat_drop (fun y hy => h y (by simp [hy])) i, Nat.succ_mul, Nat.add_comm, List.drop_append]
    rw [hx, Nat.add_sub_cancel_left, List.drop_of_length_le (by omega), List.nil_append]
theorem flat_at {k : Nat} {xs : List (List Value)} (h : ∀ x ∈ xs, x.length = k) {j i : Nat} {x : List Value} {u : Value} (hj : xs[j]? = some x) (hi : x[i]? = some u) : xs.flatten[j * k + i]? = some u := by
  have e := flat_drop h j
  obtain ⟨hjl, hx⟩ := List.getElem?_eq_some_iff.1 hj
  rw [List.drop_eq_getElem_cons hjl, hx, List.flatten_cons] at e
  have e2 : (xs.flatten.drop (j * k))[i]? = some u := by
    rw [e, List.getElem?_append_left (List.getElem?_eq_some_iff.1 hi).1]
    exact hi
  rwa [List.getElem?_drop] at e2

/-- A value of slice type that owns these elements, of k cells each, among the blocks from B on. -/
structure OwnK (k : Nat) (t : TypeId) (w : World) (B : Nat) (v : Value) (xs : List (List Value)) : Prop where
  row : w.ownsRow B t k v xs.length xs.flatten
  len : ∀ x ∈ xs, x.length = k
  one : ∀ x ∈ xs, ∀ u ∈ x, u.oneCell' = true
theorem ownK_nil (k : Nat) (t : TypeId) (w : World) (B : Nat) : OwnK k t w B (.slice none 0 0) [] := ⟨⟨by simp, .inl ⟨rfl, rfl⟩⟩, fun x hx => (by cases hx), fun x hx => (by cases hx)⟩
section
variable {k n cap g B : Nat} {t : TypeId} {w : World} {v : Value} {xs : List (List Value)}
theorem OwnK.lt (h : OwnK k t w B v xs) : ∀ b, v.ownBlock = some b → B ≤ b ∧ b < w.heap.size := World.ownsRow.lt h.row
theorem OwnK.mono {B' : Nat} (h : OwnK k t w B v xs) (hb : B' ≤ B) : OwnK k t w B' v xs := ⟨World.ownsRow.mono h.row hb, h.len, h.one⟩
theorem OwnK.kept {w' : World} {row : Option Nat} (h : OwnK k t w B v xs) (hg : w.grownBy w' row) (hne : v.ownBlock = none ∨ v.ownBlock ≠ row) : OwnK k t w' B v xs := ⟨World.ownsRow.kept h.row hg hne, h.len, h.one⟩
theorem OwnK.below {w' : World} (h : OwnK k t w B v xs) (hb : Below w.heap.size w w') : OwnK k t w' B v xs := by
  refine h.kept (row := none) ⟨hb.os, hb.tape, hb.output, hb.size, fun i hi _ => hb.block i hi⟩ ?_
  rcases v.ownBlock with _ | k
  · exact .inl rfl
  · exact .inr (by simp)
theorem OwnK.drewN (h : OwnK k t w B v xs) (q : Nat) : OwnK k t (w.drewN q) B v xs := ⟨h.row, h.len, h.one⟩
/-- What it looks like. -/
theorem OwnK.forms (h : OwnK k t w B v xs) : (v = .slice none 0 0 ∧ xs = []) ∨ ∃ g cap, v = .slice (some ⟨g, 0, none⟩) xs.length cap ∧ B ≤ g ∧ g < w.heap.size ∧ xs.length ≤ cap ∧ cap ≤ maxLen := by
  rcases h.row.2 with ⟨e, h0⟩ | ⟨g, cap, cur, e, hB, hh, h1, h2, _⟩
  · exact .inl ⟨e, List.eq_nil_of_length_eq_zero h0⟩
  · exact .inr ⟨g, cap, e, hB, (Array.getElem?_eq_some_iff.1 hh).1, h1, h2⟩
theorem OwnK.cell (h : OwnK k t w B (.slice (some ⟨g, 0, none⟩) n cap) xs) {j i : Nat} {x : List Value} {u : Value} (hj : xs[j]? = some x) (hi : x[i]? = some u) : w.cell? ⟨g, j * k + i, none⟩ = some u := by
  have hc := World.ownsRow.cells h.row (g := g) rfl (j * k + i) u (flat_at h.len hj hi)
  rw [Addr.add_lit, Nat.zero_add] at hc
  exact hc
theorem OwnK.load (P : Program) (h : OwnK k t w B (.slice (some ⟨g, 0, none⟩) n cap) xs) {j : Nat} {x : List Value} (hj : xs[j]? = some x) : Sem.run P (loadCellsFrom ⟨g, j * k, none⟩ 0 k #[]) w = .ok x.toArray w :=
  run_loadCellsFrom_list P w _ x k (h.len x (List.mem_of_getElem? hj)) (fun i u hi => by rw [Addr.add_lit]; exact h.cell hj hi)
theorem OwnK.frozen (h : OwnK k t w B (.slice (some ⟨g, 0, none⟩) n cap) xs) (j : Nat) : w.frozen? ⟨g, j, none⟩ = false := by
  rcases h.row.2 with ⟨e, _⟩ | ⟨g', cap', cur, e, _, hh, _⟩
  · cases e
  · injection e with e1 _ _
    injection e1 with e1
    injection e1 with e1
    subst e1
    simp [World.frozen?, hh]
theorem OwnK.there (h : OwnK k t w B (.slice (some ⟨g, 0, none⟩) n cap) xs) (j : Nat) (hj : j < cap * k) : (w.cell? ⟨g, j, none⟩).isSome = true := by
  rcases h.row.2 with ⟨e, _⟩ | ⟨g', cap', cur, e, _, hh, _, _, hs, _⟩
  · cases e
  · injection e with e1 e2 e3
    injection e1 with e1
    injection e1 with e1
    subst e1 e3
    rw [cell_of_row w g j cur t (0, 0) hh, Array.getElem?_eq_getElem (by omega)]
    rfl
/-- Elements are written at a place. -/
theorem OwnK.put (h : OwnK k t w B (.slice (some ⟨g, 0, none⟩) n cap) xs) (i : Nat) (ys : List (List Value)) (hy : ∀ y ∈ ys, y.length = k) (hy1 : ∀ y ∈ ys, ∀ u ∈ y, u.oneCell' = true) (hi : i ≤ xs.length) (hc : i + ys.length ≤ cap) :
    OwnK k t (w.setCells g (i * k) ys.flatten) B (.slice (some ⟨g, 0, none⟩) (xs.take i ++ ys ++ xs.drop (i + ys.length)).length cap) (xs.take i ++ ys ++ xs.drop (i + ys.length)) := by
  have hall : ∀ x ∈ xs.take i ++ ys ++ xs.drop (i + ys.length), x ∈ xs ∨ x ∈ ys := fun x hx => by
    rcases List.mem_append.1 hx with hx | hx
    · rcases List.mem_append.1 hx with hx | hx
      · exact .inl (List.mem_of_mem_take hx)
      · exact .inr hx
    · exact .inl (List.mem_of_mem_drop hx)
  have hlen : ∀ x ∈ xs.take i ++ ys ++ xs.drop (i + ys.length), x.length = k := fun x hx => (hall x hx).elim (h.len x) (hy x)
  refine ⟨⟨flat_len hlen, ?_⟩, hlen, fun x hx => (hall x hx).elim (h.one x) (hy1 x)⟩
  rcases h.row.2 with ⟨e, _⟩ | ⟨g', cap', cur, e, hB, hh, hn, hm, hs, ht⟩
  · cases e
  · injection e with e1 e2 e3
    injection e1 with e1
    injection e1 with e1
    subst e1 e3
    obtain ⟨cur', h1, h2, h3⟩ := heap_setCells g t ys.flatten (i * k) w cur hh
    have hyl := flat_len hy
    have hck : i * k + ys.flatten.length ≤ cur.size := by
      rw [hyl, hs, ← Nat.add_mul]
      exact Nat.mul_le_mul_right _ hc
    have h3 := h3 hck
    have hLl : (xs.take i ++ ys ++ xs.drop (i + ys.length)).length ≤ cap := by simp; omega
    refine .inr ⟨g, cap, cur', rfl, hB, h1, hLl, hm, by rw [h2, hs], ?_⟩
    rw [h3]
    have hd : (xs.drop (i + ys.length)).flatten = (cur.toList.drop (i * k + ys.flatten.length)).take ((xs.length - (i + ys.length)) * k) := by
      rw [← flat_drop h.len, ← ht, hyl, ← Nat.add_mul, List.drop_take, Nat.sub_mul]
    have htk : (xs.take i).flatten = cur.toList.take (i * k) := by
      rw [← flat_take h.len, ← ht, List.take_take, Nat.min_eq_left (Nat.mul_le_mul_right _ hi)]
    have hl1 : (cur.toList.take (i * k)).length = i * k := by rw [List.length_take, Array.length_toList]; omega
    rw [List.flatten_append, List.flatten_append, hd, htk]
    have hT : (xs.take i ++ ys ++ xs.drop (i + ys.length)).length = i + ys.length + (xs.length - (i + ys.length)) := by simp; omega
    rw [hT, Nat.add_mul, Nat.add_mul, ← hyl, List.take_append, List.length_append, hl1]
    rw [List.take_of_length_le (by rw [List.length_append, hl1]; omega)]
    congr 2
    omega
theorem OwnK.set (h : OwnK k t w B (.slice (some ⟨g, 0, none⟩) n cap) xs) (i : Nat) (x : List Value) (hx : x.length = k) (hx1 : ∀ u ∈ x, u.oneCell' = true) (hi : i < xs.length) :
    OwnK k t (w.setCells g (i * k) x) B (.slice (some ⟨g, 0, none⟩) n cap) (xs.set i x) := by
  have hn : n = xs.length ∧ xs.length ≤ cap := by
    rcases h.forms with ⟨e, _⟩ | ⟨g', cap', e, _, _, h1, _⟩
    · cases e
    · injection e with e1 e2 e3
      subst e2 e3
      exact ⟨rfl, h1⟩
  have h2 := h.put i [x] (fun y hy => by rw [List.mem_singleton.1 hy]; exact hx) (fun y hy => by rw [List.mem_singleton.1 hy]; exact hx1) (by omega) (by simp; omega)
  have e1 : xs.take i ++ [x] ++ xs.drop (i + [x].length) = xs.set i x := by rw [List.set_eq_take_append_cons_drop, if_pos hi]; simp
  have e2 : [x].flatten = x := by simp
  rw [e1, e2, List.length_set, ← hn.1] at h2
  exact h2
theorem OwnK.cut (h : OwnK k t w B (.slice (some ⟨g, 0, none⟩) n cap) xs) (i : Nat) (hi : i ≤ xs.length) : OwnK k t w B (.slice (some ⟨g, 0, none⟩) i cap) (xs.take i) := by
  have hlen : ∀ x ∈ xs.take i, x.length = k := fun x hx => h.len x (List.mem_of_mem_take hx)
  have hl : (xs.take i).length = i := by rw [List.length_take]; omega
  refine ⟨⟨flat_len hlen, ?_⟩, hlen, fun x hx => h.one x (List.mem_of_mem_take hx)⟩
  rcases h.row.2 with ⟨e, _⟩ | ⟨g', cap', cur, e, hB, hh, hn, hm, hs, ht⟩
  · cases e
  · injection e with e1 e2 e3
    injection e1 with e1
    injection e1 with e1
    subst e1 e3
    refine .inr ⟨g, cap, cur, by rw [hl], hB, hh, by omega, hm, hs, ?_⟩
    rw [← flat_take h.len, ← ht, List.take_take, hl, Nat.min_eq_left (Nat.mul_le_mul_right _ hi)]
/-- What stands behind a place is written over, and cut off. -/
theorem OwnK.wipe (h : OwnK k t w B (.slice (some ⟨g, 0, none⟩) n cap) xs) (i : Nat) (hi : i ≤ xs.length) (vs : List Value) (hv : i * k + vs.length ≤ cap * k) : OwnK k t (w.setCells g (i * k) vs) B (.slice (some ⟨g, 0, none⟩) i cap) (xs.take i) := by
  have hc := h.cut i hi
  refine ⟨⟨hc.row.1, ?_⟩, hc.len, hc.one⟩
  rcases hc.row.2 with ⟨e, _⟩ | ⟨g', cap', cur, e, hB, hh, hn, hm, hs, ht⟩
  · cases e
  · injection e with e1 e2 e3
    injection e1 with e1
    injection e1 with e1
    subst e1 e3
    obtain ⟨cur', h1, h2, h3⟩ := heap_setCells g t vs (i * k) w cur hh
    have hl : (xs.take i).length = i := by rw [List.length_take]; omega
    refine .inr ⟨g, cap, cur', by rw [hl], hB, h1, hn, hm, by rw [h2, hs], ?_⟩
    rw [h3 (by rw [hs]; exact hv), ← ht, hl, List.take_append, List.take_append, List.take_take]
    rw [List.length_take, Array.length_toList]
    have hik : i * k ≤ cur.size := by omega
    rw [show i * k - min (i * k) cur.size = 0 by omega, Nat.min_self, List.length_append, List.length_take, Array.length_toList]
    rw [show i * k - (min (i * k) cur.size + vs.length) = 0 by omega]
    simp
end
end Go.Proofs.YthoblggjhdnlpaaGreatDoor

/- Two passes held against each other. -/
namespace Go.Proofs.YthoblggjhdnlpaaGreatDoor
open Go.RowKit

theorem eqO9 (k : Nat) (a : Bool) (x : ByteArray) (n : Int) (w : World) :
    (Op.equalIn (k + 2) 23 (.agg #[.bool a, .string x, .int .i64 n]) (.agg #[.bool a, .string x, .int .i64 n])).run Tryz.prog w = .ok true w := by
  have u3 := Tryz.underlying3
  have u4 := Tryz.underlying4
  have u9 := Tryz.underlying9
  have a3 := Tryz.isAgg3
  have z3 := Tryz.sizeOf3
  have hS : Tryz.prog.underlying 23 = some (.struct (Tryz.prog.fieldsOf 23)) := by kernel_rfl
  have hp : Tryz.prog.stoodInHeld 23 = false := by kernel_rfl
  rw [run_equalIn_agg w (k + 1) 23 _ _ hS hp]
  simp only [Program.fieldsOf, Tryz.underlying23]
  go_simp
theorem eqU9 (k : Nat) (a : Bool) (x : ByteArray) (n : Int) (p q : ByteArray) (w : World) :
    (Op.equalIn (k + 3) 25 (.agg #[.bool a, .string x, .int .i64 n, .string p, .string q]) (.agg #[.bool a, .string x, .int .i64 n, .string p, .string q])).run Tryz.prog w = .ok true w := by
  have u3 := Tryz.underlying3
  have u4 := Tryz.underlying4
  have u9 := Tryz.underlying9
  have a3 := Tryz.isAgg3
  have z3 := Tryz.sizeOf3
  have hS : Tryz.prog.underlying 25 = some (.struct (Tryz.prog.fieldsOf 25)) := by kernel_rfl
  have hp : Tryz.prog.stoodInHeld 25 = false := by kernel_rfl
  have eo := fun w => eqO9 k a x n w
  rw [run_equalIn_agg w (k + 2) 25 _ _ hS hp]
  simp only [Program.fieldsOf, Tryz.underlying25]
  go_simp
theorem eqP9 (fs : Bool) (fh : ByteArray) (fp : Int) (us : Bool) (uh : ByteArray) (up : Int) (pa qu : ByteArray) (wi : Bool) (un : Int) (m1 h1 m2 h2 : ByteArray) (E : Bool) (hE : (m1.toList == m2.toList && h1.toList == h2.toList) = E) (w : World) :
    (Op.equalIn 10000 39 (.agg #[.bool fs, .string fh, .int .i64 fp, .bool us, .string uh, .int .i64 up, .string pa, .string qu, .bool wi, .string m1, .string h1, .int .i64 un]) (.agg #[.bool fs, .string fh, .int .i64 fp, .bool us, .string uh, .int .i64 up, .string pa, .string qu, .bool wi, .string m2, .string h2, .int .i64 un])).run Tryz.prog w = .ok E w := by
  have u3 := Tryz.underlying3
  have u4 := Tryz.underlying4
  have u9 := Tryz.underlying9
  have a3 := Tryz.isAgg3
  have z3 := Tryz.sizeOf3
  have hS : Tryz.prog.underlying 39 = some (.struct (Tryz.prog.fieldsOf 39)) := by kernel_rfl
  have hp : Tryz.prog.stoodInHeld 39 = false := by kernel_rfl
  have eo := fun w => eqO9 9997 fs fh fp w
  have eu := fun w => eqU9 9996 us uh up pa qu w
  rw [show (10000 : Nat) = 9999 + 1 from rfl, run_equalIn_agg w 9999 39 _ _ hS hp, ← hE]
  simp only [Program.fieldsOf, Tryz.underlying39]
  go_simp
  rw [← hE]
  by_cases h1' : m1.toList = m2.toList <;> by_cases h2' : h1.toList = h2.toList <;> simp [h1', h2']
end Go.Proofs.YthoblggjhdnlpaaGreatDoor

/- Whether a pass stands in a row of passes that differ by method and header alone, by the library's own functions. -/
namespace Go.Proofs.YthoblggjhdnlpaaGreatDoor
open Go.RowKit

/-- A pass with this method and this header. -/
def PsV.of (p : PsV) (x : ByteArray × ByteArray) : PsV := ⟨p.fs, p.fh, p.fp, p.us, p.uh, p.up, p.pa, p.qu, p.wi, x.1, x.2, p.un⟩
def sameX (x y : ByteArray × ByteArray) : Bool := x.1.toList == y.1.toList && x.2.toList == y.2.toList
set_option maxRecDepth 100000 in
set_option maxHeartbeats 4000000 in
theorem indexX_any (p : PsV) (x : ByteArray × ByteArray) (l : List (ByteArray × ByteArray)) (a0 : Option Addr) (len cap b off : Nat) (hlen : len ≤ 1000000) (w : World) (hx : Pss w a0 len b off (l.map p.of)) :
    Calls Tryz.prog 69 #[.slice a0 len cap, .agg #[.bool p.fs, .string p.fh, .int .i64 p.fp, .bool p.us, .string p.uh, .int .i64 p.up, .string p.pa, .string p.qu, .bool p.wi, .string x.1, .string x.2, .int .i64 p.un]] w fun e w' => (∃ r : Int, e = .returned (.int .i64 r) ∧ Hid (decide (0 ≤ r) = l.any (sameX x))) ∧ Below w.heap.size w w' := by
  have hl : l.length = len := by have := hx.len_eq; simpa using this
  have HL : Hid (l.length = len) := hl
  have HQ : Hid (BoxQ 39 w #[.bool p.fs, .string p.fh, .int .i64 p.fp, .bool p.us, .string p.uh, .int .i64 p.up, .string p.pa, .string p.qu, .bool p.wi, .string x.1, .string x.2, .int .i64 p.un] (w.alloc (.cells #[.bool p.fs, .string p.fh, .int .i64 p.fp, .bool p.us, .string p.uh, .int .i64 p.up, .string p.pa, .string p.qu, .bool p.wi, .string x.1, .string x.2, .int .i64 p.un] 39))) := BoxQ.new _ _ _
  have HX : Hid (Pss (w.alloc (.cells #[.bool p.fs, .string p.fh, .int .i64 p.fp, .bool p.us, .string p.uh, .int .i64 p.up, .string p.pa, .string p.qu, .bool p.wi, .string x.1, .string x.2, .int .i64 p.un] 39)) a0 len b off (l.map p.of)) := hx.below HQ.out.bel
  have HB : Hid (Below w.heap.size w (w.alloc (.cells #[.bool p.fs, .string p.fh, .int .i64 p.fp, .bool p.us, .string p.uh, .int .i64 p.up, .string p.pa, .string p.qu, .bool p.wi, .string x.1, .string x.2, .int .i64 p.un] 39))) := HQ.out.bel
  clear hx hl
  obtain ⟨fs, fh, fp, us, uh, up, pa, qu, wi, me, he, un⟩ := p
  obtain ⟨xm, xh⟩ := x
  simp only at HQ HX HB ⊢
  go_enter Tryz.func69, Tryz.ntmps69
  go_wp2
  generalize hW0 : w.alloc (.cells #[.bool fs, .string fh, .int .i64 fp, .bool us, .string uh, .int .i64 up, .string pa, .string qu, .bool wi, .string xm, .string xh, .int .i64 un] 39) = W0 at HQ HX HB ⊢
  clear hW0
  have b0 := HQ.out.at 0 _ rfl
  have b1 := HQ.out.at 1 _ rfl
  have b2 := HQ.out.at 2 _ rfl
  have b3 := HQ.out.at 3 _ rfl
  have b4 := HQ.out.at 4 _ rfl
  have b5 := HQ.out.at 5 _ rfl
  have b6 := HQ.out.at 6 _ rfl
  have b7 := HQ.out.at 7 _ rfl
  have b8 := HQ.out.at 8 _ rfl
  have b9 := HQ.out.at 9 _ rfl
  have b10 := HQ.out.at 10 _ rfl
  have b11 := HQ.out.at 11 _ rfl
  go_loopw [8] (fun i wr => ∃ (k q : Nat), k ≤ len ∧ i = .int .i64 k ∧ wr = W0.drewN q ∧ Hid ((l.take k).any (sameX (xm, xh)) = false)) (fun i _ => len - (intOf i).toNat)
  case atStart => exact ⟨0, 0, Nat.zero_le _, rfl, rfl, rfl⟩
  case round =>
    obtain ⟨k, q, hk, rfl, rfl, HK⟩ := hrel
    by_cases hlt : k < len
    · have hltz : (k : Int) < (len : Int) := by omega
      obtain ⟨y, hy⟩ : ∃ y, l[k]? = some y := ⟨l[k]'(by have := HL.out; omega), List.getElem?_eq_getElem (by have := HL.out; omega)⟩
      have HYK : Hid (l[k]? = some y) := hy
      obtain ⟨ha0, _⟩ := HX.out.lies (by omega)
      subst ha0
      obtain ⟨c0, c1, c2, c3, c4, c5, c6, c7, c8, c9, c10, c11⟩ := HX.out.all (j := k) (v := PsV.of ⟨fs, fh, fp, us, uh, up, pa, qu, wi, me, he, un⟩ y) (by rw [List.getElem?_map, hy]; rfl)
      obtain ⟨ym, yh⟩ := y
      simp only [PsV.of] at c0 c1 c2 c3 c4 c5 c6 c7 c8 c9 c10 c11
      obtain ⟨t, HT⟩ : ∃ t, Hid (sameX (xm, xh) (ym, yh) = t) := ⟨_, rfl⟩
      have ep := fun W => eqP9 fs fh fp us uh up pa qu wi un xm xh ym yh t HT.out W
      clear hy
      cases t
      · have HS : Hid ((l.take (k + 1)).any (sameX (xm, xh)) = false) := take_any HK.out HYK.out HT.out
        go_wp2
        go_quiet (fail)
        go_wp2
        go_roundw
        case rel => exact ⟨k + 1, _, by omega, by go_num, rfl, HS⟩
        case measure => simp [intOf]; omega
      · have HS : Hid (l.any (sameX (xm, xh)) = true) := List.any_eq_true.2 ⟨_, List.mem_of_getElem? HYK.out, HT.out⟩
        go_wp2
        go_quiet (fail)
        go_wp2
        go_ret
        exact ⟨⟨_, rfl, by show _ = _; rw [HS.out]; exact decide_eq_true (Int.natCast_nonneg _)⟩, drewN_below (drewN_below HB.out _) _⟩
    · have hltz : ¬ (k : Int) < (len : Int) := by omega
      have HS : Hid (l.any (sameX (xm, xh)) = false) := by
        have := HK.out
        rw [List.take_of_length_le (by have := HL.out; omega)] at this
        exact this
      go_wp2
      go_ret
      exact ⟨⟨_, rfl, by show _ = _; rw [HS.out]; rfl⟩, drewN_below HB.out _⟩
set_option maxRecDepth 100000 in
set_option maxHeartbeats 4000000 in
theorem containsX_any (p : PsV) (x : ByteArray × ByteArray) (l : List (ByteArray × ByteArray)) (a0 : Option Addr) (len cap b off : Nat) (hlen : len ≤ 1000000) (w : World) (hx : Pss w a0 len b off (l.map p.of)) :
    Calls Tryz.prog 39 #[.slice a0 len cap, .agg #[.bool p.fs, .string p.fh, .int .i64 p.fp, .bool p.us, .string p.uh, .int .i64 p.up, .string p.pa, .string p.qu, .bool p.wi, .string x.1, .string x.2, .int .i64 p.un]] w fun e w' => e = .returned (.bool (l.any (sameX x))) ∧ Below w.heap.size w w' := by
  have HQ : Hid (BoxQ 39 w #[.bool p.fs, .string p.fh, .int .i64 p.fp, .bool p.us, .string p.uh, .int .i64 p.up, .string p.pa, .string p.qu, .bool p.wi, .string x.1, .string x.2, .int .i64 p.un] (w.alloc (.cells #[.bool p.fs, .string p.fh, .int .i64 p.fp, .bool p.us, .string p.uh, .int .i64 p.up, .string p.pa, .string p.qu, .bool p.wi, .string x.1, .string x.2, .int .i64 p.un] 39))) := BoxQ.new _ _ _
  have HI : Hid (Calls Tryz.prog 69 #[.slice a0 len cap, .agg #[.bool p.fs, .string p.fh, .int .i64 p.fp, .bool p.us, .string p.uh, .int .i64 p.up, .string p.pa, .string p.qu, .bool p.wi, .string x.1, .string x.2, .int .i64 p.un]] (w.alloc (.cells #[.bool p.fs, .string p.fh, .int .i64 p.fp, .bool p.us, .string p.uh, .int .i64 p.up, .string p.pa, .string p.qu, .bool p.wi, .string x.1, .string x.2, .int .i64 p.un] 39)) fun e w' => (∃ r : Int, e = .returned (.int .i64 r) ∧ Hid (decide (0 ≤ r) = l.any (sameX x))) ∧ Below (w.alloc (.cells #[.bool p.fs, .string p.fh, .int .i64 p.fp, .bool p.us, .string p.uh, .int .i64 p.up, .string p.pa, .string p.qu, .bool p.wi, .string x.1, .string x.2, .int .i64 p.un] 39)).heap.size (w.alloc (.cells #[.bool p.fs, .string p.fh, .int .i64 p.fp, .bool p.us, .string p.uh, .int .i64 p.up, .string p.pa, .string p.qu, .bool p.wi, .string x.1, .string x.2, .int .i64 p.un] 39)) w') :=
    indexX_any p x l a0 len cap b off hlen _ (hx.below HQ.out.bel)
  have b0 := HQ.out.at 0 _ rfl
  have b1 := HQ.out.at 1 _ rfl
  have b2 := HQ.out.at 2 _ rfl
  have b3 := HQ.out.at 3 _ rfl
  have b4 := HQ.out.at 4 _ rfl
  have b5 := HQ.out.at 5 _ rfl
  have b6 := HQ.out.at 6 _ rfl
  have b7 := HQ.out.at 7 _ rfl
  have b8 := HQ.out.at 8 _ rfl
  have b9 := HQ.out.at 9 _ rfl
  have b10 := HQ.out.at 10 _ rfl
  have b11 := HQ.out.at 11 _ rfl
  clear hx
  go_enter Tryz.func39, Tryz.ntmps39
  go_wp2_with fail
  refine HI.out.mono ?_
  rintro e w1 ⟨⟨r, rfl, HR⟩, hb⟩
  have HB1 : Hid (Below w.heap.size w w1) := HQ.out.inB hb
  clear hb HI
  go_wp2
  go_ret
  exact ⟨ret_bool HR.out, HB1.out⟩
end Go.Proofs.YthoblggjhdnlpaaGreatDoor

/- What a pass is in memory. -/
namespace Go.Proofs.YthoblggjhdnlpaaGreatDoor
open Go.RowKit

theorem infoX : (Tryz.prog.info? 39).map (fun i => (i.zero, i.size, i.bytes)) = some (some (.agg #[.bool false, .string ⟨#[]⟩, .int .i64 0, .bool false, .string ⟨#[]⟩, .int .i64 0, .string ⟨#[]⟩, .string ⟨#[]⟩, .bool false, .string ⟨#[]⟩, .string ⟨#[]⟩, .int .i64 0]), 12, 144) := by kernel_rfl
theorem vals_len (v : PsV) : v.vals.length = 12 := rfl
theorem vals_one (v : PsV) : ∀ u ∈ v.vals, u.oneCell' = true := by
  intro u hu
  simp only [PsV.vals, List.mem_cons, List.not_mem_nil, or_false] at hu
  rcases hu with h | h | h | h | h | h | h | h | h | h | h | h <;> subst h <;> rfl
end Go.Proofs.YthoblggjhdnlpaaGreatDoor

/- Passes that differ by method and header alone, in a row that a call owns; one more. -/
namespace Go.Proofs.YthoblggjhdnlpaaGreatDoor
open Go.RowKit

def cellsX (p : PsV) (l : List (ByteArray × ByteArray)) : List (List Value) := l.map fun x => (p.of x).vals
/-- A value of type []api.Pass that owns these, among the blocks from B on. -/
def OwnX (p : PsV) (w : World) (B : Nat) (v : Value) (l : List (ByteArray × ByteArray)) : Prop := OwnK 12 39 w B v (cellsX p l)
theorem ownX_nil (p : PsV) (w : World) (B : Nat) : OwnX p w B (.slice none 0 0) [] := ownK_nil 12 39 w B
theorem OwnX.pss {p : PsV} {w : World} {B : Nat} {v : Value} {l : List (ByteArray × ByteArray)} (h : OwnX p w B v l) : ∃ (a : Option Addr) (cap g : Nat), v = .slice a l.length cap ∧ Pss w a l.length g 0 (l.map p.of) := by
  have hl : (cellsX p l).length = l.length := by unfold cellsX; simp
  rcases OwnK.forms h with ⟨rfl, he⟩ | ⟨g, cap, rfl, hB, hg, hc, _⟩
  · have h0 : l = [] := by unfold cellsX at he; simpa using he
    subst h0
    exact ⟨none, 0, 0, rfl, pss_nil w⟩
  · refine ⟨_, cap, g, by rw [hl], by simp, fun _ => ⟨rfl, hg⟩, fun j v hj i u hi => ?_⟩
    obtain ⟨x, hx, rfl⟩ : ∃ x, l[j]? = some x ∧ p.of x = v := by
      rw [List.getElem?_map] at hj
      simpa using hj
    have hj' : (cellsX p l)[j]? = some (p.of x).vals := by unfold cellsX; rw [List.getElem?_map, hx]; rfl
    rw [Nat.zero_add]
    exact OwnK.cell (show OwnK 12 39 w B (.slice (some ⟨g, 0, none⟩) (cellsX p l).length cap) (cellsX p l) from h) hj' hi
theorem OwnX.below {p : PsV} {w w' : World} {B : Nat} {v : Value} {l : List (ByteArray × ByteArray)} (h : OwnX p w B v l) (hb : Below w.heap.size w w') : OwnX p w' B v l := OwnK.below h hb
theorem OwnX.kept {p : PsV} {w w' : World} {B : Nat} {row : Option Nat} {v : Value} {l : List (ByteArray × ByteArray)} (h : OwnX p w B v l) (hg : w.grownBy w' row) (hne : v.ownBlock = none ∨ v.ownBlock ≠ row) : OwnX p w' B v l := OwnK.kept h hg hne
theorem wp_appX {ops : Array Oper} {rest : List Oper} {o : Oper} {a : Act} {Q : Exit → Act → World → Prop} (hgd : o.guard = none) (s x : Operand)
    (ho : o.op = .call { callee := .builtin .append, args := #[s, x], argTypes := #[33, 33] })
    (p : PsV) (B : Nat) (wr : World) (v : Value) (l : List (ByteArray × ByteArray)) (n : Nat) (hs : a.eval s = v) (hown : OwnX p wr B v l) (hn : l.length = n) (hl : n ≤ 1000) (hB : B ≤ wr.heap.size)
    (y : ByteArray × ByteArray) (hx : a.eval x = .slice (some ⟨wr.heap.size, 0, none⟩) 1 1)
    (h : ∀ g cap w', OwnX p w' B (.slice (some ⟨g, 0, none⟩) (n + 1) cap) (l ++ [y]) → (wr.alloc (.cells #[.bool p.fs, .string p.fh, .int .i64 p.fp, .bool p.us, .string p.uh, .int .i64 p.up, .string p.pa, .string p.qu, .bool p.wi, .string y.1, .string y.2, .int .i64 p.un] 39)).grownBy w' v.ownBlock → g < w'.heap.size → B ≤ g → wpList Tryz.prog ops Q rest (a.put o.dst (.slice (some ⟨g, 0, none⟩) (n + 1) cap)) w') :
    wpList Tryz.prog ops Q (o :: rest) a (wr.alloc (.cells #[.bool p.fs, .string p.fh, .int .i64 p.fp, .bool p.us, .string p.uh, .int .i64 p.up, .string p.pa, .string p.qu, .bool p.wi, .string y.1, .string y.2, .int .i64 p.un] 39)) := by
  subst hn
  obtain ⟨i0, hi0, hz0, hz1, hz2⟩ := info_parts infoX
  have hlc : (cellsX p l).length = l.length := by unfold cellsX; simp
  refine wpList_append_lies _ hgd s x 33 ho B 39 i0 (.agg #[.bool false, .string ⟨#[]⟩, .int .i64 0, .bool false, .string ⟨#[]⟩, .int .i64 0, .string ⟨#[]⟩, .string ⟨#[]⟩, .bool false, .string ⟨#[]⟩, .string ⟨#[]⟩, .int .i64 0]) 12 144 Tryz.underlying33 hi0 hz0 hz1 hz2 rfl (by omega) v (cellsX p l).length _ hs (World.ownsRow.alloc hown.row _) ⟨wr.heap.size, 0, none⟩ 1 1 (p.of y).vals hx rfl
    (World.news_of_block (cs := #[.bool p.fs, .string p.fh, .int .i64 p.fp, .bool p.us, .string p.uh, .int .i64 p.up, .string p.pa, .string p.qu, .bool p.wi, .string y.1, .string y.2, .int .i64 p.un]) (t := 39) (fr := (0, 0)) (heap_alloc_new wr _)) (vals_one _) (by omega) (by rw [hlc]; unfold maxLen; omega) (by omega) (by simp; omega) _ rfl ?_
  intro g cap w' hown1 hgrow _ hlt
  have hnew : OwnX p w' B (.slice (some ⟨g, 0, none⟩) (l.length + 1) cap) (l ++ [y]) := by
    have hc : cellsX p (l ++ [y]) = cellsX p l ++ [(p.of y).vals] := by unfold cellsX; simp
    refine ⟨?_, ?_, ?_⟩
    · rw [hc, List.length_append, List.flatten_append, hlc]
      rw [hlc] at hown1
      simpa using hown1
    · intro z hz
      rw [hc] at hz
      rcases List.mem_append.1 hz with hz | hz
      · exact hown.len z hz
      · rw [List.mem_singleton.1 hz]; rfl
    · intro z hz
      rw [hc] at hz
      rcases List.mem_append.1 hz with hz | hz
      · exact hown.one z hz
      · rw [List.mem_singleton.1 hz]; exact vals_one _
  rw [hlc]
  exact h g cap w' hnew hgrow hlt (OwnK.lt hnew g rfl).1
end Go.Proofs.YthoblggjhdnlpaaGreatDoor

/- A text cloned, however long; what a world is where a cell is told again what it holds. -/
namespace Go.Proofs.YthoblggjhdnlpaaGreatDoor
open Go.RowKit Go.Shelf

theorem cloneS_any (s : ByteArray) (hs : s.size ≤ 140737488355328) (w : World) :
    Calls Tryz.prog 31 #[.string s] w fun e w' => e = .returned (.string s) ∧ Below w.heap.size w w' := by
  have hc : ∀ w, Calls Tryz.prog 55 #[.string s] w fun e w' => e = .returned (.string s) ∧ Below w.heap.size w w' := fun w => Any.stringslite_Clone laysM316 s w (by omega)
  go_enter Tryz.func31, Tryz.ntmps31
  go_wp2_with (go_at_call 55; refine (hc _).mono ?_; rintro e w' ⟨rfl, hb⟩)
  go_ret
  exact ⟨rfl, hb⟩
/-- A cell is told again what it holds: the world is as it was. -/
theorem setCell_same {w : World} {g i : Nat} {cs : Array Value} {t : TypeId} (h : w.heap[g]? = some (.cells cs t (0, 0))) {v : Value} (hv : cs[i]? = some v) : w.setCell ⟨g, i, none⟩ v = w := by
  have e : (w.setCell ⟨g, i, none⟩ v).heap = w.heap := by
    apply Array.ext_getElem?
    intro j
    by_cases hj : j = g
    · subst hj
      rw [heap_setCell_same w j i cs t v h, h]
      congr 2
      apply Array.ext_getElem?
      intro m
      rw [Array.getElem?_setIfInBounds]
      by_cases hm : i = m
      · subst hm
        rw [if_pos rfl, hv, if_pos (Array.getElem?_eq_some_iff.1 hv).1]
      · rw [if_neg hm]
    · exact Below.heap_setCell w ⟨g, i, none⟩ v j hj
  show { w with heap := _ } = w
  have : (w.setCell ⟨g, i, none⟩ v).heap = w.heap := e
  cases w
  simp only [World.setCell] at this ⊢
  congr
/-- All cells of a block anew. -/
theorem heap_setAll (g : Nat) (t : TypeId) (vs : List Value) (w : World) (cur : Array Value) (h : w.heap[g]? = some (.cells cur t (0, 0))) (hs : cur.size = vs.length) : (w.setCells g 0 vs).heap[g]? = some (.cells vs.toArray t (0, 0)) := by
  obtain ⟨cur', h1, h2, h3⟩ := heap_setCells g t vs 0 w cur h
  have e := h3 (by omega)
  rw [List.take_zero, List.nil_append, Nat.zero_add, List.drop_of_length_le (by rw [Array.length_toList]; omega), List.append_nil] at e
  have : cur' = vs.toArray := by rw [← e]
  rw [h1, this]
theorem cell_of {w : World} {g i : Nat} {cs : Array Value} {t : TypeId} (h : w.heap[g]? = some (.cells cs t (0, 0))) : w.cell? ⟨g, i, none⟩ = cs[i]? := cell_of_row w g i cs t (0, 0) h
theorem free_of {w : World} {g : Nat} {cs : Array Value} {t : TypeId} (h : w.heap[g]? = some (.cells cs t (0, 0))) (i : Nat) : w.frozen? ⟨g, i, none⟩ = false := frozen_of_row w g i cs t h
end Go.Proofs.YthoblggjhdnlpaaGreatDoor

/- A block of an argument's and one of an answer's own. -/
namespace Go.Proofs.YthoblggjhdnlpaaGreatDoor
open Go.RowKit
set_option linter.unusedVariables false

/-- All cells anew: what stands there, and what may have turned. -/
theorem setAll {wi : World} {g : Nat} {cur : Array Value} {T : TypeId} (vs : List Value) (h : wi.heap[g]? = some (.cells cur T (0, 0))) (hs : cur.size = vs.length) : (wi.setCells g 0 vs).heap[g]? = some (.cells vs.toArray T (0, 0)) ∧ wi.grownBy (wi.setCells g 0 vs) (some g) := ⟨heap_setAll g T vs wi cur h hs, grown_setCells _ _ _ _⟩
theorem boxes2 (w : World) (x y : Array Value) (t u : TypeId) : Below w.heap.size w ((w.alloc (.cells x t)).alloc (.cells y u)) ∧ ((w.alloc (.cells x t)).alloc (.cells y u)).heap[w.heap.size]? = some (.cells x t (0, 0)) ∧ ((w.alloc (.cells x t)).alloc (.cells y u)).heap[w.heap.size + 1]? = some (.cells y u (0, 0)) := by
  refine ⟨((Below.refl _ _).alloc (Nat.le_refl _) _).alloc (by simp) _, ?_, ?_⟩
  · rw [heap_alloc_old _ _ (by simp)]
    exact heap_alloc_new w _
  · have := heap_alloc_new (w.alloc (.cells x t)) (.cells y u)
    simpa using this
/-- What is kept of a box, and of the result's, by a call. -/
structure BoxF (w w1 : World) (x y : Array Value) (t : TypeId) : Prop where
  bel : Below w.heap.size w w1
  box : w1.heap[w.heap.size]? = some (.cells x t (0, 0))
  res : w1.heap[w.heap.size + 1]? = some (.cells y t (0, 0))
theorem boxF_start (w : World) (x y : Array Value) (t : TypeId) : BoxF w ((w.alloc (.cells x t)).alloc (.cells y t)) x y t := ⟨(boxes2 w x y t t).1, (boxes2 w x y t t).2.1, (boxes2 w x y t t).2.2⟩
theorem BoxF.below {w w1 w2 : World} {x y : Array Value} {t : TypeId} (h : BoxF w w1 x y t) (hb : Below w1.heap.size w1 w2) : BoxF w w2 x y t := by
  have h2 : w.heap.size + 1 < w1.heap.size := (Array.getElem?_eq_some_iff.1 h.res).1
  exact ⟨h.bel.trans (hb.mono h.bel.size), by rw [hb.block _ (by omega)]; exact h.box, by rw [hb.block _ h2]; exact h.res⟩
theorem BoxF.set {w w1 : World} {x y : Array Value} {t : TypeId} (h : BoxF w w1 x y t) (i : Nat) (v : Value) : BoxF w (w1.setCell ⟨w.heap.size, i, none⟩ v) (x.setIfInBounds i v) y t :=
  ⟨h.bel.setCell (Nat.le_refl _) v, heap_setCell_same w1 _ i x t v h.box, (Below.heap_setCell w1 ⟨w.heap.size, i, none⟩ v _ (by show w.heap.size + 1 ≠ w.heap.size; omega)).trans h.res⟩
theorem BoxF.same {w w1 : World} {x y : Array Value} {t : TypeId} (h : BoxF w w1 x y t) {i : Nat} {v : Value} (hv : x[i]? = some v) : w1.setCell ⟨w.heap.size, i, none⟩ v = w1 := setCell_same h.box hv
theorem BoxF.at {w w1 : World} {x y : Array Value} {t : TypeId} (h : BoxF w w1 x y t) (i : Nat) {v : Value} (hv : x[i]? = some v) : w1.cell? ⟨w.heap.size, i, none⟩ = some v := (cell_of h.box).trans hv
/-- What a function answers whose result lies in a block. -/
theorem res_cell {P : Program} {fn : Func} {tmps : Array Value} {W : World} {a : Tmp} {t u : TypeId} {g : Nat} {vs : List Value} {k : Nat} (hf : fn.results = #[.cell a t]) (hp : tmps.getD a undef = .pointer (some ⟨g, 0, none⟩)) (ha : ∀ w, (isAgg t).run P w = .ok true w) (hs : ∀ w, (Go.sizeOf t).run P w = .ok k w) (hk : vs.length = k) (h : W.heap[g]? = some (.cells vs.toArray u (0, 0))) :
    (results fn tmps).run P W = .ok (.agg vs.toArray) W := by
  have hl := run_loadCellsFrom_list P W ⟨g, 0, none⟩ vs k hk (fun i v hi => by
    rw [Addr.add_lit, Nat.zero_add, cell_of h]
    simpa using hi)
  simp only [Array.getD_eq_getD_getElem?] at hp
  unfold results
  rw [hf]
  simp [hp, loadVar, ha, hs, asAddr, loadCells, hl]
end Go.Proofs.YthoblggjhdnlpaaGreatDoor

/- A block of an argument's, and one of an answer's that is written into. -/
namespace Go.Proofs.YthoblggjhdnlpaaGreatDoor
open Go.RowKit

structure BoxG (w : World) (x : Array Value) (n : Nat) (t : TypeId) (W : World) : Prop where
  bel : Below w.heap.size w W
  box : W.heap[w.heap.size]? = some (.cells x t (0, 0))
  res : ∃ y : Array Value, y.size = n ∧ W.heap[w.heap.size + 1]? = some (.cells y t (0, 0))
theorem BoxG.below {w w1 w2 : World} {x : Array Value} {n : Nat} {t : TypeId} (h : BoxG w x n t w1) (hb : Below w1.heap.size w1 w2) : BoxG w x n t w2 := by
  obtain ⟨y, hy, hr⟩ := h.res
  have h2 : w.heap.size + 1 < w1.heap.size := (Array.getElem?_eq_some_iff.1 hr).1
  exact ⟨h.bel.trans (hb.mono h.bel.size), by rw [hb.block _ (by omega)]; exact h.box, y, hy, by rw [hb.block _ h2]; exact hr⟩
theorem BoxG.at {w w1 : World} {x : Array Value} {n : Nat} {t : TypeId} (h : BoxG w x n t w1) (i : Nat) {v : Value} (hv : x[i]? = some v) : w1.cell? ⟨w.heap.size, i, none⟩ = some v := (cell_of h.box).trans hv
theorem BoxG.of {w w1 : World} {x y : Array Value} {t : TypeId} (h : BoxF w w1 x y t) : BoxG w x y.size t w1 := ⟨h.bel, h.box, y, rfl, h.res⟩
theorem BoxG.store {w w1 : World} {x : Array Value} {n : Nat} {t : TypeId} (h : BoxG w x n t w1) (vs : List Value) (hn : vs.length = n) :
    BoxG w x n t (w1.setCells (w.heap.size + 1) 0 vs) ∧ (w1.setCells (w.heap.size + 1) 0 vs).heap[w.heap.size + 1]? = some (.cells vs.toArray t (0, 0)) := by
  obtain ⟨y, hy, hr⟩ := h.res
  obtain ⟨z1, z2⟩ := setAll vs hr (by omega)
  have h2 : w.heap.size < w1.heap.size := (Array.getElem?_eq_some_iff.1 h.box).1
  exact ⟨⟨h.bel.grown z2 h.bel.size (fun i hi => by injection hi with hi; omega), by rw [z2.block _ h2 (by simp)]; exact h.box, _, by simpa using hn, z1⟩, z1⟩
theorem BoxG.frees {w w1 : World} {x : Array Value} {n : Nat} {t : TypeId} (h : BoxG w x n t w1) (i : Nat) : w1.frozen? ⟨w.heap.size + 1, i, none⟩ = false := by
  obtain ⟨y, hy, hr⟩ := h.res
  exact free_of hr i
theorem BoxG.some {w w1 : World} {x : Array Value} {n : Nat} {t : TypeId} (h : BoxG w x n t w1) (i : Nat) (hi : i < n) : ∃ v, w1.cell? ⟨w.heap.size + 1, i, none⟩ = some v := by
  obtain ⟨y, hy, hr⟩ := h.res
  exact ⟨y[i]'(by omega), (cell_of hr).trans (Array.getElem?_eq_getElem (by omega))⟩
end Go.Proofs.YthoblggjhdnlpaaGreatDoor

/- passesFor's closure: one pass more, if it isn't there. -/
namespace Go.Proofs.YthoblggjhdnlpaaGreatDoor
open Go.RowKit

def addX (l : List (ByteArray × ByteArray)) (x : ByteArray × ByteArray) : List (ByteArray × ByteArray) := if l.any (sameX x) then l else l ++ [x]
/-- What passesFor's closure holds: a pass, and the passes so far. -/
structure HoldX (p : PsV) (gp gs B : Nat) (l : List (ByteArray × ByteArray)) (W : World) : Prop where
  one : W.heap[gp]? = some (.cells #[.bool p.fs, .string p.fh, .int .i64 p.fp, .bool p.us, .string p.uh, .int .i64 p.up, .string p.pa, .string p.qu, .bool p.wi, .string ⟨#[]⟩, .string ⟨#[]⟩, .int .i64 p.un] 39 (0, 0))
  own : ∃ v, W.heap[gs]? = some (.cells #[v] 33 (0, 0)) ∧ OwnX p W B v l
  gpB : gp < B
  gsB : gs < B
  ne : gp ≠ gs
  bW : B ≤ W.heap.size
theorem HoldX.below {p : PsV} {gp gs B : Nat} {l : List (ByteArray × ByteArray)} {W W' : World} (h : HoldX p gp gs B l W) (hb : Below W.heap.size W W') : HoldX p gp gs B l W' := by
  obtain ⟨v, h1, h2⟩ := h.own
  refine ⟨?_, ⟨v, ?_, h2.below hb⟩, h.gpB, h.gsB, h.ne, Nat.le_trans h.bW hb.size⟩
  · rw [hb.block _ (Array.getElem?_eq_some_iff.1 h.one).1]; exact h.one
  · rw [hb.block _ (Array.getElem?_eq_some_iff.1 h1).1]; exact h1
theorem HoldX.setTo {p : PsV} {gp gs B : Nat} {l' : List (ByteArray × ByteArray)} {W : World} {g cap n : Nat} (h1 : W.heap[gp]? = some (.cells #[.bool p.fs, .string p.fh, .int .i64 p.fp, .bool p.us, .string p.uh, .int .i64 p.up, .string p.pa, .string p.qu, .bool p.wi, .string ⟨#[]⟩, .string ⟨#[]⟩, .int .i64 p.un] 39 (0, 0))) (h2 : ∃ u, W.heap[gs]? = some (.cells #[u] 33 (0, 0))) (hown : OwnX p W B (.slice (some ⟨g, 0, none⟩) n cap) l') (hgp : gp < B) (hgs : gs < B) (hne : gp ≠ gs) (hbW : B ≤ W.heap.size) :
    HoldX p gp gs B l' (W.setCell ⟨gs, 0, none⟩ (.slice (some ⟨g, 0, none⟩) n cap)) := by
  obtain ⟨u, hu⟩ := h2
  have hg : W.grownBy (W.setCell ⟨gs, 0, none⟩ (.slice (some ⟨g, 0, none⟩) n cap)) (some gs) := grown_setCells W gs 0 [.slice (some ⟨g, 0, none⟩) n cap]
  have hlt : gp < W.heap.size := (Array.getElem?_eq_some_iff.1 h1).1
  refine ⟨?_, ⟨.slice (some ⟨g, 0, none⟩) n cap, ?_, ?_⟩, hgp, hgs, hne, Nat.le_trans hbW hg.size⟩
  · rw [hg.block _ hlt (by intro e; injection e with e; exact hne e)]
    exact h1
  · have := heap_setCell_same W gs 0 #[u] 33 (.slice (some ⟨g, 0, none⟩) n cap) hu
    simpa using this
  · refine hown.kept hg (.inr ?_)
    have := (OwnK.lt hown g rfl).1
    intro e
    have e2 : (some g : Option Nat) = some gs := e
    injection e2 with e2
    omega
set_option maxRecDepth 100000 in
set_option maxHeartbeats 8000000 in
theorem add9_any (p : PsV) (gp gs B : Nat) (l : List (ByteArray × ByteArray)) (hl : l.length ≤ 500) (x y : ByteArray) (w : World) (h : HoldX p gp gs B l w) :
    Calls Tryz.prog 38 #[.string x, .string y, .pointer (some ⟨gp, 0, none⟩), .pointer (some ⟨gs, 0, none⟩)] w fun e w' => e = .returned (.tuple #[]) ∧ HoldX p gp gs B (addX l (x, y)) w' ∧ Below gs w w' := by
  have H : Hid (HoldX p gp gs B l w) := h
  obtain ⟨v, hv, hown⟩ := h.own
  obtain ⟨a, cap, g, rfl, hps⟩ := hown.pss
  obtain ⟨n, HN⟩ : ∃ n, Hid (l.length = n) := ⟨_, rfl⟩
  rw [HN.out] at hv hown hps hl
  have HV : Hid (w.heap[gs]? = some (.cells #[.slice a n cap] 33 (0, 0)) ∧ OwnX p w B (.slice a n cap) l ∧ Pss w a n g 0 (l.map p.of)) := ⟨hv, hown, hps⟩
  have sv : w.cell? ⟨gs, 0, none⟩ = some (.slice a n cap) := cell_of hv
  have HGSW : Hid (gs ≤ w.heap.size ∧ gs < B ∧ gp < B ∧ gp ≠ gs ∧ B ≤ w.heap.size) := ⟨Nat.le_of_lt (Array.getElem?_eq_some_iff.1 hv).1, h.gsB, h.gpB, h.ne, h.bW⟩
  have c0 : w.cell? ⟨gp, 0, none⟩ = some (.bool p.fs) := cell_of h.one
  have c1 : w.cell? ⟨gp, 1, none⟩ = some (.string p.fh) := cell_of h.one
  have c2 : w.cell? ⟨gp, 2, none⟩ = some (.int .i64 p.fp) := cell_of h.one
  have c3 : w.cell? ⟨gp, 3, none⟩ = some (.bool p.us) := cell_of h.one
  have c4 : w.cell? ⟨gp, 4, none⟩ = some (.string p.uh) := cell_of h.one
  have c5 : w.cell? ⟨gp, 5, none⟩ = some (.int .i64 p.up) := cell_of h.one
  have c6 : w.cell? ⟨gp, 6, none⟩ = some (.string p.pa) := cell_of h.one
  have c7 : w.cell? ⟨gp, 7, none⟩ = some (.string p.qu) := cell_of h.one
  have c8 : w.cell? ⟨gp, 8, none⟩ = some (.bool p.wi) := cell_of h.one
  have c9 : w.cell? ⟨gp, 9, none⟩ = some (.string ⟨#[]⟩) := cell_of h.one
  have c10 : w.cell? ⟨gp, 10, none⟩ = some (.string ⟨#[]⟩) := cell_of h.one
  have c11 : w.cell? ⟨gp, 11, none⟩ = some (.int .i64 p.un) := cell_of h.one
  clear h hv hown hps
  have HQ : Hid (BoxQ 39 w #[.bool p.fs, .string p.fh, .int .i64 p.fp, .bool p.us, .string p.uh, .int .i64 p.up, .string p.pa, .string p.qu, .bool p.wi, .string x, .string y, .int .i64 p.un] (w.alloc (.cells #[.bool p.fs, .string p.fh, .int .i64 p.fp, .bool p.us, .string p.uh, .int .i64 p.up, .string p.pa, .string p.qu, .bool p.wi, .string x, .string y, .int .i64 p.un] 39))) := BoxQ.new _ _ _
  have hsv1 : (w.alloc (.cells #[.bool p.fs, .string p.fh, .int .i64 p.fp, .bool p.us, .string p.uh, .int .i64 p.up, .string p.pa, .string p.qu, .bool p.wi, .string x, .string y, .int .i64 p.un] 39)).cell? ⟨gs, 0, none⟩ = some (.slice a n cap) := (HQ.out.bel.cell (p := ⟨gs, 0, none⟩) (lt_cell9 sv)).trans sv
  have q0 := HQ.out.at 0 _ rfl
  have q1 := HQ.out.at 1 _ rfl
  have q2 := HQ.out.at 2 _ rfl
  have q3 := HQ.out.at 3 _ rfl
  have q4 := HQ.out.at 4 _ rfl
  have q5 := HQ.out.at 5 _ rfl
  have q6 := HQ.out.at 6 _ rfl
  have q7 := HQ.out.at 7 _ rfl
  have q8 := HQ.out.at 8 _ rfl
  have q9 := HQ.out.at 9 _ rfl
  have q10 := HQ.out.at 10 _ rfl
  have q11 := HQ.out.at 11 _ rfl
  go_enter Tryz.func38, Tryz.ntmps38
  go_wp2_with fail
  refine (containsX_any p (x, y) l a n cap g 0 (by omega) _ (HV.out.2.2.below HQ.out.bel)).mono ?_
  rintro e w2 ⟨rfl, hb2⟩
  have HB2 : Hid (Below w.heap.size w w2) := HQ.out.inB hb2
  have HQ2 : Hid (BoxQ 39 w #[.bool p.fs, .string p.fh, .int .i64 p.fp, .bool p.us, .string p.uh, .int .i64 p.up, .string p.pa, .string p.qu, .bool p.wi, .string x, .string y, .int .i64 p.un] w2) := HQ.out.step hb2
  clear hb2 HQ sv hsv1 c0 q0 c1 q1 c2 q2 c3 q3 c4 q4 c5 q5 c6 q6 c7 q7 c8 q8 c9 q9 c10 q10 c11 q11
  obtain ⟨t, HT⟩ : ∃ t, Hid (l.any (sameX (x, y)) = t) := ⟨_, rfl⟩
  rw [HT.out]
  cases t
  · have HA : Hid (addX l (x, y) = l ++ [(x, y)]) := by show _ = _; unfold addX; rw [HT.out]; rfl
    have HV2 : Hid (w2.heap[gs]? = some (.cells #[.slice a n cap] 33 (0, 0)) ∧ w2.heap[gp]? = some (.cells #[.bool p.fs, .string p.fh, .int .i64 p.fp, .bool p.us, .string p.uh, .int .i64 p.up, .string p.pa, .string p.qu, .bool p.wi, .string ⟨#[]⟩, .string ⟨#[]⟩, .int .i64 p.un] 39 (0, 0)) ∧ OwnX p w2 B (.slice a n cap) l) :=
      ⟨by rw [HB2.out.block _ (Array.getElem?_eq_some_iff.1 HV.out.1).1]; exact HV.out.1, by rw [HB2.out.block _ (Array.getElem?_eq_some_iff.1 H.out.one).1]; exact H.out.one, HV.out.2.1.below HB2.out⟩
    have sv2 : w2.cell? ⟨gs, 0, none⟩ = some (.slice a n cap) := cell_of HV2.out.1
    have hz2 : B ≤ w2.heap.size := Nat.le_trans HGSW.out.2.2.2.2 HB2.out.size
    have b0 := HQ2.out.at 0 _ rfl
    have b1 := HQ2.out.at 1 _ rfl
    have b2 := HQ2.out.at 2 _ rfl
    have b3 := HQ2.out.at 3 _ rfl
    have b4 := HQ2.out.at 4 _ rfl
    have b5 := HQ2.out.at 5 _ rfl
    have b6 := HQ2.out.at 6 _ rfl
    have b7 := HQ2.out.at 7 _ rfl
    have b8 := HQ2.out.at 8 _ rfl
    have b9 := HQ2.out.at 9 _ rfl
    have b10 := HQ2.out.at 10 _ rfl
    have b11 := HQ2.out.at 11 _ rfl
    go_wp2_with (at_builtin; refine wp_appX rfl _ _ rfl p B w2 (.slice a n cap) l n rfl HV2.out.2.2 HN.out (by omega) hz2 (x, y) rfl ?_; intro g4 cap4 w4 hown4 hg4 hlt4 hBg; have HR4 : Hid (OwnX p w4 B (.slice (some ⟨g4, 0, none⟩) (n + 1) cap4) (l ++ [(x, y)]) ∧ w4.heap[gs]? = some (.cells #[.slice a n cap] 33 (0, 0)) ∧ w4.heap[gp]? = some (.cells #[.bool p.fs, .string p.fh, .int .i64 p.fp, .bool p.us, .string p.uh, .int .i64 p.up, .string p.pa, .string p.qu, .bool p.wi, .string ⟨#[]⟩, .string ⟨#[]⟩, .int .i64 p.un] 39 (0, 0)) ∧ Below gs w w4 ∧ B ≤ w4.heap.size) := (have hA : Below w2.heap.size w2 (w2.alloc (.cells #[.bool p.fs, .string p.fh, .int .i64 p.fp, .bool p.us, .string p.uh, .int .i64 p.up, .string p.pa, .string p.qu, .bool p.wi, .string x, .string y, .int .i64 p.un] 39)) := (Below.refl _ _).alloc (Nat.le_refl _) _; have hob : ∀ k, k < B → some k ≠ (Value.slice a n cap).ownBlock := fun k hk e => (by have := (OwnK.lt HV2.out.2.2 k e.symm).1; omega); have hk4 : ∀ k, k < B → w4.heap[k]? = w2.heap[k]? := fun k hk => (by rw [hg4.block k (by simp; omega) (hob k hk), hA.block k (by omega)]); ⟨hown4, (by rw [hk4 _ HGSW.out.2.1]; exact HV2.out.1), (by rw [hk4 _ HGSW.out.2.2.1]; exact HV2.out.2.1), ((HB2.out.mono HGSW.out.1).alloc (by have := HGSW.out.1; have := HB2.out.size; omega) _).grown hg4 (by have := HGSW.out.1; have := HB2.out.size; simp; omega) (fun i hi => by have := (OwnK.lt HV2.out.2.2 i hi).1; have := HGSW.out.2.1; omega), Nat.le_trans (by simp; omega) hg4.size⟩); clear hown4 hg4 hlt4 hBg; have sv4 : w4.cell? ⟨gs, 0, none⟩ = some (.slice a n cap) := cell_of HR4.out.2.1; have fz4 := free_of HR4.out.2.1)
    have HF : Hid (HoldX p gp gs B (l ++ [(x, y)]) (w4.setCell ⟨gs, 0, none⟩ (.slice (some ⟨g4, 0, none⟩) (n + 1) cap4)) ∧ Below gs w (w4.setCell ⟨gs, 0, none⟩ (.slice (some ⟨g4, 0, none⟩) (n + 1) cap4))) :=
      ⟨HoldX.setTo HR4.out.2.2.1 ⟨_, HR4.out.2.1⟩ HR4.out.1 HGSW.out.2.2.1 HGSW.out.2.1 HGSW.out.2.2.2.1 HR4.out.2.2.2.2, HR4.out.2.2.2.1.setCell (Nat.le_refl _) _⟩
    go_wp2
    go_end0
    exact ⟨rfl, by rw [HA.out]; exact HF.out.1, HF.out.2⟩
  · have HA : Hid (addX l (x, y) = l) := by show _ = _; unfold addX; rw [HT.out]; rfl
    go_wp2
    go_end0
    exact ⟨rfl, by rw [HA.out]; exact H.out.below HB2.out, HB2.out.mono HGSW.out.1⟩
end Go.Proofs.YthoblggjhdnlpaaGreatDoor

/- The passes for a request, each once. -/
namespace Go.Proofs.YthoblggjhdnlpaaGreatDoor

theorem addX_len (l : List (ByteArray × ByteArray)) (x : ByteArray × ByteArray) : (addX l x).length ≤ l.length + 1 := by
  unfold addX
  split <;> simp
theorem foldX_len (s : List (ByteArray × ByteArray)) : ∀ (l : List (ByteArray × ByteArray)), (l.foldl addX s).length ≤ s.length + l.length := by
  intro l
  induction l generalizing s with
  | nil => simp
  | cons x r ih =>
    have h1 := ih (addX s x)
    have h2 := addX_len s x
    simp only [List.foldl_cons, List.length_cons]
    omega
theorem foldX_snoc {α : Type} (f : α → ByteArray × ByteArray) (s : List (ByteArray × ByteArray)) {xs : List α} {k : Nat} {x : α} (h : xs[k]? = some x) : ((xs.take (k + 1)).map f).foldl addX s = addX (((xs.take k).map f).foldl addX s) (f x) := by
  obtain ⟨hk, e⟩ := List.getElem?_eq_some_iff.1 h
  rw [List.take_succ_eq_append_getElem hk, List.map_append, List.foldl_append, e]
  rfl
def mX (m : ByteArray) : ByteArray × ByteArray := (m, ⟨#[]⟩)
def hX (h : ByteArray) : ByteArray × ByteArray := (⟨#[]⟩, bs (h.data.toList.map low))
def passM (ms : List ByteArray) : List (ByteArray × ByteArray) := (ms.map mX).foldl addX []
def passL (ms hs : List ByteArray) : List (ByteArray × ByteArray) := (hs.map hX).foldl addX (passM ms)
theorem passM_len (ms : List ByteArray) : (passM ms).length ≤ ms.length := by
  have := foldX_len [] (ms.map mX)
  simpa [passM] using this
theorem passL_len (ms hs : List ByteArray) : (passL ms hs).length ≤ ms.length + hs.length := by
  have h1 := foldX_len (passM ms) (hs.map hX)
  have h2 := passM_len ms
  unfold passL
  rw [List.length_map] at h1
  omega
end Go.Proofs.YthoblggjhdnlpaaGreatDoor

/- One element more at a row that a call owns. -/
namespace Go.Proofs.YthoblggjhdnlpaaGreatDoor
open Go.RowKit

theorem Own.lt {w : World} {B : Nat} {v : Value} {l : List UInt8} (h : Own w B v l) : ∀ k, v.ownBlock = some k → B ≤ k ∧ k < w.heap.size := World.ownsRow.lt h
theorem Own.keep {w w' : World} {B : Nat} {v : Value} {l : List UInt8} (h : Own w B v l) (hb : Below w.heap.size w w') : Own w' B v l := by
  refine World.ownsRow.kept (row := none) h ⟨hb.1, hb.2, hb.3, hb.size, fun k hk _ => hb.block k hk⟩ ?_
  rcases v.ownBlock with _ | k
  · exact .inl rfl
  · exact .inr (by simp)
/-- A byte more at a row of bytes. -/
theorem wp_app1 {ops : Array Oper} {rest : List Oper} {o : Oper} {a : Act} {Q : Exit → Act → World → Prop} (hgd : o.guard = none) (s x : Operand)
    (ho : o.op = .call { callee := .builtin .append, args := #[s, x], argTypes := #[83, 83] })
    (B : Nat) (w0 wr : World) (v : Value) (l : List UInt8) (n : Nat) (hs : a.eval s = v) (hown : Own wr B v l) (hn : l.length = n) (hl : n ≤ 100000) (hb : Below B w0 wr) (hB : B ≤ wr.heap.size)
    (d : UInt8) (dn : Int) (hd : dn = (d.toNat : Int)) (hx : a.eval x = .slice (some ⟨wr.heap.size, 0, none⟩) 1 1)
    (h : ∀ g cap w', Own w' B (.slice (some ⟨g, 0, none⟩) (n + 1) cap) (l ++ [d]) → Below B w0 w' → g < w'.heap.size → (wr.alloc (.cells #[.int .u8 dn] 5)).grownBy w' v.ownBlock → wpList Tryz.prog ops Q rest (a.put o.dst (.slice (some ⟨g, 0, none⟩) (n + 1) cap)) w') :
    wpList Tryz.prog ops Q (o :: rest) a (wr.alloc (.cells #[.int .u8 dn] 5)) := by
  subst hd
  obtain ⟨i0, hi0, hz0, hz1, hz2⟩ := info_parts info5
  refine wpList_append_lies _ hgd s x 83 ho B 5 i0 (.int .u8 0) 1 1 Tryz.underlying83 hi0 hz0 hz1 hz2 rfl (by omega) v n _ hs ((hown.rows hn).alloc _) ⟨wr.heap.size, 0, none⟩ 1 1 [.int .u8 (d.toNat : Int)] hx rfl
    (World.news_of_block (cs := #[.int .u8 (d.toNat : Int)]) (t := 5) (fr := (0, 0)) (heap_alloc_new wr _)) (by simp [Value.oneCell']) (by omega) (by unfold maxLen; omega) (by omega) (by simp; omega) _ rfl ?_
  intro g cap w' hown1 hgrow _ hlt
  refine h g cap w' (Own.more (ds := [d]) hown1 hn rfl) ?_ hlt hgrow
  refine (hb.alloc hB _).grown hgrow (by simp; omega) (fun k hk => (hown.lt k hk).1)
end Go.Proofs.YthoblggjhdnlpaaGreatDoor

/- Where a cursor is, and what of the world it leaves as it was. -/
namespace Go.Proofs.YthoblggjhdnlpaaGreatDoor
open Go.RowKit

/-- A cursor at block b: its text, and where it is. -/
structure Cur (w : World) (b : Nat) (s : ByteArray) (k : Nat) : Prop where
  text : w.cell? ⟨b, 0, none⟩ = some (.string s)
  place : w.cell? ⟨b, 1, none⟩ = some (.int .i64 (k : Int))
  free : w.frozen? ⟨b, 1, none⟩ = false
  le : k ≤ s.size
theorem Cur.drewN {w : World} {b : Nat} {s : ByteArray} {k : Nat} (h : Cur w b s k) (n : Nat) : Cur (w.drewN n) b s k := ⟨h.text, h.place, h.free, h.le⟩
theorem Cur.drew {w : World} {b : Nat} {s : ByteArray} {k : Nat} (h : Cur w b s k) : Cur w.drew b s k := ⟨h.text, h.place, h.free, h.le⟩
theorem Cur.lt {w : World} {b : Nat} {s : ByteArray} {k : Nat} (h : Cur w b s k) : b < w.heap.size := by
  rcases Nat.lt_or_ge b w.heap.size with h1 | h1
  · exact h1
  · have := h.text
    simp [World.cell?, Array.getElem?_eq_none h1] at this
theorem Cur.set {w : World} {b : Nat} {s : ByteArray} {k : Nat} (h : Cur w b s k) (m : Nat) (hm : m ≤ s.size) (v : Int) (hv : v = (m : Int)) : Cur (w.setCell ⟨b, 1, none⟩ (.int .i64 v)) b s m := by
  subst hv
  refine ⟨?_, World.cell?_setCell_same _ _ _ h.place, ?_, hm⟩
  · rw [World.cell?_setCell_other _ _ _ _ (by intro e; injection e with _ e2; omega)]
    exact h.text
  · have := h.free
    simpa using this
theorem Cur.grown {w w' : World} {b : Nat} {s : ByteArray} {k : Nat} {row : Option Nat} (h : Cur w b s k) (hg : w.grownBy w' row) (hr : some b ≠ row) : Cur w' b s k :=
  ⟨hg.cell h.text hr, hg.cell h.place hr, (World.frozen?_of_block (a := ⟨b, 1, none⟩) (hg.block b h.lt hr)).trans h.free, h.le⟩
theorem Cur.below {w w' : World} {b : Nat} {s : ByteArray} {k : Nat} (h : Cur w b s k) (hb : Below w.heap.size w w') : Cur w' b s k :=
  h.grown (row := none) ⟨hb.os, hb.tape, hb.output, hb.size, fun i hi _ => hb.block i hi⟩ (by simp)
theorem grown_drewN (w : World) (n : Nat) (row : Option Nat) : w.grownBy (w.drewN n) row := ⟨rfl, rfl, rfl, Nat.le_refl _, fun _ _ _ => rfl⟩
theorem grown_set (w : World) (b i : Nat) (v : Value) : w.grownBy (w.setCell ⟨b, i, none⟩ v) (some b) :=
  ⟨rfl, rfl, rfl, by simp [World.setCell], fun k _ hk => Below.heap_setCell _ _ _ _ (by intro e; apply hk; rw [e])⟩
theorem grown_trans {a b c : World} {row : Option Nat} (h : a.grownBy b row) (k : b.grownBy c row) : a.grownBy c row :=
  ⟨k.os.trans h.os, k.tape.trans h.tape, k.output.trans h.output, Nat.le_trans h.size k.size, fun i hi hr => (k.block i (Nat.lt_of_lt_of_le hi h.size) hr).trans (h.block i hi hr)⟩
theorem grown_below {w w' : World} (hb : Below w.heap.size w w') (row : Option Nat) : w.grownBy w' row := ⟨hb.os, hb.tape, hb.output, hb.size, fun i hi _ => hb.block i hi⟩

theorem blankB_32 (c : UInt8) (h : (c.toNat : Int) = 32) : blankB c = true := by
  rw [(u8_is (n := 32) (by omega)).1 h]
  rfl
theorem blankB_9 (c : UInt8) (h : (c.toNat : Int) = 9) : blankB c = true := by
  rw [(u8_is (n := 9) (by omega)).1 h]
  rfl
theorem blankB_no (c : UInt8) (h : ¬ (c.toNat : Int) = 32) (h2 : ¬ (c.toNat : Int) = 9) : blankB c = false := by
  unfold blankB
  rw [beq_eq_false_iff_ne.2 (by rintro rfl; exact h rfl), beq_eq_false_iff_ne.2 (by rintro rfl; exact h2 rfl)]
  rfl
theorem blank_any (c : UInt8) (w : World) : Calls Tryz.prog 89 #[.int .u8 (c.toNat : Int)] w fun e w' => e = .returned (.bool (blankB c)) ∧ w' = w := by
  by_cases h : (c.toNat : Int) = 32
  · rw [blankB_32 c h]
    go_enter Tryz.func89, Tryz.ntmps89
    go_wp2
    go_ret
    exact ⟨rfl, rfl⟩
  · by_cases h2 : (c.toNat : Int) = 9
    · rw [blankB_9 c h2]
      go_enter Tryz.func89, Tryz.ntmps89
      go_wp2
      go_ret
      exact ⟨rfl, rfl⟩
    · rw [blankB_no c h h2]
      have e1 := beq_eq_false_iff_ne.2 h
      have e2 := beq_eq_false_iff_ne.2 h2
      go_enter Tryz.func89, Tryz.ntmps89
      go_wp2
      go_ret
      exact ⟨rfl, rfl⟩
theorem kind_blank : Kind 89 blankB := ⟨blank_any, enters_at Tryz.func89 (by kernel_rfl) rfl⟩

theorem on_any (s : ByteArray) (w : World) :
    Calls Tryz.prog 63 #[.string s] w fun e w' => e = .returned (.pointer (some ⟨w.heap.size, 0, none⟩)) ∧ Cur w' w.heap.size s 0 ∧ Below w.heap.size w w' ∧ w.heap.size < w'.heap.size := by
  go_enter Tryz.func63, Tryz.ntmps63
  go_wp2
  go_ret
  exact ⟨rfl, ⟨by simp, by simp, by simp, Nat.zero_le _⟩, (Below.refl _ _).alloc (Nat.le_refl _) _, by simp⟩
theorem at_any (b : Nat) (s : ByteArray) (k : Nat) (w : World) (hc : Cur w b s k) :
    Calls Tryz.prog 68 #[.pointer (some ⟨b, 0, none⟩)] w fun e w' => e = .returned (.int .i64 (k : Int)) ∧ w' = w := by
  obtain ⟨h1, h2, h3, h4⟩ := hc
  go_enter Tryz.func68, Tryz.ntmps68
  go_wp2
  go_ret
  exact ⟨rfl, rfl⟩
theorem end_any (b : Nat) (s : ByteArray) (k : Nat) (w : World) (hc : Cur w b s k) :
    Calls Tryz.prog 66 #[.pointer (some ⟨b, 0, none⟩)] w fun e w' => e = .returned (.bool ((k : Int) == (s.size : Int))) ∧ ∃ n, w' = w.drewN n := by
  obtain ⟨h1, h2, h3, h4⟩ := hc
  go_enter Tryz.func66, Tryz.ntmps66
  go_wp2
  go_quiet (fail)
  go_wp2
  go_ret
  exact ⟨rfl, _, rfl⟩
end Go.Proofs.YthoblggjhdnlpaaGreatDoor

/- What a cursor goes over. -/
namespace Go.Proofs.YthoblggjhdnlpaaGreatDoor
open Go.RowKit

theorem len_data (s : ByteArray) : s.data.toList.length = s.size := Array.length_toList
theorem rest_size (s : ByteArray) (k : Nat) : (s.extract k s.size).size = s.size - k := by simp
theorem run_rest_le (f : UInt8 → Bool) (s : ByteArray) (k : Nat) (hk : k ≤ s.size) : k + runL f (s.data.toList.drop k) ≤ s.size := by
  have := runL_le f (s.data.toList.drop k)
  rw [List.length_drop, len_data] at this
  omega
set_option maxHeartbeats 1000000 in
theorem over_any (K : Nat) (f : UInt8 → Bool) (hK : Kind K f) (b : Nat) (s : ByteArray) (hs : s.size ≤ 20000) (k : Nat) (w : World) (hc : Cur w b s k) :
    Calls Tryz.prog 88 #[.pointer (some ⟨b, 0, none⟩), .func (.func K) #[] #[]] w fun e w' => ∃ t : ByteArray, e = .returned (.string t) ∧ t.size = runL f (s.data.toList.drop k) ∧ Hid (t.data.toList = (s.data.toList.drop k).takeWhile f) ∧ Cur w' b s (k + runL f (s.data.toList.drop k)) ∧ w.grownBy w' (some b) := by
  obtain ⟨r, HR⟩ : ∃ r : ByteArray, Hid (s.extract k s.size = r) := ⟨_, rfl⟩
  have hr : r.size = s.size - k := by rw [← HR.out, rest_size]
  have HD : Hid (r.data.toList = s.data.toList.drop k) := by show _ = _; rw [← HR.out, from_data]
  obtain ⟨n, HN⟩ : ∃ n : Nat, Hid (runL f (s.data.toList.drop k) = n) := ⟨_, rfl⟩
  have hn : k + n ≤ s.size := by rw [← HN.out]; exact run_rest_le f s k hc.le
  have HC : Hid (Cur w b s k) := hc
  have HT : Hid ((r.extract 0 n).data.toList = (s.data.toList.drop k).takeWhile f) := by show _ = _; rw [upto_data, HD.out, ← HN.out, take_runL]
  have HZ : Hid ((r.extract 0 n).size = n) := by
    show _ = _
    simp
    omega
  obtain ⟨h1, h2, h3, h4⟩ := hc
  have hkS : (k : Int) ≤ (s.size : Int) := by omega
  go_enter Tryz.func88, Tryz.ntmps88
  go_wp2
  go_quiet (fail)
  rw [HR.out]
  go_wp2_with fail
  refine (run_any K f hK r (by omega) _).mono ?_
  rintro e w' ⟨rfl, hw⟩
  obtain rfl := hw.symm
  rw [HD.out, HN.out]
  have hnr : (n : Int) ≤ (r.size : Int) := by omega
  go_wp2
  go_ret
  refine ⟨_, rfl, ?_, ?_, ?_, ?_⟩
  · rw [HN.out]; exact HZ
  · exact HT
  · rw [HN.out]; exact (HC.out.drewN _).set _ hn _ (by push_cast; rfl)
  · exact grown_trans (grown_drewN w _ _) (grown_set _ _ _ _)
end Go.Proofs.YthoblggjhdnlpaaGreatDoor
