/- Texts of one claim, joined: each begins with what it proves. -/
import Derived.Test.YtoblpjknnchlmaaGreatDoorJo1
import Derived.Test.YtoblpjknnchlmaaGreatDoorJo3
import Derived.Test.YtoblpjknnchlmaaGreatDoorJo2
import Derived.Deep.LoopGhost
import Derived.Deep.Cut
import Derived.Deep.CutRange
import Derived.Deep.DeepCutAuto
import Derived.Shelf.Sort.Plain
import Derived.Shelf.Slices.In.SortNone2
import Derived.Shelf.Strings.Split
import Derived.Carry
import Derived.Deep.QuietTactic
import Derived.BigQuiet
/- Whether a number lies between two, by the document's own answer. -/
namespace Go.Proofs.YtoblpjknnchlmaaGreatDoor
open Go.RowKit

set_option maxHeartbeats 400000 in
theorem within_any (n a b : Int) (w : World) :
    Calls Tryz.prog 34 #[.int .i64 n, .int .i64 a, .int .i64 b] w fun e w' => e = .returned (.bool (decide (a ≤ n ∧ n ≤ b))) ∧ w' = w := by
  by_cases h : a ≤ n
  · by_cases h2 : n ≤ b
    · go_enter Tryz.func34, Tryz.ntmps34
      go_wp2
      go_ret
      simp [h, h2]
    · go_enter Tryz.func34, Tryz.ntmps34
      go_wp2
      go_ret
      simp [h2]
  · go_enter Tryz.func34, Tryz.ntmps34
    go_wp2
    go_ret
    simp; omega

theorem within_yes (n a b : Int) (h : a ≤ n) (h2 : n ≤ b) (w : World) : Calls Tryz.prog 34 #[.int .i64 n, .int .i64 a, .int .i64 b] w fun e w' => e = .returned (.bool true) ∧ w' = w := by
  refine (within_any n a b w).mono ?_
  rintro e w' ⟨rfl, rfl⟩
  simp [h, h2]
theorem within_no (n a b : Int) (h : ¬ (a ≤ n ∧ n ≤ b)) (w : World) : Calls Tryz.prog 34 #[.int .i64 n, .int .i64 a, .int .i64 b] w fun e w' => e = .returned (.bool false) ∧ w' = w := by
  refine (within_any n a b w).mono ?_
  rintro e w' ⟨rfl, rfl⟩
  rw [decide_eq_false h]
  exact ⟨rfl, rfl⟩
end Go.Proofs.YtoblpjknnchlmaaGreatDoor

/- The document's own small letters, told as a list of bytes. -/
namespace Go.Proofs.YtoblpjknnchlmaaGreatDoor
open Go.RowKit

set_option maxHeartbeats 400000 in
theorem refLower_any (s : ByteArray) (w : World) (hs : s.size ≤ 20000) :
    Calls Tryz.prog 23 #[.string s] w fun e w' => e = .returned (.string (bs (s.data.toList.map low))) ∧ Below w.heap.size w w' := by
  go_enter Tryz.func23, Tryz.ntmps23
  go_wp2
  go_loopw [3, 8] (fun v i wr => ∃ (k : Nat) (o : ByteArray), k ≤ s.size ∧ i = .int .i64 k ∧ v = .string o ∧ o.size = k ∧ Hid (o = bs ((s.data.toList.take k).map low)) ∧ Below w.heap.size w wr) (fun _ i _ => s.size - (intOf i).toNat)
  case atStart => exact ⟨0, _, Nat.zero_le _, rfl, rfl, rfl, rfl, Below.refl _ _⟩
  case round =>
    obtain ⟨k, o, hk, rfl, rfl, ho, HO, hb⟩ := hrel
    by_cases hlt : k < s.size
    · obtain ⟨c, hcd⟩ : ∃ c : UInt8, s[k] = c := ⟨_, rfl⟩
      have hcl : (c.toNat : Int) < 256 := by have := c.toNat_lt; omega
      have HS : Hid (s.data.toList.take (k + 1) = s.data.toList.take k ++ [c]) := by rw [← hcd]; exact take_snoc s k hlt
      by_cases hc : 65 ≤ (c.toNat : Int) ∧ (c.toNat : Int) ≤ 90
      · have HL : Hid (UInt8.ofNat ((c.toNat : Int) + 32).toNat = low c) := low_in _ hc
        go_wp2_with (first | (go_at_call 34; refine (within_yes _ _ _ hc.1 hc.2 _).mono ?_; rintro e w' ⟨rfl, rfl⟩) | (go_at_call 35; refine (char_o _ (by omega) (by omega) _).mono ?_; rintro e w' ⟨t, rfl, ht, HT, hb2⟩))
        go_roundw
        case rel => exact ⟨k + 1, o ++ t, by omega, by go_num, rfl, by simp [ho, ht], by show o ++ t = _; rw [HS.out, List.map_append, bs_append, HO.out, HT.out, HL.out]; rfl, hb.trans (hb2.mono hb.size)⟩
        case measure => simp [intOf]; omega
      · have HL : Hid (low c = c) := low_out _ hc
        go_wp2_with (first | (go_at_call 34; refine (within_no _ _ _ hc _).mono ?_; rintro e w' ⟨rfl, rfl⟩) | (go_at_call 35; refine (char_o _ (by omega) (by omega) _).mono ?_; rintro e w' ⟨t, rfl, ht, HT, hb2⟩))
        go_roundw
        case rel => exact ⟨k + 1, o ++ t, by omega, by go_num, rfl, by simp [ho, ht], by show o ++ t = _; rw [HS.out, List.map_append, bs_append, HO.out, HT.out]; simp [HL.out], hb.trans (hb2.mono hb.size)⟩
        case measure => simp [intOf]; omega
    · go_wp2
      go_ret
      exact ⟨ret_str (by rw [HO.out, List.take_of_length_le (by simp; omega)]), hb⟩

end Go.Proofs.YtoblpjknnchlmaaGreatDoor

/- A method as it is sent, and whether one is simple, by both. -/
namespace Go.Proofs.YtoblpjknnchlmaaGreatDoor
open Go.RowKit Go.Shelf

set_option maxHeartbeats 1000000 in
theorem refSimple_any (s : ByteArray) (w : World) : Calls Tryz.prog 14 #[.string s] w fun e w' => e = .returned (.bool (simpleL s.toList)) ∧ w' = w := by
  have HS : Hid (simpleL s.toList = (s.toList == [71, 69, 84] || (s.toList == [72, 69, 65, 68] || s.toList == [80, 79, 83, 84]))) := rfl
  go_enter Tryz.func14, Tryz.ntmps14
  go_wp2
  all_goals
    go_ret
    exact ⟨ret_bool (by rw [HS.out]; first | exact Bool.or_assoc _ _ _ | simp [*]), rfl⟩
theorem low_is (s x : ByteArray) (hx : bs (s.data.toList.map low) = x) (m : ByteArray) (l : List UInt8) (hm : m.data.toList.map low = l) : sameL s.data.toList m.data.toList = (x.toList == l) := by
  unfold sameL
  rw [hm, ByteArray.toList_eq, ← hx, bs_data]
theorem upper_is (x m : ByteArray) (l : List UInt8) (hx : (x.toList == l) = true) (hm : l.map Lib.upperB = m.data.toList) : x.data.toList.map Lib.upperB = m.data.toList := by
  rw [← hm, ← eq_of_beq hx, ByteArray.toList_eq]
theorem ascii_is (x : ByteArray) (l : List UInt8) (hx : (x.toList == l) = true) (ha : l.all (fun c => decide (c.toNat < 128)) = true) : ∀ c ∈ x.data.toList, c.toNat < 128 := by
  intro c hc
  rw [← ByteArray.toList_eq, eq_of_beq hx] at hc
  simpa using List.all_eq_true.1 ha c hc
set_option maxRecDepth 100000 in
set_option maxHeartbeats 4000000 in
theorem refMethod_any (s : ByteArray) (hs : s.size ≤ 3000) (w : World) :
    Calls Tryz.prog 13 #[.string s] w fun e w' => e = .returned (.string (methodB s)) ∧ Below w.heap.size w w' := by
  obtain ⟨y, HY⟩ : ∃ y, Hid (methodB s = y) := ⟨_, rfl⟩
  rw [HY.out]
  obtain ⟨x, HX⟩ : ∃ x : ByteArray, Hid (bs (s.data.toList.map low) = x) := ⟨_, rfl⟩
  have hxs : x.size ≤ 5000 := by
    rw [← HX.out, bs_size, List.length_map]
    have : s.data.toList.length = s.size := Array.length_toList
    omega
  go_enter Tryz.func13, Tryz.ntmps13
  go_wp2_with fail
  refine (refLower_any s _ (by omega)).mono ?_
  rintro e w1 ⟨rfl, hb1⟩
  rw [HX.out]
  have HW1 : Hid (Below w.heap.size w w1) := hb1
  clear hb1
  have HB0 : Hid (sameL s.data.toList mth0.data.toList = (x.toList == [100, 101, 108, 101, 116, 101])) := low_is s x HX.out mth0 _ (by decide)
  cases a0 : (x.toList == [100, 101, 108, 101, 116, 101])
  rotate_left
  · have HE : Hid (y = mth0) := by
      show _ = _
      rw [← HY.out]
      unfold methodB
      simp only [HB0.out, a0, if_true]
    have HU := upper_is x mth0 _ a0 (by decide)
    have HA := ascii_is x _ a0 (by decide)
    go_wp2_with fail
    refine (refLower_any s _ (by omega)).mono ?_
    rintro e w2 ⟨rfl, hb2⟩
    rw [HX.out]
    have HW2 : Hid (Below w.heap.size w w2) := HW1.out.trans (hb2.mono HW1.out.size)
    clear hb2
    go_wp2_with fail
    refine (upper_ascii x mth0 hxs HA HU _).mono ?_
    rintro e w3 ⟨rfl, hb3⟩
    go_wp2
    go_ret
    exact ⟨by rw [HE.out]; rfl, HW2.out.trans (hb3.mono HW2.out.size)⟩
  have HB1 : Hid (sameL s.data.toList mth1.data.toList = (x.toList == [103, 101, 116])) := low_is s x HX.out mth1 _ (by decide)
  cases a1 : (x.toList == [103, 101, 116])
  rotate_left
  · have HE : Hid (y = mth1) := by
      show _ = _
      rw [← HY.out]
      unfold methodB
      simp only [HB0.out, HB1.out, a0, a1, if_true, Bool.false_eq_true, if_false]
    have HU := upper_is x mth1 _ a1 (by decide)
    have HA := ascii_is x _ a1 (by decide)
    go_wp2_with fail
    refine (refLower_any s _ (by omega)).mono ?_
    rintro e w2 ⟨rfl, hb2⟩
    rw [HX.out]
    have HW2 : Hid (Below w.heap.size w w2) := HW1.out.trans (hb2.mono HW1.out.size)
    clear hb2
    go_wp2_with fail
    refine (upper_ascii x mth1 hxs HA HU _).mono ?_
    rintro e w3 ⟨rfl, hb3⟩
    go_wp2
    go_ret
    exact ⟨by rw [HE.out]; rfl, HW2.out.trans (hb3.mono HW2.out.size)⟩
  have HB2 : Hid (sameL s.data.toList mth2.data.toList = (x.toList == [104, 101, 97, 100])) := low_is s x HX.out mth2 _ (by decide)
  cases a2 : (x.toList == [104, 101, 97, 100])
  rotate_left
  · have HE : Hid (y = mth2) := by
      show _ = _
      rw [← HY.out]
      unfold methodB
      simp only [HB0.out, HB1.out, HB2.out, a0, a1, a2, if_true, Bool.false_eq_true, if_false]
    have HU := upper_is x mth2 _ a2 (by decide)
    have HA := ascii_is x _ a2 (by decide)
    go_wp2_with fail
    refine (refLower_any s _ (by omega)).mono ?_
    rintro e w2 ⟨rfl, hb2⟩
    rw [HX.out]
    have HW2 : Hid (Below w.heap.size w w2) := HW1.out.trans (hb2.mono HW1.out.size)
    clear hb2
    go_wp2_with fail
    refine (upper_ascii x mth2 hxs HA HU _).mono ?_
    rintro e w3 ⟨rfl, hb3⟩
    go_wp2
    go_ret
    exact ⟨by rw [HE.out]; rfl, HW2.out.trans (hb3.mono HW2.out.size)⟩
  have HB3 : Hid (sameL s.data.toList mth3.data.toList = (x.toList == [111, 112, 116, 105, 111, 110, 115])) := low_is s x HX.out mth3 _ (by decide)
  cases a3 : (x.toList == [111, 112, 116, 105, 111, 110, 115])
  rotate_left
  · have HE : Hid (y = mth3) := by
      show _ = _
      rw [← HY.out]
      unfold methodB
      simp only [HB0.out, HB1.out, HB2.out, HB3.out, a0, a1, a2, a3, if_true, Bool.false_eq_true, if_false]
    have HU := upper_is x mth3 _ a3 (by decide)
    have HA := ascii_is x _ a3 (by decide)
    go_wp2_with fail
    refine (refLower_any s _ (by omega)).mono ?_
    rintro e w2 ⟨rfl, hb2⟩
    rw [HX.out]
    have HW2 : Hid (Below w.heap.size w w2) := HW1.out.trans (hb2.mono HW1.out.size)
    clear hb2
    go_wp2_with fail
    refine (upper_ascii x mth3 hxs HA HU _).mono ?_
    rintro e w3 ⟨rfl, hb3⟩
    go_wp2
    go_ret
    exact ⟨by rw [HE.out]; rfl, HW2.out.trans (hb3.mono HW2.out.size)⟩
  have HB4 : Hid (sameL s.data.toList mth4.data.toList = (x.toList == [112, 111, 115, 116])) := low_is s x HX.out mth4 _ (by decide)
  cases a4 : (x.toList == [112, 111, 115, 116])
  rotate_left
  · have HE : Hid (y = mth4) := by
      show _ = _
      rw [← HY.out]
      unfold methodB
      simp only [HB0.out, HB1.out, HB2.out, HB3.out, HB4.out, a0, a1, a2, a3, a4, if_true, Bool.false_eq_true, if_false]
    have HU := upper_is x mth4 _ a4 (by decide)
    have HA := ascii_is x _ a4 (by decide)
    go_wp2_with fail
    refine (refLower_any s _ (by omega)).mono ?_
    rintro e w2 ⟨rfl, hb2⟩
    rw [HX.out]
    have HW2 : Hid (Below w.heap.size w w2) := HW1.out.trans (hb2.mono HW1.out.size)
    clear hb2
    go_wp2_with fail
    refine (upper_ascii x mth4 hxs HA HU _).mono ?_
    rintro e w3 ⟨rfl, hb3⟩
    go_wp2
    go_ret
    exact ⟨by rw [HE.out]; rfl, HW2.out.trans (hb3.mono HW2.out.size)⟩
  have HB5 : Hid (sameL s.data.toList mth5.data.toList = (x.toList == [112, 117, 116])) := low_is s x HX.out mth5 _ (by decide)
  cases a5 : (x.toList == [112, 117, 116])
  rotate_left
  · have HE : Hid (y = mth5) := by
      show _ = _
      rw [← HY.out]
      unfold methodB
      simp only [HB0.out, HB1.out, HB2.out, HB3.out, HB4.out, HB5.out, a0, a1, a2, a3, a4, a5, if_true, Bool.false_eq_true, if_false]
    have HU := upper_is x mth5 _ a5 (by decide)
    have HA := ascii_is x _ a5 (by decide)
    go_wp2_with fail
    refine (refLower_any s _ (by omega)).mono ?_
    rintro e w2 ⟨rfl, hb2⟩
    rw [HX.out]
    have HW2 : Hid (Below w.heap.size w w2) := HW1.out.trans (hb2.mono HW1.out.size)
    clear hb2
    go_wp2_with fail
    refine (upper_ascii x mth5 hxs HA HU _).mono ?_
    rintro e w3 ⟨rfl, hb3⟩
    go_wp2
    go_ret
    exact ⟨by rw [HE.out]; rfl, HW2.out.trans (hb3.mono HW2.out.size)⟩
  have HE : Hid (y = s) := by
    show _ = _
    rw [← HY.out]
    unfold methodB
    simp only [HB0.out, HB1.out, HB2.out, HB3.out, HB4.out, HB5.out, a0, a1, a2, a3, a4, a5, Bool.false_eq_true, if_false]
  go_wp2
  go_ret
  exact ⟨by rw [HE.out]; rfl, HW1.out⟩
end Go.Proofs.YtoblpjknnchlmaaGreatDoor

/- Which headers must be asked for, by the program: the walk. -/
namespace Go.Proofs.YtoblpjknnchlmaaGreatDoor
open Go.RowKit Go.Shelf

/-- The headers are small, and few. -/
def Small8 (ps : List Par) : Prop := ∀ p ∈ ps, p.1.size ≤ 3000 ∧ p.2.size ≤ 3000
def AskInv (w : World) (ps : List Par) (k : Nat) (u v : Value) (W : World) : Prop :=
  Two W w.heap.size u v (notPlain (ps.take k)) (arePlain (ps.take k)) ∧ Below w.heap.size w W
theorem OwnS.slice {w : World} {B : Nat} {v : Value} {xs : List ByteArray} (h : OwnS w B v xs) : ∃ a cap, v = .slice a xs.length cap := by
  obtain ⟨a, cap, _, e, _⟩ := h.strs
  exact ⟨a, cap, e⟩
set_option maxRecDepth 100000 in
set_option maxHeartbeats 8000000 in
theorem asked8_any (ps : List Par) (hps : Small8 ps) (a0 : Option Addr) (len cap b off : Nat) (hlen : len ≤ 60) (w : World) (hx : Pars w a0 len b off ps) :
    Calls Tryz.prog 11 #[.slice a0 len cap] w fun e w' => (∃ v, e = .returned v ∧ OwnS w' w.heap.size v (askedL ps)) ∧ Below w.heap.size w w' := by
  have HX : Hid (Pars w a0 len b off ps) := hx
  have HP : Hid (Small8 ps) := hps
  have HL : Hid (ps.length = len) := hx.len_eq
  clear hx hps
  go_enter Tryz.func11, Tryz.ntmps11
  go_wp2
  go_loopw [3, 4, 5, 11] (fun su sv t i wr => ∃ (k : Nat) (tg : Nat) (u v : Value), k ≤ len ∧ u = su ∧ v = sv ∧ i = .int .i64 k ∧ t = .int .i64 tg ∧ tg ≤ 10000 ∧ Hid (tg = together (ps.take k)) ∧ Hid (AskInv w ps k u v wr)) (fun _ _ _ i _ => len - (intOf i).toNat)
  case atStart => exact ⟨0, 0, _, _, Nat.zero_le _, rfl, rfl, rfl, rfl, by omega, rfl, ⟨⟨ownS_nil _ _, ownS_nil _ _, fun k h => by cases h⟩, Below.refl _ _⟩⟩
  case round =>
    obtain ⟨k, tg, u, v, hk, rfl, rfl, rfl, rfl, htg, HT, HI⟩ := hrel
    by_cases hlt : k < len
    · have hltz : (k : Int) < (len : Int) := by omega
      obtain ⟨p, hp⟩ : ∃ p, ps[k]? = some p := ⟨ps[k]'(by have := HL.out; omega), List.getElem?_eq_getElem _⟩
      obtain ⟨pn, pv⟩ := p
      have HPK : Hid (ps[k]? = some (pn, pv)) := hp
      have hpz := HP.out _ (List.mem_of_getElem? hp)
      have hpz1 : pn.size ≤ 3000 := hpz.1
      have hpz2 : pv.size ≤ 3000 := hpz.2
      obtain ⟨ha0, _⟩ := HX.out.lies (by omega)
      subst ha0
      have hXr := HX.out.below HI.out.2
      have c1 : wr.cell? ⟨b, off + k * 2, none⟩ = some (.string pn) := hXr.one k _ hp
      have c2 : wr.cell? ⟨b, off + k * 2 + 1, none⟩ = some (.string pv) := hXr.two k _ hp
      have HW0 : Hid (∀ w', Below (wr.alloc (.cells #[.string pn, .string pv] 33)).heap.size (wr.alloc (.cells #[.string pn, .string pv] 33)) w' → AskInv w ps k u v w' ∧ w'.heap[wr.heap.size]? = some (.cells #[.string pn, .string pv] 33 (0, 0))) := fun w' hb => by
        have hb0 : Below wr.heap.size wr (wr.alloc (.cells #[.string pn, .string pv] 33)) := (Below.refl _ _).alloc (Nat.le_refl _) _
        have hb1 : Below wr.heap.size wr w' := hb0.trans (hb.mono (by simp))
        exact ⟨⟨HI.out.1.below hb1, HI.out.2.trans (hb1.mono HI.out.2.size)⟩, (hb.block _ (by simp)).trans (heap_alloc_new wr _)⟩
      obtain ⟨x, HN⟩ : ∃ x : ByteArray, Hid (bs (pn.data.toList.map low) = x) := ⟨_, rfl⟩
      have HVB : Hid ((∀ j, u.ownBlock = some j → j < wr.heap.size) ∧ (∀ j, v.ownBlock = some j → j < wr.heap.size)) := ⟨fun j h => (HI.out.1.one.lt j h).2, fun j h => (HI.out.1.two.lt j h).2⟩
      clear hp hpz hXr HI
      go_wp2_with fail
      refine (lower_any pn _ (by omega)).mono ?_
      rintro e w1 ⟨rfl, hb1⟩
      rw [HN.out]
      have HW1 : Hid (AskInv w ps k u v w1 ∧ w1.heap[wr.heap.size]? = some (.cells #[.string pn, .string pv] 33 (0, 0))) := HW0.out _ hb1
      clear hb1 HW0 c1 c2
      obtain ⟨x0, x1, _⟩ := two_at HW1.out.2
      obtain ⟨q, HQ⟩ : ∃ q, Hid (plainL pn.data.toList pv.data.toList = q) := ⟨_, rfl⟩
      go_wp2_with fail
      refine (plain_any pn pv (by omega) (by omega) _).mono ?_
      rintro e w2 ⟨rfl, hb2⟩
      rw [HQ.out]
      have HW2 : Hid (AskInv w ps k u v w2 ∧ w2.heap[wr.heap.size]? = some (.cells #[.string pn, .string pv] 33 (0, 0))) := ⟨⟨HW1.out.1.1.below hb2, HW1.out.1.2.trans (hb2.mono HW1.out.1.2.size)⟩, (hb2.block _ (Array.getElem?_eq_some_iff.1 HW1.out.2).1).trans HW1.out.2⟩
      clear hb2 x0 x1 HW1
      have hlens : (notPlain (ps.take k)).length + (arePlain (ps.take k)).length ≤ 60 := by
        have h1 := lens_le (ps.take k)
        have h2 : (ps.take k).length ≤ k := List.length_take_le _ _
        omega
      obtain ⟨au, cu, rfl⟩ := HW2.out.1.1.one.slice
      obtain ⟨av, cv, rfl⟩ := HW2.out.1.1.two.slice
      obtain ⟨nu, HNU⟩ : ∃ n, Hid ((notPlain (ps.take k)).length = n) := ⟨_, rfl⟩
      obtain ⟨nv, HNV⟩ : ∃ n, Hid ((arePlain (ps.take k)).length = n) := ⟨_, rfl⟩
      rw [HNU.out, HNV.out] at hlens
      rw [HNU.out, HNV.out] at HW2 HVB ⊢
      cases q
      · have HS := notPlain_no ps k _ HPK.out HQ.out
        have HNX : Hid (lowN (pn, pv) = x) := HN.out
        go_wp2_with (at_builtin; refine wp_app2 rfl _ _ rfl w.heap.size w2 (.slice au nu cu) (.slice av nv cv) _ _ nu rfl HW2.out.1.1 HNU.out (by omega) HW2.out.1.2.size x rfl ?_; intro g4 cap4 w4 hown4 hb4 hk4; have HW4 : Hid (Two w4 w.heap.size (.slice (some ⟨g4, 0, none⟩) (nu + 1) cap4) (.slice av nv cv) (notPlain (ps.take k) ++ [x]) (arePlain (ps.take k)) ∧ Below w.heap.size w w4) := ⟨hown4, HW2.out.1.2.trans hb4⟩; clear hown4 hb4 hk4)
        go_roundw
        case rel => exact ⟨k + 1, tg, _, _, by omega, rfl, rfl, by go_num, rfl, htg, by rw [HS.2.2]; exact HT, ⟨by rw [HS.1, HS.2.1, HNX.out]; exact HW4.out.1, HW4.out.2⟩⟩
        case measure => simp [intOf]; omega
      · have HS := notPlain_yes ps k _ HPK.out HQ.out
        have HNX : Hid (lowN (pn, pv) = x) := HN.out
        have htn : tg + pv.size ≤ 10000 := by
          have h1 := together_le (ps.take (k + 1))
          have h2 : (ps.take (k + 1)).length ≤ k + 1 := List.length_take_le _ _
          have h3 := HS.2.2
          have h4 : tg = together (ps.take k) := HT
          simp only at h3
          omega
        go_wp2_with (at_builtin; refine wp_app2 rfl _ _ rfl w.heap.size w2 (.slice av nv cv) (.slice au nu cu) _ _ nv rfl HW2.out.1.1.swap HNV.out (by omega) HW2.out.1.2.size x rfl ?_; intro g4 cap4 w4 hown4 hb4 hk4; have HW4 : Hid (Two w4 w.heap.size (.slice au nu cu) (.slice (some ⟨g4, 0, none⟩) (nv + 1) cap4) (notPlain (ps.take k)) (arePlain (ps.take k) ++ [x]) ∧ Below w.heap.size w w4) := ⟨hown4.swap, HW2.out.1.2.trans hb4⟩; have x1 := (two_at ((hk4 wr.heap.size (Array.getElem?_eq_some_iff.1 HW2.out.2).1 (fun e => Nat.lt_irrefl _ (HVB.out.2 _ e))).trans HW2.out.2)).2.1; clear hown4 hb4 hk4)
        go_roundw
        case rel => exact ⟨k + 1, tg + pv.size, _, _, by omega, rfl, rfl, by go_num, by go_num, htn, by rw [HS.2.2]; show tg + pv.size = _ + pv.size; rw [HT.out], ⟨by rw [HS.1, HS.2.1, HNX.out]; exact HW4.out.1, HW4.out.2⟩⟩
        case measure => simp [intOf]; omega
    · have hltz : ¬ (k : Int) < (len : Int) := by omega
      have HE : Hid (Two wr w.heap.size u v (notPlain ps) (arePlain ps) ∧ Below w.heap.size w wr ∧ tg = together ps) := by
        have h1 := HI.out
        have h2 : tg = together (ps.take k) := HT
        unfold AskInv at h1
        rw [List.take_of_length_le (by have := HL.out; omega)] at h1 h2
        exact ⟨h1.1, h1.2, h2⟩
      have hlens : (notPlain ps).length + (arePlain ps).length ≤ 60 := by
        have h1 := lens_le ps
        have := HL.out
        omega
      clear HI HT
      obtain ⟨au, cu, rfl⟩ := HE.out.1.one.slice
      obtain ⟨av, cv, rfl⟩ := HE.out.1.two.slice
      obtain ⟨nu, HNU⟩ : ∃ n, Hid ((notPlain ps).length = n) := ⟨_, rfl⟩
      obtain ⟨nv, HNV⟩ : ∃ n, Hid ((arePlain ps).length = n) := ⟨_, rfl⟩
      rw [HNU.out, HNV.out] at hlens
      rw [HNU.out, HNV.out] at HE ⊢
      go_upto_if 35 with fail
      go_cut [3] (fun s3 wc => ∃ u' : Value, u' = s3 ∧ Hid (OwnS wc w.heap.size u' (askedNames ps) ∧ Below w.heap.size w wc))
      case first =>
        by_cases hbig : 1024 < tg
        · have hbz : (1024 : Int) < (tg : Int) := by omega
          have HN : Hid (askedNames ps = notPlain ps ++ arePlain ps) := by
            show _ = _
            unfold askedNames
            rw [if_pos (by rw [← HE.out.2.2]; exact hbig)]
          have hn0 : 0 < nv := by
            rcases Nat.eq_zero_or_pos nv with h0 | h0
            · have h1 := together_none ps (by rw [HNV.out]; exact h0)
              have h2 := HE.out.2.2
              omega
            · exact h0
          go_wp2_with (at_builtin; refine wp_appAll rfl _ _ rfl w.heap.size wr (.slice au nu cu) (.slice av nv cv) _ _ nu nv rfl rfl HE.out.1 HNU.out HNV.out hn0 (by omega) HE.out.2.1.size ?_; intro g4 cap4 w4 hown4 hb4; have HW4 : Hid (OwnS w4 w.heap.size (.slice (some ⟨g4, 0, none⟩) (nu + nv) cap4) (notPlain ps ++ arePlain ps) ∧ Below w.heap.size w w4) := ⟨hown4, HE.out.2.1.trans hb4⟩; clear hown4 hb4)
          go_meet
          exact ⟨_, rfl, by rw [HN.out]; exact HW4⟩
        · have hbz : ¬ (1024 : Int) < (tg : Int) := by omega
          have HN : Hid (askedNames ps = notPlain ps) := by
            show _ = _
            unfold askedNames
            rw [if_neg (by rw [← HE.out.2.2]; exact hbig)]
          go_wp2
          go_meet
          exact ⟨_, rfl, by rw [HN.out]; exact ⟨HE.out.1.one, HE.out.2.1⟩⟩
      case rest =>
      obtain ⟨u', rfl, HC⟩ := hcut
      have hal : (askedNames ps).length ≤ 1000000 := by
        unfold askedNames
        split
        · rw [List.length_append, HNU.out, HNV.out]; omega
        · rw [HNU.out]; omega
      clear HE hlens
      go_wp2_with fail
      refine (sort_own _ w.heap.size u' _ HC.out.1 hal).mono ?_
      rintro e w5 ⟨rfl, hown5, hg5⟩
      have HW5 : Hid (OwnS w5 w.heap.size u' ((sortL (tx (askedNames ps))).map bs) ∧ Below w.heap.size w w5) := ⟨hown5, HC.out.2.grown hg5 HC.out.2.size (fun j hj => (HC.out.1.lt j hj).1)⟩
      clear hown5 hg5
      go_wp2_with fail
      refine (compact_own _ w.heap.size u' _ HW5.out.1 (by rw [List.length_map, sortL_len]; unfold tx; rw [List.length_map]; exact hal)).mono ?_
      rintro e w6 ⟨⟨v6, rfl, hown6⟩, hg6⟩
      have HW6 : Hid (OwnS w6 w.heap.size v6 (askedL ps) ∧ Below w.heap.size w w6) := by
        rw [tx_bs] at hown6
        exact ⟨hown6, HW5.out.2.grown hg6 HW5.out.2.size (fun j hj => (HW5.out.1.lt j hj).1)⟩
      clear hown6 hg6
      go_wp2
      go_ret
      exact ⟨⟨v6, rfl, HW6.out.1⟩, HW6.out.2⟩
end Go.Proofs.YtoblpjknnchlmaaGreatDoor

/- The library's contracts that are leant on, laid at this program's numbers. -/
namespace Go.Proofs.YtoblpjknnchlmaaGreatDoor
open Go.Shelf Go.RowKit
def lays192_ren : Go.Shelf.Ren := ⟨fun | 192 => 46 | 190 => 21 | 125 => 33 | 258 => 32 | 128 => 57 | 129 => 58 | 302 => 48 | 303 => 49 | 304 => 50 | 305 => 51 | 306 => 52 | 307 => 53 | 308 => 54 | 309 => 55 | 310 => 56 | 333 => 76 | 329 => 77 | 330 => 78 | 334 => 79 | 335 => 80 | 336 => 81 | 344 => 95 | n => n, fun | 31 => 40 | 0 => 0 | 9 => 9 | 3 => 3 | 46 => 54 | 51 => 84 | 53 => 86 | 4 => 4 | 183 => 77 | 182 => 76 | 131 => 81 | 5 => 5 | 218 => 101 | 222 => 105 | 228 => 117 | 229 => 118 | n => n, fun | n => n⟩
theorem lays192 : Go.Proofs.Lays.n192 Tryz.prog lays192_ren := {
  mixed := by kernel_rfl
  f125 := Tryz.func33.trans (congrArg some (by kernel_rfl))
  f128 := Tryz.func57.trans (congrArg some (by kernel_rfl))
  f129 := Tryz.func58.trans (congrArg some (by kernel_rfl))
  f190 := Tryz.func21.trans (congrArg some (by kernel_rfl))
  f192 := Tryz.func46.trans (congrArg some (by kernel_rfl))
  f258 := Tryz.func32.trans (congrArg some (by kernel_rfl))
  f302 := Tryz.func48.trans (congrArg some (by kernel_rfl))
  f303 := Tryz.func49.trans (congrArg some (by kernel_rfl))
  f304 := Tryz.func50.trans (congrArg some (by kernel_rfl))
  f305 := Tryz.func51.trans (congrArg some (by kernel_rfl))
  f306 := Tryz.func52.trans (congrArg some (by kernel_rfl))
  f307 := Tryz.func53.trans (congrArg some (by kernel_rfl))
  f308 := Tryz.func54.trans (congrArg some (by kernel_rfl))
  f309 := Tryz.func55.trans (congrArg some (by kernel_rfl))
  f310 := Tryz.func56.trans (congrArg some (by kernel_rfl))
  f329 := Tryz.func77.trans (congrArg some (by kernel_rfl))
  f330 := Tryz.func78.trans (congrArg some (by kernel_rfl))
  f333 := Tryz.func76.trans (congrArg some (by kernel_rfl))
  f334 := Tryz.func79.trans (congrArg some (by kernel_rfl))
  f335 := Tryz.func80.trans (congrArg some (by kernel_rfl))
  f336 := Tryz.func81.trans (congrArg some (by kernel_rfl))
  f344 := Tryz.func95.trans (congrArg some (by kernel_rfl))
  t0 := Tryz.underlying0
  a0 := Tryz.isAgg0
  z0 := Tryz.sizeOf0
  v0 := Tryz.zeroValue0
  t3 := Tryz.underlying3
  a3 := Tryz.isAgg3
  z3 := Tryz.sizeOf3
  v3 := Tryz.zeroValue3
  t4 := Tryz.underlying4
  a4 := Tryz.isAgg4
  z4 := Tryz.sizeOf4
  v4 := Tryz.zeroValue4
  t5 := Tryz.underlying5
  a5 := Tryz.isAgg5
  z5 := Tryz.sizeOf5
  v5 := Tryz.zeroValue5
  t9 := Tryz.underlying9
  a9 := Tryz.isAgg9
  z9 := Tryz.sizeOf9
  v9 := Tryz.zeroValue9
  t31 := Tryz.underlying40
  a31 := Tryz.isAgg40
  z31 := Tryz.sizeOf40
  v31 := Tryz.zeroValue40
  t46 := Tryz.underlying54
  a46 := Tryz.isAgg54
  z46 := Tryz.sizeOf54
  v46 := Tryz.zeroValue54
  t51 := Tryz.underlying84
  a51 := Tryz.isAgg84
  z51 := Tryz.sizeOf84
  v51 := Tryz.zeroValue84
  t53 := Tryz.underlying86
  a53 := Tryz.isAgg86
  z53 := Tryz.sizeOf86
  v53 := Tryz.zeroValue86
  t131 := Tryz.underlying81
  a131 := Tryz.isAgg81
  z131 := Tryz.sizeOf81
  v131 := Tryz.zeroValue81
  t182 := Tryz.underlying76
  a182 := Tryz.isAgg76
  z182 := Tryz.sizeOf76
  v182 := Tryz.zeroValue76
  t183 := Tryz.underlying77
  a183 := Tryz.isAgg77
  z183 := Tryz.sizeOf77
  v183 := Tryz.zeroValue77
  t218 := Tryz.underlying101
  a218 := Tryz.isAgg101
  z218 := Tryz.sizeOf101
  v218 := Tryz.zeroValue101
  t222 := Tryz.underlying105
  a222 := Tryz.isAgg105
  z222 := Tryz.sizeOf105
  v222 := Tryz.zeroValue105
  t228 := Tryz.underlying117
  a228 := Tryz.isAgg117
  z228 := Tryz.sizeOf117
  v228 := Tryz.zeroValue117
  t229 := Tryz.underlying118
  a229 := Tryz.isAgg118
  z229 := Tryz.sizeOf118
  v229 := Tryz.zeroValue118 }
end Go.Proofs.YtoblpjknnchlmaaGreatDoor

/- Texts, rising, each once, by the document's own answer. -/
namespace Go.Proofs.YtoblpjknnchlmaaGreatDoor
open Go.RowKit Go.Shelf Go.Sort

set_option maxHeartbeats 1000000 in
theorem sortS_own (w : World) (B : Nat) (v : Value) (xs : List ByteArray) (h : OwnS w B v xs) (hl : xs.length ≤ 1000000) :
    Calls Tryz.prog 46 #[v] w fun e w' => e = .returned (.tuple #[]) ∧ OwnS w' B v ((sortL (tx xs)).map bs) ∧ w.grownBy w' v.ownBlock := by
  have henc := h.enc
  have hlen : (tx xs).length = xs.length := by unfold tx; simp
  rcases henc.2 with ⟨rfl, h0⟩ | ⟨g, cap, cur, rfl, hbase, hb, h1, h2, h3, h4⟩
  · obtain rfl : xs = [] := List.eq_nil_of_length_eq_zero h0
    refine (Any.sort_Strings_none lays192 none 0 w).mono ?_
    rintro e w' ⟨rfl, rfl⟩
    refine ⟨rfl, ?_, ⟨rfl, rfl, rfl, Nat.le_refl _, fun _ _ _ => rfl⟩⟩
    have : sortL (tx []) = [] := by unfold tx sortL; simp
    rw [this]
    exact h
  · have hH : Holds Proofs.encStr w g 0 (tx xs).toArray := holds_of_block hb (by rw [hlen]; rw [Nat.mul_one] at h4; exact h4)
    have hs := Any.sort_Strings lays192 g 0 cap (tx xs) w hH (Array.getElem?_eq_some_iff.1 hb).1 (by rw [hlen]; omega)
    rw [hlen] at hs
    refine hs.mono ?_
    rintro e w' ⟨rfl, n, os, rfl⟩
    refine ⟨rfl, ?_, grownBy_sorted _⟩
    have ho := ownsRow_sorted (n := n) (os := os) (ss := tx xs) (ts := sortL (tx xs)) (sortL_len _) hbase hb (by rw [hlen]; exact h1) h2 h3
    rw [enc_bs, hlen] at ho
    unfold OwnS
    rw [List.length_map, sortL_len, hlen]
    exact ho
/-- What is kept of the first k of these. -/
def keptK (ss : List (List UInt8)) (k : Nat) : List ByteArray := (Lib.compactUpTo ss.toArray k).map bs
theorem kept_all (ss : List (List UInt8)) : keptK ss ss.length = (Lib.compact ss).map bs := rfl
theorem kept_first (ss : List (List UInt8)) (x : List UInt8) (h : ss[0]? = some x) : keptK ss 1 = keptK ss 0 ++ [bs x] := by
  unfold keptK
  rw [Lib.compactUpTo_succ, if_pos (by simp [Lib.keeps])]
  obtain ⟨h1, e⟩ := List.getElem?_eq_some_iff.1 h
  simp [getElem!_pos, h1, e]
theorem kept_next (ss : List (List UInt8)) (j : Nat) (x y : List UInt8) (hx : ss[j + 1]? = some x) (hy : ss[j]? = some y) (hne : x ≠ y) : keptK ss (j + 2) = keptK ss (j + 1) ++ [bs x] := by
  unfold keptK
  obtain ⟨h1, e1⟩ := List.getElem?_eq_some_iff.1 hx
  obtain ⟨h2, e2⟩ := List.getElem?_eq_some_iff.1 hy
  have a1 : ss.toArray[j + 1]! = x := by simp [getElem!_pos, h1, e1]
  have a2 : ss.toArray[j]! = y := by simp [getElem!_pos, h2, e2]
  rw [Lib.compactUpTo_succ, if_pos (by unfold Lib.keeps; exact decide_eq_true (.inr (by rw [Nat.add_sub_cancel, a1, a2]; exact hne))), a1]
  simp
theorem kept_same (ss : List (List UInt8)) (j : Nat) (x : List UInt8) (hx : ss[j + 1]? = some x) (hy : ss[j]? = some x) : keptK ss (j + 2) = keptK ss (j + 1) := by
  unfold keptK
  obtain ⟨h1, e1⟩ := List.getElem?_eq_some_iff.1 hx
  obtain ⟨h2, e2⟩ := List.getElem?_eq_some_iff.1 hy
  have a1 : ss.toArray[j + 1]! = x := by simp [getElem!_pos, h1, e1]
  have a2 : ss.toArray[j]! = x := by simp [getElem!_pos, h2, e2]
  rw [Lib.compactUpTo_succ, if_neg (by unfold Lib.keeps; rw [Nat.add_sub_cancel, a1, a2]; simp)]
  simp
theorem kept_le (ss : List (List UInt8)) (k : Nat) : (keptK ss k).length ≤ k := by
  unfold keptK Lib.compactUpTo
  rw [List.length_map, List.length_map]
  refine Nat.le_trans (List.length_filter_le _ _) ?_
  rw [List.length_range]
  exact Nat.le_refl _
theorem bs_ne {x y : List UInt8} (h : x ≠ y) : ((bs x).toList == (bs y).toList) = false := by
  rw [beq_eq_false_iff_ne, ByteArray.toList_eq, ByteArray.toList_eq, bs_data, bs_data]
  exact h
set_option maxRecDepth 100000 in
set_option maxHeartbeats 8000000 in
theorem sortedR_any (B : Nat) (v : Value) (xs : List ByteArray) (hl : xs.length ≤ 1000) (w : World) (hB : B ≤ w.heap.size) (h : OwnS w B v xs) :
    Calls Tryz.prog 26 #[v] w fun e w' => (∃ v', e = .returned v' ∧ OwnS w' B v' ((Lib.compact (sortL (tx xs))).map bs)) ∧ Below B w w' := by
  have HO : Hid (OwnS w B v xs) := h
  clear h
  go_enter Tryz.func26, Tryz.ntmps26
  go_wp2_with fail
  refine (sortS_own _ B v xs HO.out (by omega)).mono ?_
  rintro e w1 ⟨rfl, hown, hg⟩
  obtain ⟨ss, HSS⟩ : ∃ ss, Hid (sortL (tx xs) = ss) := ⟨_, rfl⟩
  rw [HSS.out] at hown
  have hsl : ss.length = xs.length := by rw [← HSS.out, sortL_len]; unfold tx; simp
  have HB1 : Hid (Below B w w1) := (Below.refl B w).grown hg hB (fun j hj => (HO.out.lt j hj).1)
  obtain ⟨n, HN⟩ : ∃ n, Hid (ss.length = n) := ⟨_, rfl⟩
  obtain ⟨a, cap, rfl⟩ : ∃ a cap, v = .slice a n cap := by
    obtain ⟨a, cap, _, e, _⟩ := hown.strs
    rw [List.length_map, HN.out] at e
    exact ⟨a, cap, e⟩
  have HW1 : Hid (OwnS w1 B (.slice a n cap) (ss.map bs)) := hown
  have hn : n ≤ 1000 := by rw [← HN.out, hsl]; exact hl
  clear hown hg hsl hl
  go_wp2
  go_loopw [3, 10] (fun s3 i wr => ∃ (k : Nat) (u : Value), k ≤ n ∧ u = s3 ∧ i = .int .i64 k ∧ Hid (Two wr B u (.slice a n cap) (keptK ss k) (ss.map bs) ∧ Below B w wr)) (fun _ i _ => n - (intOf i).toNat)
  case atStart => exact ⟨0, _, Nat.zero_le _, rfl, rfl, ⟨ownS_nil _ _, HW1.out, fun k hk => by cases hk⟩, HB1.out⟩
  case round =>
    obtain ⟨k, u, hk, rfl, rfl, HI⟩ := hrel
    by_cases hlt : k < n
    · have hltz : (k : Int) < (n : Int) := by omega
      obtain ⟨ad, cap', g, hv, hst⟩ := HI.out.1.two.strs
      rw [List.length_map, HN.out] at hv hst
      injection hv with hv1 _ hv3
      subst hv1 hv3
      obtain ⟨ha, _⟩ := hst.lies (by omega)
      subst ha
      have hcell : ∀ j x, ss[j]? = some x → wr.cell? ⟨g, j, none⟩ = some (.string (bs x)) := fun j x hj => by
        have := hst.cells j (bs x) (by rw [List.getElem?_map, hj]; rfl)
        rw [Nat.zero_add] at this
        exact this
      obtain ⟨x, hx⟩ : ∃ x, ss[k]? = some x := ⟨ss[k]'(by have := HN.out; omega), List.getElem?_eq_getElem _⟩
      have c1 := hcell k x hx
      have HX : Hid (ss[k]? = some x) := hx
      obtain ⟨X, HXX⟩ : ∃ X, Hid (bs x = X) := ⟨_, rfl⟩
      rw [HXX.out] at c1
      obtain ⟨nu, HNU⟩ : ∃ m, Hid ((keptK ss k).length = m) := ⟨_, rfl⟩
      have hnu : nu ≤ k := by rw [← HNU.out]; exact kept_le ss k
      cases k with
      | zero =>
        have HK : Hid (keptK ss (0 + 1) = keptK ss 0 ++ [X]) := by rw [← HXX.out]; exact kept_first ss x HX.out
        clear hst hcell hx
        go_wp2_with (at_builtin; refine wp_app2 rfl _ _ rfl B wr u (.slice (some ⟨g, 0, none⟩) n cap) _ _ nu rfl HI.out.1 HNU.out (by omega) (Nat.le_trans hB HI.out.2.size) X rfl ?_; intro g4 cap4 w4 hown4 hb4 hk4; have HW4 : Hid (Two w4 B (.slice (some ⟨g4, 0, none⟩) (nu + 1) cap4) (.slice (some ⟨g, 0, none⟩) n cap) (keptK ss 0 ++ [X]) (ss.map bs) ∧ Below B w w4) := ⟨hown4, HI.out.2.trans hb4⟩; clear hown4 hb4 hk4)
        go_roundw
        case rel => exact ⟨0 + 1, _, by omega, rfl, by go_num, by rw [HK.out]; exact HW4⟩
        case measure => simp [intOf]; omega
      | succ j =>
        obtain ⟨y, hy⟩ : ∃ y, ss[j]? = some y := ⟨ss[j]'(by have := HN.out; omega), List.getElem?_eq_getElem _⟩
        have c2 := hcell j y hy
        have HY : Hid (ss[j]? = some y) := hy
        obtain ⟨Y, HYY⟩ : ∃ Y, Hid (bs y = Y) := ⟨_, rfl⟩
        rw [HYY.out] at c2
        clear hst hcell hx hy
        by_cases hxy : x = y
        · have HK : Hid (keptK ss (j + 2) = keptK ss (j + 1)) := kept_same ss j x HX.out (by rw [hxy]; exact HY.out)
          obtain rfl : X = Y := by rw [← HXX.out, ← HYY.out, hxy]
          go_wp2
          go_roundw
          case rel => exact ⟨j + 1 + 1, _, by omega, rfl, by go_num, by rw [HK.out]; exact HI⟩
          case measure => simp [intOf]; omega
        · have HK : Hid (keptK ss (j + 2) = keptK ss (j + 1) ++ [X]) := by rw [← HXX.out]; exact kept_next ss j x y HX.out HY.out hxy
          have hne : (X.toList == Y.toList) = false := by rw [← HXX.out, ← HYY.out]; exact bs_ne hxy
          go_wp2_with (at_builtin; refine wp_app2 rfl _ _ rfl B wr u (.slice (some ⟨g, 0, none⟩) n cap) _ _ nu rfl HI.out.1 HNU.out (by omega) (Nat.le_trans hB HI.out.2.size) X rfl ?_; intro g4 cap4 w4 hown4 hb4 hk4; have HW4 : Hid (Two w4 B (.slice (some ⟨g4, 0, none⟩) (nu + 1) cap4) (.slice (some ⟨g, 0, none⟩) n cap) (keptK ss (j + 1) ++ [X]) (ss.map bs) ∧ Below B w w4) := ⟨hown4, HI.out.2.trans hb4⟩; clear hown4 hb4 hk4)
          go_roundw
          case rel => exact ⟨j + 1 + 1, _, by omega, rfl, by go_num, by rw [HK.out]; exact HW4⟩
          case measure => simp [intOf]; omega
    · have hltz : ¬ (k : Int) < (n : Int) := by omega
      obtain rfl : k = n := by omega
      go_wp2
      go_ret
      refine ⟨⟨_, rfl, ?_⟩, HI.out.2⟩
      rw [HSS.out, ← kept_all, HN.out]
      exact HI.out.1.one
end Go.Proofs.YtoblpjknnchlmaaGreatDoor

/- The library's contracts that are leant on, laid at this program's numbers. -/
namespace Go.Proofs.YtoblpjknnchlmaaGreatDoor
open Go.Shelf Go.RowKit
def lays146_ren : Go.Shelf.Ren := ⟨fun | 146 => 45 | 221 => 74 | 268 => 91 | 138 => 92 | 143 => 93 | 195 => 101 | 197 => 61 | 218 => 102 | 219 => 94 | 260 => 84 | 217 => 66 | 225 => 103 | 224 => 104 | 267 => 105 | 266 => 87 | 314 => 107 | n => n, fun | 9 => 9 | 31 => 40 | 3 => 3 | 4 => 4 | 0 => 0 | 105 => 87 | 21 => 21 | 5 => 5 | 46 => 54 | 119 => 120 | 139 => 123 | 138 => 122 | 146 => 135 | 51 => 84 | n => n, fun | 1 => 2 | 3 => 3 | 4 => 4 | n => n⟩
theorem lays146 : Go.Proofs.Lays.n146 Tryz.prog lays146_ren := {
  mixed := by kernel_rfl
  f138 := Tryz.func92.trans (congrArg some (by kernel_rfl))
  f143 := Tryz.func93.trans (congrArg some (by kernel_rfl))
  f146 := Tryz.func45.trans (congrArg some (by kernel_rfl))
  f195 := Tryz.func101.trans (congrArg some (by kernel_rfl))
  f197 := Tryz.func61.trans (congrArg some (by kernel_rfl))
  f217 := Tryz.func66.trans (congrArg some (by kernel_rfl))
  f218 := Tryz.func102.trans (congrArg some (by kernel_rfl))
  f219 := Tryz.func94.trans (congrArg some (by kernel_rfl))
  f221 := Tryz.func74.trans (congrArg some (by kernel_rfl))
  f224 := Tryz.func104.trans (congrArg some (by kernel_rfl))
  f225 := Tryz.func103.trans (congrArg some (by kernel_rfl))
  f260 := Tryz.func84.trans (congrArg some (by kernel_rfl))
  f266 := Tryz.func87.trans (congrArg some (by kernel_rfl))
  f267 := Tryz.func105.trans (congrArg some (by kernel_rfl))
  f268 := Tryz.func91.trans (congrArg some (by kernel_rfl))
  f314 := Tryz.func107.trans (congrArg some (by kernel_rfl))
  t0 := Tryz.underlying0
  a0 := Tryz.isAgg0
  z0 := Tryz.sizeOf0
  v0 := Tryz.zeroValue0
  t3 := Tryz.underlying3
  a3 := Tryz.isAgg3
  z3 := Tryz.sizeOf3
  v3 := Tryz.zeroValue3
  t4 := Tryz.underlying4
  a4 := Tryz.isAgg4
  z4 := Tryz.sizeOf4
  v4 := Tryz.zeroValue4
  t5 := Tryz.underlying5
  a5 := Tryz.isAgg5
  z5 := Tryz.sizeOf5
  v5 := Tryz.zeroValue5
  t9 := Tryz.underlying9
  a9 := Tryz.isAgg9
  z9 := Tryz.sizeOf9
  v9 := Tryz.zeroValue9
  t21 := Tryz.underlying21
  a21 := Tryz.isAgg21
  z21 := Tryz.sizeOf21
  v21 := Tryz.zeroValue21
  t31 := Tryz.underlying40
  a31 := Tryz.isAgg40
  z31 := Tryz.sizeOf40
  v31 := Tryz.zeroValue40
  t46 := Tryz.underlying54
  a46 := Tryz.isAgg54
  z46 := Tryz.sizeOf54
  v46 := Tryz.zeroValue54
  t51 := Tryz.underlying84
  a51 := Tryz.isAgg84
  z51 := Tryz.sizeOf84
  v51 := Tryz.zeroValue84
  t105 := Tryz.underlying87
  a105 := Tryz.isAgg87
  z105 := Tryz.sizeOf87
  v105 := Tryz.zeroValue87
  t119 := Tryz.underlying120
  a119 := Tryz.isAgg120
  z119 := Tryz.sizeOf120
  t138 := Tryz.underlying122
  a138 := Tryz.isAgg122
  z138 := Tryz.sizeOf122
  v138 := Tryz.zeroValue122
  t139 := Tryz.underlying123
  a139 := Tryz.isAgg123
  z139 := Tryz.sizeOf123
  v139 := Tryz.zeroValue123
  t146 := Tryz.underlying135
  a146 := Tryz.isAgg135
  z146 := Tryz.sizeOf135
  v146 := Tryz.zeroValue135
  g1 := by kernel_rfl
  g3 := by kernel_rfl
  g4 := by kernel_rfl }
end Go.Proofs.YtoblpjknnchlmaaGreatDoor

/- strings.Split at one byte, without a word on internal/bytealg.MaxLen. -/
namespace Go.Proofs.YtoblpjknnchlmaaGreatDoor
open Go.RowKit Go.Shelf

theorem indexB_ix (s : ByteArray) (c : UInt8) : Lib.indexB s ⟨#[c]⟩ = ixOf s.data.toList c := Lib.index_one s.data.toList c
theorem countB_ct (s : ByteArray) (c : UInt8) : Lib.countB s ⟨#[c]⟩ = s.data.toList.count c := Lib.count_one c s.data.toList
theorem splitB_list (c : UInt8) : ∀ (k : Nat) (s : ByteArray), s.data.toList.count c ≤ k → (Lib.splitB ⟨#[c]⟩ 0 k s).map (·.data.toList) = splitL c s.data.toList
  | k, s, hk => by
    rcases ixOf_first s.data.toList c with ⟨hi, hno⟩ | ⟨n, hn, hi, hno, hsp⟩
    · rw [Lib.splitB_miss _ _ _ _ ((indexB_ix s c).trans hi), splitL_part c _ hno]
      rfl
    · have hc : s.data.toList.count c = (s.data.toList.drop (n + 1)).count c + 1 := by
        conv => lhs; rw [hsp]
        rw [List.count_append, List.count_eq_zero.2 hno, List.count_cons_self]
        omega
      cases k with
      | zero => omega
      | succ k =>
        have hl : s.data.toList.length = s.size := Array.length_toList
        have e1 : (s.extract (n + (⟨#[c]⟩ : ByteArray).size) s.size).data.toList = s.data.toList.drop (n + 1) := by
          rw [ByteArray.data_extract, Array.toList_extract, List.extract_eq_take_drop]
          show List.take (s.size - (n + 1)) (List.drop (n + 1) s.data.toList) = _
          rw [List.take_of_length_le (by rw [List.length_drop]; omega)]
        have e0 : (s.extract 0 (n + 0)).data.toList = s.data.toList.take n := by
          rw [ByteArray.data_extract, Array.toList_extract, List.extract_eq_take_drop]
          simp
        rw [Lib.splitB_hit _ _ _ _ n ((indexB_ix s c).trans hi), List.map_cons, splitB_list c k _ (by rw [e1]; omega), e1, e0]
        conv => rhs; rw [hsp]
        rw [splitL_more c _ _ hno]

set_option maxHeartbeats 1000000 in
theorem split_one (s : ByteArray) (c : UInt8) (hs : s.size ≤ 20000) (w : World) :
    Calls Tryz.prog 45 #[.string s, .string ⟨#[c]⟩] w fun e w' => ∃ ps : List ByteArray, e = .returned (.slice (some ⟨w.heap.size, 0, none⟩) ps.length ps.length) ∧ ps.length ≤ s.size + 1 ∧ w' = w.alloc (.cells (ps.map Value.string).toArray 9) ∧ Hid (ps.map (·.data.toList) = splitL c s.data.toList) := by
  have h1 : 1 ≤ (⟨#[c]⟩ : ByteArray).size := Nat.le_refl _
  have hle := Lib.countB_le ⟨#[c]⟩ h1 s.size s (Nat.le_refl _)
  have hlen := Lib.splitB_all ⟨#[c]⟩ h1 0 _ s rfl
  have HL : Hid ((Lib.splitB ⟨#[c]⟩ 0 (Lib.countB s ⟨#[c]⟩) s).map (·.data.toList) = splitL c s.data.toList) := splitB_list c _ s (Nat.le_of_eq (countB_ct s c).symm)
  have hI : ∀ (x : ByteArray) (a : Array Value), x.size ≤ s.size → Calls Tryz.prog (lays146_ren.f 143) #[.string x, .string ⟨#[c]⟩] (w.alloc (.cells a (lays146_ren.t 9))) fun e w' => e = .returned (.int .i64 (Lib.indexB x ⟨#[c]⟩)) ∧ w' = w.alloc (.cells a (lays146_ren.t 9)) := fun x a _ => by
    rw [indexB_ix]
    exact Any.strings_Index_one { lays146 with } x c _
  have hC : Calls Tryz.prog (lays146_ren.f 138) #[.string s, .string ⟨#[c]⟩] w fun e w' => e = .returned (.int .i64 (Lib.countB s ⟨#[c]⟩)) ∧ w' = w := by
    rw [countB_ct]
    exact Any.strings_Count_one { lays146 with } s c w
  have g := Any.strings_genSplit_core { lays146 with } (by kernel_rfl) s ⟨#[c]⟩ 0 (-1) (Lib.countB s ⟨#[c]⟩ + 1) w (by omega) h1 (Nat.zero_le _) hI hC (by decide) (by decide) (by rw [if_pos (by decide)]; omega)
  rw [Nat.add_sub_cancel] at g
  have e2 : Lib.cellsOf (Lib.splitB ⟨#[c]⟩ 0 (Lib.countB s ⟨#[c]⟩) s) (Lib.countB s ⟨#[c]⟩ + 1) = ((Lib.splitB ⟨#[c]⟩ 0 (Lib.countB s ⟨#[c]⟩) s).map Value.string).toArray := by rw [← hlen]; exact Lib.cellsOf_full _
  rw [e2, ← hlen] at g
  have hl2 : (Lib.splitB ⟨#[c]⟩ 0 (Lib.countB s ⟨#[c]⟩) s).length ≤ s.size + 1 := by omega
  clear e2 hI hC hle hlen
  generalize Lib.splitB ⟨#[c]⟩ 0 (Lib.countB s ⟨#[c]⟩) s = ps at g HL hl2
  have g2 : Calls Tryz.prog 74 #[.string s, .string ⟨#[c]⟩, .int .i64 0, .int .i64 (-1)] w fun e w' => e = .returned (.slice (some ⟨w.heap.size, 0, none⟩) ps.length ps.length) ∧ w' = w.alloc (.cells (ps.map Value.string).toArray 9) := g
  clear g
  go_enter Tryz.func45, Tryz.ntmps45
  go_wp2_with (go_at_call 74; refine g2.mono ?_; rintro e w' ⟨rfl, hw⟩; rw [hw])
  go_ret
  exact ⟨ps, rfl, hl2, rfl, HL⟩

end Go.Proofs.YtoblpjknnchlmaaGreatDoor

/- Whether a header may be sent without asking, by the document. -/
namespace Go.Proofs.YtoblpjknnchlmaaGreatDoor
open Go.RowKit Go.Shelf
theorem cellsP8 (W : World) (cs : Array Value) (t : TypeId) (j : Nat) : (W.alloc (.cells cs t)).cell? ⟨W.heap.size, j, none⟩ = cs[j]? := World.cell?_alloc_mark _ _ _ _ _

theorem refText8_any (c : UInt8) (w : World) : Calls Tryz.prog 42 #[.int .u8 (c.toNat : Int)] w fun e w' => e = .returned (.bool (textB c)) ∧ w' = w := by
  have hcl : (c.toNat : Int) < 256 := by have := c.toNat_lt; omega
  have HT : Hid (textB c = (((c.toNat : Int) == 9) || (decide (32 ≤ (c.toNat : Int)) && !((c.toNat : Int) == 127)))) := textB_of c
  by_cases h : (c.toNat : Int) = 9
  · go_enter Tryz.func42, Tryz.ntmps42
    go_wp2
    go_ret
    exact ⟨ret_bool (by rw [HT.out, h]; rfl), rfl⟩
  · by_cases h2 : (31 : Int) < (c.toNat : Int)
    · by_cases h3 : (c.toNat : Int) = 127
      · go_enter Tryz.func42, Tryz.ntmps42
        go_wp2
        go_ret
        exact ⟨ret_bool (by rw [HT.out, h3]; rfl), rfl⟩
      · go_enter Tryz.func42, Tryz.ntmps42
        go_wp2
        go_ret
        exact ⟨ret_bool (by rw [HT.out, beq_eq_false_iff_ne.2 h, beq_eq_false_iff_ne.2 h3, decide_eq_true (show 32 ≤ (c.toNat : Int) by omega), bne_iff_ne.2 h3]; simp), rfl⟩
    · go_enter Tryz.func42, Tryz.ntmps42
      go_wp2
      go_ret
      exact ⟨ret_bool (by rw [HT.out, beq_eq_false_iff_ne.2 h, decide_eq_false (show ¬ 32 ≤ (c.toNat : Int) by omega)]; rfl), rfl⟩
theorem head_split (c : UInt8) : ∀ l, (splitL c l).head? = some (cutL c l).1
  | [] => by simp [splitL, cutL]
  | b :: t => by
    have ih := head_split c t
    unfold splitL cutL
    by_cases h : b = c
    · rw [if_pos h, if_pos h]; rfl
    · rw [if_neg h, if_neg h]
      split
      · rename_i e; rw [e] at ih; cases ih
      · rename_i p r e
        rw [e] at ih
        injection ih with ih
        rw [← ih]; rfl
theorem all_snocB (f : UInt8 → Bool) (s : ByteArray) (k : Nat) (hk : k < s.size) (c : UInt8) (e : s[k] = c) (b : Bool) (h : (s.data.toList.take k).all f = b) : (s.data.toList.take (k + 1)).all f = (b && f c) := by
  rw [take_snoc s k hk, List.all_append, h, e]
  simp
/-- A header's answer, whatever else is told of it. -/
def refPlainN (x v : List UInt8) (sb tb : Bool) : Bool := if x == nmA then sb else if x == nmL then tb else if x == nmC then tb else if x == nmT then sb && formL v else false
theorem refPlainN_is (x v : List UInt8) : refPlainN x v (v.all safeB) (v.all tongB) = plainN x v := rfl
set_option maxRecDepth 100000 in
set_option maxHeartbeats 8000000 in
theorem refPlain_any (n v : ByteArray) (hn : n.size ≤ 4000) (hv : v.size ≤ 140737488355328) (w : World) :
    Calls Tryz.prog 25 #[.agg #[.string n, .string v]] w fun e w' => e = .returned (.bool (plainL n.data.toList v.data.toList)) ∧ Below w.heap.size w w' := by
  have hlv : v.data.toList.length = v.size := Array.length_toList
  have hb0 : Below w.heap.size w (w.alloc (.cells #[.string n, .string v] 33)) := (Below.refl _ _).alloc (Nat.le_refl _) _
  by_cases hl : v.size ≤ 128
  · have hlz : ¬ (128 : Int) < (v.size : Int) := by omega
    obtain ⟨x, HX⟩ : ∃ x : ByteArray, Hid (bs (n.data.toList.map low) = x) := ⟨_, rfl⟩
    have HP : Hid (plainL n.data.toList v.data.toList = plainN x.toList v.data.toList) := by
      show _ = _
      unfold plainL
      rw [hlv, decide_eq_true hl, Bool.true_and, ByteArray.toList_eq, ← HX.out, bs_data]
    have HN : Hid (∀ w', Below (w.alloc (.cells #[.string n, .string v] 33)).heap.size (w.alloc (.cells #[.string n, .string v] 33)) w' → Below w.heap.size w w' ∧ w'.heap[w.heap.size]? = some (.cells #[.string n, .string v] 33 (0, 0))) := fun w' hb => ⟨hb0.trans (hb.mono (by simp)), (hb.block _ (by simp)).trans (heap_alloc_new w _)⟩
    clear hb0 hlv
    go_enter Tryz.func25, Tryz.ntmps25
    go_wp2
    generalize hW0 : w.alloc (.cells #[.string n, .string v] 33) = W0 at HN ⊢
    clear hW0
    obtain ⟨x0, x1, _⟩ := two_at (HN.out W0 (Below.refl _ _)).2
    go_loop [3, 4, 16] (fun s3 s4 i => ∃ (k : Nat) (sb tb : Bool), k ≤ v.size ∧ i = .int .i64 k ∧ s3 = .bool sb ∧ s4 = .bool tb ∧ Hid ((v.data.toList.take k).all safeB = sb ∧ (v.data.toList.take k).all tongB = tb)) (fun _ _ i => v.size - (intOf i).toNat)
    case atStart => exact ⟨0, true, true, Nat.zero_le _, rfl, rfl, rfl, rfl, rfl⟩
    case round =>
      obtain ⟨k, sb, tb, hk, rfl, rfl, rfl, HK⟩ := hrel
      by_cases hlt : k < v.size
      · obtain ⟨c, hcd⟩ : ∃ c : UInt8, v[k] = c := ⟨_, rfl⟩
        have hcl : (c.toNat : Int) < 256 := by have := c.toNat_lt; omega
        have HS : Hid ((v.data.toList.take (k + 1)).all safeB = (sb && (textB c && !forbS.contains c))) := all_snocB safeB v k hlt c hcd sb HK.out.1
        obtain ⟨d1, D1⟩ : ∃ d : Bool, Hid (decide (48 ≤ (c.toNat : Int) ∧ (c.toNat : Int) ≤ 57) = d) := ⟨_, rfl⟩
        obtain ⟨d2, D2⟩ : ∃ d : Bool, Hid (decide (97 ≤ (c.toNat : Int) ∧ (c.toNat : Int) ≤ 122) = d) := ⟨_, rfl⟩
        obtain ⟨d3, D3⟩ : ∃ d : Bool, Hid (decide (65 ≤ (c.toNat : Int) ∧ (c.toNat : Int) ≤ 90) = d) := ⟨_, rfl⟩
        have HT : Hid ((v.data.toList.take (k + 1)).all tongB = (tb && ((d2 || (d3 || d1)) || tongS.contains c))) := by
          show _ = _
          rw [all_snocB tongB v k hlt c hcd tb HK.out.2, ← D1.out, ← D2.out, ← D3.out]
          unfold tongB alnB
          simp only [← Int.ofNat_le]
          rfl
        obtain ⟨f, HF⟩ : ∃ f : Bool, Hid (textB c = f) := ⟨_, rfl⟩
        rw [HF.out] at HS
        clear HK
        go_upto_region 9 with fail
        go_cut [3] (fun s3 wc => ∃ b : Bool, s3 = .bool b ∧ Hid ((v.data.toList.take (k + 1)).all safeB = b) ∧ wc = W0)
        case first =>
          cases sb
          · go_wp2
            go_meet
            exact ⟨false, rfl, by rw [HS.out]; rfl, rfl⟩
          · cases f
            · go_wp2_with (go_at_call 42; refine (refText8_any c _).mono ?_; rintro e w' ⟨rfl, hw⟩; obtain rfl := hw.symm; rw [HF.out])
              go_meet
              exact ⟨false, rfl, by rw [HS.out]; rfl, rfl⟩
            · go_wp2_with (first | (go_at_call 42; refine (refText8_any c _).mono ?_; rintro e w' ⟨rfl, hw⟩; obtain rfl := hw.symm; rw [HF.out]) | (go_at_call 43; refine (ix_forbS c _).mono ?_; rintro e w' ⟨⟨x1, rfl, HX1⟩, hw⟩; obtain rfl := hw.symm))
              go_meet
              exact ⟨_, rfl, by show _ = _; rw [HS.out, HX1.out]; simp, rfl⟩
        case rest =>
        obtain ⟨sb', rfl, HS', hw⟩ := hcut
        obtain rfl := hw.symm
        clear hw
        cases tb
        · go_wp2
          go_round
          case rel => exact ⟨k + 1, sb', false, by omega, by go_num, rfl, rfl, HS'.out, by rw [HT.out]; rfl⟩
          case measure => simp [intOf]; omega
        go_wp2_with fail
        refine (within_any _ 48 57 _).mono ?_
        rintro e w' ⟨rfl, hw⟩
        obtain rfl := hw.symm
        rw [D1.out]
        cases d1
        rotate_left
        · go_wp2
          go_round
          case rel => exact ⟨k + 1, sb', true, by omega, by go_num, rfl, rfl, HS'.out, by rw [HT.out]; simp⟩
          case measure => simp [intOf]; omega
        go_wp2_with fail
        refine (within_any _ 97 122 _).mono ?_
        rintro e w' ⟨rfl, hw⟩
        obtain rfl := hw.symm
        rw [D2.out]
        cases d2
        rotate_left
        · go_wp2
          go_round
          case rel => exact ⟨k + 1, sb', true, by omega, by go_num, rfl, rfl, HS'.out, by rw [HT.out]; simp⟩
          case measure => simp [intOf]; omega
        go_wp2_with fail
        refine (within_any _ 65 90 _).mono ?_
        rintro e w' ⟨rfl, hw⟩
        obtain rfl := hw.symm
        rw [D3.out]
        cases d3
        rotate_left
        · go_wp2
          go_round
          case rel => exact ⟨k + 1, sb', true, by omega, by go_num, rfl, rfl, HS'.out, by rw [HT.out]; simp⟩
          case measure => simp [intOf]; omega
        go_wp2_with fail
        refine (ix_tongS c _).mono ?_
        rintro e w' ⟨⟨y1, rfl, HX2⟩, hw⟩
        obtain rfl := hw.symm
        go_wp2
        go_round
        case rel => exact ⟨k + 1, sb', _, by omega, by go_num, rfl, rfl, HS'.out, by rw [HT.out, HX2.out]; simp⟩
        case measure => simp [intOf]; omega
      · obtain rfl : k = v.size := by omega
        have HE : Hid (v.data.toList.all safeB = sb ∧ v.data.toList.all tongB = tb) := by
          have h := HK.out
          rw [List.take_of_length_le (by simp)] at h
          exact h
        have HQ : Hid (plainL n.data.toList v.data.toList = refPlainN x.toList v.data.toList sb tb) := by
          show _ = _
          rw [HP.out, ← refPlainN_is, HE.out.1, HE.out.2]
        have hsz : v.size ≤ 5000 := by omega
        clear HK HE HP
        go_wp2_with fail
        refine (refLower_any n _ (by omega)).mono ?_
        rintro e w1 ⟨rfl, hb1⟩
        have HB1 := HN.out _ hb1
        have HB : Hid (Below w.heap.size w w1) := HB1.1
        clear x0 x1
        obtain ⟨x0, x1, _⟩ := two_at HB1.2
        rw [HX.out]
        clear hb1 HB1
        unfold refPlainN nmA nmL nmC nmT at HQ
        cases a1 : (x.toList == [97, 99, 99, 101, 112, 116])
        rotate_left
        · go_wp2
          go_ret
          exact ⟨ret_bool (by rw [HQ.out, a1]; rfl), HB.out⟩
        cases a2 : (x.toList == [97, 99, 99, 101, 112, 116, 45, 108, 97, 110, 103, 117, 97, 103, 101])
        rotate_left
        · go_wp2
          go_ret
          exact ⟨ret_bool (by rw [HQ.out, a1, a2]; rfl), HB.out⟩
        cases a3 : (x.toList == [99, 111, 110, 116, 101, 110, 116, 45, 108, 97, 110, 103, 117, 97, 103, 101])
        rotate_left
        · go_wp2
          go_ret
          exact ⟨ret_bool (by rw [HQ.out, a1, a2, a3]; rfl), HB.out⟩
        cases a4 : (x.toList == [99, 111, 110, 116, 101, 110, 116, 45, 116, 121, 112, 101])
        · go_wp2
          go_ret
          exact ⟨ret_bool (by rw [HQ.out, a1, a2, a3, a4]; rfl), HB.out⟩
        have HQ4 : Hid (plainL n.data.toList v.data.toList = (sb && formL v.data.toList)) := by
          show _ = _
          rw [HQ.out, a1, a2, a3, a4]; rfl
        clear HQ
        go_wp2_with fail
        refine (split_one v 59 (by omega) _).mono ?_
        rintro e w2 ⟨ps, rfl, hpl, hw2, HPS⟩
        have hh : (splitL 59 v.data.toList).head? = some (cutL 59 v.data.toList).1 := head_split 59 _
        obtain ⟨p, r, rfl⟩ : ∃ p r, ps = p :: r := by
          cases ps with
          | nil => rw [← HPS.out] at hh; cases hh
          | cons p r => exact ⟨p, r, rfl⟩
        have HC : Hid ((cutL 59 v.data.toList).1 = p.data.toList) := by
          rw [← HPS.out] at hh
          injection hh with hh
          exact hh.symm
        have hps : p.size ≤ 4000 := by
          have h1 : ∀ l : List UInt8, (cutL 59 l).1.length ≤ l.length := by
            intro l
            induction l with
            | nil => simp [cutL]
            | cons b t ih => unfold cutL; split <;> simp; omega
          have h2 := h1 v.data.toList
          rw [HC.out] at h2
          have e1 : p.data.toList.length = p.size := Array.length_toList
          have e2 : v.data.toList.length = v.size := Array.length_toList
          omega
        have hp0 : w2.cell? ⟨w1.heap.size, 0, none⟩ = some (.string p) := by
          rw [hw2]
          exact cellsP8 w1 _ 9 0
        have HB2 : Hid (Below w.heap.size w w2) := by
          show Below _ _ _
          rw [hw2]
          exact HB.out.alloc HB.out.size _
        have hp1 : 0 < (p :: r).length := by simp
        have hp2 : (0 : Int) < (((p :: r).length : Nat) : Int) := by omega
        clear hw2 HPS hh x0 x1
        generalize (p :: r).length = m at hpl hp1 hp2 ⊢
        go_wp2_with fail
        refine (trimBoth_any p (by omega) _).mono ?_
        rintro e w3 ⟨t, rfl, HTR, ht, hb3⟩
        have HB3 : Hid (Below w.heap.size w w3) := HB2.out.trans (hb3.mono HB2.out.size)
        clear hb3
        obtain ⟨y, HY⟩ : ∃ y : ByteArray, Hid (bs (t.data.toList.map low) = y) := ⟨_, rfl⟩
        have htz : t.size ≤ 4000 := by omega
        have HF : Hid (formL v.data.toList = (y.toList == formA || (y.toList == formB || y.toList == formC))) := by
          show _ = _
          have hk : kindL v.data.toList = y.toList := by
            unfold kindL
            rw [HC.out, ← HTR.out, ByteArray.toList_eq, ← HY.out, bs_data]
          unfold formL
          rw [hk]
        unfold formA formB formC at HF
        go_wp2_with fail
        refine (refLower_any t _ (by omega)).mono ?_
        rintro e w4 ⟨rfl, hb4⟩
        have HB4 : Hid (Below w.heap.size w w4) := HB3.out.trans (hb4.mono HB3.out.size)
        clear hb4
        rw [HY.out]
        cases sb
        · go_wp2
          go_ret
          exact ⟨ret_bool (by rw [HQ4.out]; rfl), HB4.out⟩
        · go_wp2
          all_goals
            go_ret
            exact ⟨ret_bool (by rw [HQ4.out, HF.out, Bool.true_and]; first | exact Bool.or_assoc _ _ _ | simp [*]), HB4.out⟩
  · have hlz : (128 : Int) < (v.size : Int) := by omega
    have HP : Hid (plainL n.data.toList v.data.toList = false) := by
      show _ = _
      unfold plainL
      rw [hlv, decide_eq_false hl, Bool.false_and]
    go_enter Tryz.func25, Tryz.ntmps25
    go_wp2
    go_ret
    exact ⟨ret_bool (by rw [HP.out]), hb0⟩
end Go.Proofs.YtoblpjknnchlmaaGreatDoor

/- Which headers must be asked for, by the document's own answer. -/
namespace Go.Proofs.YtoblpjknnchlmaaGreatDoor
open Go.RowKit Go.Shelf

/-- The names that the document asks for. -/
def refNames (ps : List Par) (big : Bool) : List ByteArray := (ps.filter fun p => big || !plain8 p).map lowN
theorem refNames_next (ps : List Par) (k : Nat) (p : Par) (big : Bool) (h : ps[k]? = some p) : refNames (ps.take (k + 1)) big = if (big || !plain8 p) = true then refNames (ps.take k) big ++ [lowN p] else refNames (ps.take k) big := by
  unfold refNames
  rw [take_next ps k p h, List.filter_append, List.map_append]
  cases h2 : (big || !plain8 p)
  · rw [List.filter_cons_of_neg (by simp [h2])]; simp
  · rw [List.filter_cons_of_pos (by simp [h2])]; simp
theorem refNames_le (ps : List Par) (big : Bool) : (refNames ps big).length ≤ ps.length := by
  unfold refNames
  rw [List.length_map]
  exact List.length_filter_le _ _
theorem names_perm (ps : List Par) : (tx (refNames ps (decide (1024 < together ps)))).Perm (tx (askedNames ps)) := by
  unfold tx
  apply List.Perm.map
  unfold askedNames refNames
  by_cases h : 1024 < together ps
  · rw [if_pos h, decide_eq_true h]
    unfold notPlain arePlain
    rw [← List.map_append]
    apply List.Perm.map
    have e : (ps.filter fun p => true || !plain8 p) = ps := by
      rw [List.filter_eq_self.2]
      intro a _
      simp
    rw [e]
    have := List.filter_append_perm (fun p => !plain8 p) ps
    simp only [Bool.not_not] at this
    exact this.symm
  · rw [if_neg h, decide_eq_false h]
    unfold notPlain
    simp only [Bool.false_or]
    exact List.Perm.refl _
theorem asked_ref (ps : List Par) : (Lib.compact (sortL (tx (refNames ps (decide (1024 < together ps)))))).map bs = askedL ps := by
  unfold askedL
  rw [sortL_of_perm (names_perm ps)]
theorem tog_next (ps : List Par) (k : Nat) (p : Par) (h : ps[k]? = some p) : together (ps.take (k + 1)) = if plain8 p = true then together (ps.take k) + p.2.size else together (ps.take k) := by
  cases hp : plain8 p
  · rw [if_neg (by simp)]; exact (notPlain_no ps k p h hp).2.2
  · rw [if_pos rfl]; exact (notPlain_yes ps k p h hp).2.2
set_option maxRecDepth 100000 in
set_option maxHeartbeats 8000000 in
theorem refAsked8_any (ps : List Par) (hps : Small8 ps) (a0 : Option Addr) (len cap b off : Nat) (hlen : len ≤ 60) (w : World) (hx : Pars w a0 len b off ps) :
    Calls Tryz.prog 15 #[.slice a0 len cap] w fun e w' => (∃ v, e = .returned v ∧ OwnS w' w.heap.size v (askedL ps)) ∧ Below w.heap.size w w' := by
  have HX : Hid (Pars w a0 len b off ps) := hx
  have HP : Hid (Small8 ps) := hps
  have HL : Hid (ps.length = len) := hx.len_eq
  clear hx hps
  go_enter Tryz.func15, Tryz.ntmps15
  go_wp2
  go_loopw [3, 11] (fun s3 i wr => ∃ (k tg : Nat), k ≤ len ∧ s3 = .int .i64 tg ∧ i = .int .i64 k ∧ tg ≤ 10000 ∧ Hid (tg = together (ps.take k)) ∧ Hid (Below w.heap.size w wr)) (fun _ i _ => len - (intOf i).toNat)
  case atStart => exact ⟨0, 0, Nat.zero_le _, rfl, rfl, by omega, rfl, Below.refl _ _⟩
  case round =>
    obtain ⟨k, tg, hk, rfl, rfl, htg, HT, HB⟩ := hrel
    by_cases hlt : k < len
    · have hltz : (k : Int) < (len : Int) := by omega
      obtain ⟨p, hp⟩ : ∃ p, ps[k]? = some p := ⟨ps[k]'(by have := HL.out; omega), List.getElem?_eq_getElem _⟩
      obtain ⟨pn, pv⟩ := p
      have HPK : Hid (ps[k]? = some (pn, pv)) := hp
      have hpz := HP.out _ (List.mem_of_getElem? hp)
      have hpz1 : pn.size ≤ 3000 := hpz.1
      have hpz2 : pv.size ≤ 3000 := hpz.2
      obtain ⟨ha0, _⟩ := HX.out.lies (by omega)
      subst ha0
      have hXr := HX.out.below HB.out
      have c1 : wr.cell? ⟨b, off + k * 2, none⟩ = some (.string pn) := hXr.one k _ hp
      have c2 : wr.cell? ⟨b, off + k * 2 + 1, none⟩ = some (.string pv) := hXr.two k _ hp
      have HW0 : Hid (∀ w', Below (wr.alloc (.cells #[.string pn, .string pv] 33)).heap.size (wr.alloc (.cells #[.string pn, .string pv] 33)) w' → Below w.heap.size w w' ∧ w'.heap[wr.heap.size]? = some (.cells #[.string pn, .string pv] 33 (0, 0))) := fun w' hb => by
        have hb0 : Below wr.heap.size wr (wr.alloc (.cells #[.string pn, .string pv] 33)) := (Below.refl _ _).alloc (Nat.le_refl _) _
        have hb1 : Below wr.heap.size wr w' := hb0.trans (hb.mono (by simp))
        exact ⟨HB.out.trans (hb1.mono HB.out.size), (hb.block _ (by simp)).trans (heap_alloc_new wr _)⟩
      obtain ⟨q, HQ⟩ : ∃ q, Hid (plainL pn.data.toList pv.data.toList = q) := ⟨_, rfl⟩
      have HS : Hid (together (ps.take (k + 1)) = if q = true then together (ps.take k) + pv.size else together (ps.take k)) := by
        rw [← HQ.out]; exact tog_next ps k _ HPK.out
      have HTL : Hid (together (ps.take (k + 1)) ≤ 10000) := by
        have h1 := together_le (ps.take (k + 1))
        have h2 : (ps.take (k + 1)).length ≤ k + 1 := List.length_take_le _ _
        show _ ≤ _
        omega
      clear hp hpz hXr
      go_wp2_with fail
      refine (refPlain_any pn pv (by omega) (by omega) _).mono ?_
      rintro e w2 ⟨rfl, hb2⟩
      rw [HQ.out]
      have HW2 := HW0.out _ hb2
      have HB2 : Hid (Below w.heap.size w w2) := HW2.1
      obtain ⟨_, x1, _⟩ := two_at HW2.2
      clear hb2 HW2 HW0 c1 c2
      cases q
      · go_wp2
        go_roundw
        case rel => exact ⟨k + 1, tg, by omega, rfl, by go_num, htg, by have h := HS.out; simp only [Bool.false_eq_true, if_false] at h; rw [h]; exact HT, HB2⟩
        case measure => simp [intOf]; omega
      · have HS1 : Hid (together (ps.take (k + 1)) = together (ps.take k) + pv.size) := by have h := HS.out; show _ = _; simpa using h
        have hts : tg + pv.size ≤ 10000 := by
          have h1 := HTL.out
          rw [HS1.out] at h1
          have h2 : tg = together (ps.take k) := HT
          omega
        go_wp2
        go_roundw
        case rel => exact ⟨k + 1, tg + pv.size, by omega, by go_num, by go_num, hts, by rw [HS1.out]; show tg + pv.size = _ + pv.size; rw [HT.out], HB2⟩
        case measure => simp [intOf]; omega
    · have hltz : ¬ (k : Int) < (len : Int) := by omega
      have HTG : Hid (tg = together ps) := by
        have h2 : tg = together (ps.take k) := HT
        rw [List.take_of_length_le (by have := HL.out; omega)] at h2
        exact h2
      obtain ⟨big, HBG⟩ : ∃ big, Hid (decide (1024 < together ps) = big) := ⟨_, rfl⟩
      clear HT
      go_wp2
      go_loopw [6, 25] (fun s6 i wq => ∃ (j : Nat) (u : Value), j ≤ len ∧ u = s6 ∧ i = .int .i64 j ∧ Hid (OwnS wq w.heap.size u (refNames (ps.take j) big) ∧ Below w.heap.size w wq)) (fun _ i _ => len - (intOf i).toNat)
      case atStart => exact ⟨0, _, Nat.zero_le _, rfl, rfl, by unfold refNames; exact ownS_nil _ _, HB.out⟩
      case round =>
        obtain ⟨j, u, hj, rfl, rfl, HI⟩ := hrel
        by_cases hjl : j < len
        · have hjz : (j : Int) < (len : Int) := by omega
          obtain ⟨p, hp⟩ : ∃ p, ps[j]? = some p := ⟨ps[j]'(by have := HL.out; omega), List.getElem?_eq_getElem _⟩
          obtain ⟨pn, pv⟩ := p
          have HPK : Hid (ps[j]? = some (pn, pv)) := hp
          have hpz := HP.out _ (List.mem_of_getElem? hp)
          have hpz1 : pn.size ≤ 3000 := hpz.1
          have hpz2 : pv.size ≤ 3000 := hpz.2
          obtain ⟨ha0, _⟩ := HX.out.lies (by omega)
          subst ha0
          have hXr := HX.out.below HI.out.2
          have c1 : wr.cell? ⟨b, off + j * 2, none⟩ = some (.string pn) := hXr.one j _ hp
          have c2 : wr.cell? ⟨b, off + j * 2 + 1, none⟩ = some (.string pv) := hXr.two j _ hp
          have HW0 : Hid (∀ w', Below (wr.alloc (.cells #[.string pn, .string pv] 33)).heap.size (wr.alloc (.cells #[.string pn, .string pv] 33)) w' → OwnS w' w.heap.size u (refNames (ps.take j) big) ∧ Below w.heap.size w w' ∧ w'.heap[wr.heap.size]? = some (.cells #[.string pn, .string pv] 33 (0, 0))) := fun w' hb => by
            have hb0 : Below wr.heap.size wr (wr.alloc (.cells #[.string pn, .string pv] 33)) := (Below.refl _ _).alloc (Nat.le_refl _) _
            have hb1 : Below wr.heap.size wr w' := hb0.trans (hb.mono (by simp))
            exact ⟨HI.out.1.below hb1, HI.out.2.trans (hb1.mono HI.out.2.size), (hb.block _ (by simp)).trans (heap_alloc_new wr _)⟩
          obtain ⟨q, HQ⟩ : ∃ q, Hid (plainL pn.data.toList pv.data.toList = q) := ⟨_, rfl⟩
          obtain ⟨x, HN⟩ : ∃ x : ByteArray, Hid (bs (pn.data.toList.map low) = x) := ⟨_, rfl⟩
          have HNX : Hid (lowN (pn, pv) = x) := HN.out
          have HS : Hid (refNames (ps.take (j + 1)) big = if (big || !q) = true then refNames (ps.take j) big ++ [x] else refNames (ps.take j) big) := by
            show _ = _
            rw [refNames_next ps j _ big HPK.out, HNX.out, ← HQ.out]
            rfl
          obtain ⟨nu, HNU⟩ : ∃ m, Hid ((refNames (ps.take j) big).length = m) := ⟨_, rfl⟩
          have hnu : nu ≤ 60 := by
            have h1 := refNames_le (ps.take j) big
            have h2 : (ps.take j).length ≤ j := List.length_take_le _ _
            have h3 := HNU.out
            omega
          clear hp hpz hXr
          go_upto_region 12 with fail
          generalize hWA : wr.alloc (.cells #[.string pn, .string pv] 33) = WA at HW0 ⊢
          have HWA : Hid (WA = wr.alloc (.cells #[.string pn, .string pv] 33)) := hWA.symm
          clear hWA c1 c2
          go_cut [35] (fun s35 wc => s35 = .bool (big || !q) ∧ Hid (Below WA.heap.size WA wc))
          case first =>
            cases big
            · have hbz : ¬ (1024 : Int) < (tg : Int) := by
                have h1 := of_decide_eq_false HBG.out
                have h2 := HTG.out
                omega
              obtain ⟨x0, x1, _⟩ := two_at (HW0.out _ (Below.refl _ _)).2.2
              go_wp2_with fail
              refine (refPlain_any pn pv (by omega) (by omega) _).mono ?_
              rintro e w2 ⟨rfl, hb2⟩
              rw [HQ.out]
              go_wp2
              go_meet
              exact ⟨rfl, hb2⟩
            · have hbz : (1024 : Int) < (tg : Int) := by
                have h1 := of_decide_eq_true HBG.out
                have h2 := HTG.out
                omega
              go_wp2
              go_meet
              exact ⟨rfl, Below.refl _ _⟩
          case rest =>
          obtain ⟨rfl, HC⟩ := hcut
          obtain ⟨z, HZZ⟩ : ∃ z, Hid ((big || !q) = z) := ⟨_, rfl⟩
          rw [HZZ.out] at HS ⊢
          have HWC := HW0.out _ HC.out
          obtain ⟨x0, x1, _⟩ := two_at HWC.2.2
          have HW2 : Hid (OwnS wc w.heap.size u (refNames (ps.take j) big) ∧ Below w.heap.size w wc) := ⟨HWC.1, HWC.2.1⟩
          clear HWC HW0 HWA
          cases z
          · have HS0 : Hid (refNames (ps.take (j + 1)) big = refNames (ps.take j) big) := by have h := HS.out; show _ = _; simpa using h
            go_wp2
            go_roundw
            case rel => exact ⟨j + 1, _, by omega, rfl, by go_num, by rw [HS0.out]; exact HW2⟩
            case measure => simp [intOf]; omega
          · have HS1 : Hid (refNames (ps.take (j + 1)) big = refNames (ps.take j) big ++ [x]) := by have h := HS.out; show _ = _; simpa using h
            go_wp2_with fail
            refine (refLower_any pn _ (by omega)).mono ?_
            rintro e w3 ⟨rfl, hb3⟩
            rw [HN.out]
            have HW3 : Hid (OwnS w3 w.heap.size u (refNames (ps.take j) big) ∧ Below w.heap.size w w3) := ⟨HW2.out.1.below hb3, HW2.out.2.trans (hb3.mono HW2.out.2.size)⟩
            clear hb3 x0 x1 HW2
            go_wp2_with (at_builtin; refine wp_apps rfl _ _ rfl w.heap.size w3 u _ nu rfl HW3.out.1 HNU.out (by omega) HW3.out.2.size x rfl ?_; intro g4 cap4 w4 hown4 hg4 hlt4; have HW4 : Hid (OwnS w4 w.heap.size (.slice (some ⟨g4, 0, none⟩) (nu + 1) cap4) (refNames (ps.take j) big ++ [x]) ∧ Below w.heap.size w w4) := ⟨hown4, (HW3.out.2.alloc HW3.out.2.size _).grown hg4 (by have := HW3.out.2.size; simp; omega) (fun i hi => (HW3.out.1.lt i hi).1)⟩; clear hown4 hg4 hlt4)
            go_roundw
            case rel => exact ⟨j + 1, _, by omega, rfl, by go_num, by rw [HS1.out]; exact HW4⟩
            case measure => simp [intOf]; omega
        · have hjz : ¬ (j : Int) < (len : Int) := by omega
          have HE : Hid (OwnS wr w.heap.size u (refNames ps big) ∧ Below w.heap.size w wr) := by
            have h := HI.out
            rw [List.take_of_length_le (by have := HL.out; omega)] at h
            exact h
          have hlr : (refNames ps big).length ≤ 1000 := by
            have h1 := refNames_le ps big
            have h2 := HL.out
            omega
          go_wp2_with fail
          refine (sortedR_any w.heap.size u _ hlr _ HE.out.2.size HE.out.1).mono ?_
          rintro e w5 ⟨⟨v, rfl, hown⟩, hb5⟩
          go_wp2
          go_ret
          refine ⟨⟨v, rfl, ?_⟩, HE.out.2.trans hb5⟩
          rw [← HBG.out, asked_ref] at hown
          exact hown
end Go.Proofs.YtoblpjknnchlmaaGreatDoor

/- Cells of a block. -/
namespace Go.Proofs.YtoblpjknnchlmaaGreatDoor
open Go.RowKit

theorem cells_of {w : World} {k : Nat} {cs : Array Value} {T : TypeId} {fz : Nat × Nat} (hk : w.heap[k]? = some (.cells cs T fz)) (j : Nat) (v : Value) (hj : cs[j]? = some v) : w.cell? ⟨k, j, none⟩ = some v := by
  simp [World.cell?, hk, hj]
theorem below_block {w w' : World} {k : Nat} {o : Obj} (hb : Below w.heap.size w w') (hk : w.heap[k]? = some o) : w'.heap[k]? = some o := by
  rw [hb.block k (Array.getElem?_eq_some_iff.1 hk).1]
  exact hk
end Go.Proofs.YtoblpjknnchlmaaGreatDoor

/- The document's CorsCovers: a set of keys, struck through. -/
namespace Go.Proofs.YtoblpjknnchlmaaGreatDoor
open Go.RowKit

theorem Strs.grown {w w' : World} {a0 : Option Addr} {len b off : Nat} {xs : List ByteArray} {row : Option Nat} (h : Strs w a0 len b off xs) (hg : w.grownBy w' row) (hr : some b ≠ row) : Strs w' a0 len b off xs := by
  refine ⟨h.len_eq, fun h0 => ⟨(h.lies h0).1, Nat.lt_of_lt_of_le (h.lies h0).2 hg.size⟩, fun j x hx => ?_⟩
  exact hg.cell (h.cells j x hx) hr
theorem grown_tr9 {a b c : World} {row : Option Nat} (h : a.grownBy b row) (k : b.grownBy c row) : a.grownBy c row :=
  ⟨k.os.trans h.os, k.tape.trans h.tape, k.output.trans h.output, Nat.le_trans h.size k.size, fun i hi hr => (k.block i (Nat.lt_of_lt_of_le hi h.size) hr).trans (h.block i hi hr)⟩
theorem grown_be9 {w w' : World} (hb : Below w.heap.size w w') (row : Option Nat) : w.grownBy w' row := ⟨hb.os, hb.tape, hb.output, hb.size, fun i hi _ => hb.block i hi⟩
theorem methodB_size (s : ByteArray) (h : s.size ≤ 3000) : (methodB s).size ≤ 3000 := by
  unfold methodB
  repeat' split
  all_goals first | exact h | decide
theorem bytes_cons (c : UInt8) (x : ByteArray) : ((⟨#[c]⟩ : ByteArray) ++ x).data.toList = c :: x.toList := by
  rw [ByteArray.toList_eq]
  simp
theorem bytes_cons_size (c : UInt8) (x : ByteArray) : ((⟨#[c]⟩ : ByteArray) ++ x).size = x.size + 1 := by
  rw [ByteArray.size_append]
  show 1 + _ = _
  omega
theorem below_grown {B : Nat} {a w w' : World} {b : Nat} (h : Below B a w) (hg : w.grownBy w' (some b)) (hb : B ≤ b) (hB : B ≤ w.heap.size) : Below B a w' :=
  h.trans ⟨hg.os, hg.tape, hg.output, hg.size, fun i hi => hg.block i (by omega) (by intro e; injection e; omega)⟩
theorem u8_eq9 (c d : UInt8) (n : Int) (h : (d.toNat : Int) = n) : ((c.toNat : Int) == n) = (c == d) := by
  subst h
  rw [Bool.eq_iff_iff, beq_iff_eq, beq_iff_eq]
  constructor
  · intro e
    exact UInt8.toNat_inj.1 (by omega)
  · rintro rfl
    rfl
set_option maxRecDepth 100000 in
set_option maxHeartbeats 8000000 in
theorem refCovers9_any (hs : List Par) (hps : Small8 hs) (ra : Option Addr) (rl rc rb ro : Nat) (hrl : rl ≤ 60) (pt fp up : Int) (fs us wi : Bool) (fh uh pa qu me bo : ByteArray) (hme : me.size ≤ 3000) (hxs : ∀ x ∈ askedL hs, x.size ≤ 3000)
    (ps : List PsV) (hpz : ∀ p ∈ ps, p.me.size ≤ 140737488355328 ∧ p.he.size ≤ 140737488355328) (a0 : Option Addr) (len cap b off : Nat) (hlen : len ≤ 60) (w : World) (hh : Pars w ra rl rb ro hs) (hx : Pss w a0 len b off ps) :
    Calls Tryz.prog 6 #[.agg #[.int .i64 pt, .bool fs, .string fh, .int .i64 fp, .bool us, .string uh, .int .i64 up, .string pa, .string qu, .string me, .slice ra rl rc, .bool wi, .string bo], .slice a0 len cap] w fun e w' => e = .returned (.bool (coversL wi (methodB me) (askedL hs) ps)) ∧ Below w.heap.size w w' := by
  have HQ : Hid (BoxQ 28 w #[.int .i64 pt, .bool fs, .string fh, .int .i64 fp, .bool us, .string uh, .int .i64 up, .string pa, .string qu, .string me, .slice ra rl rc, .bool wi, .string bo] (w.alloc (.cells #[.int .i64 pt, .bool fs, .string fh, .int .i64 fp, .bool us, .string uh, .int .i64 up, .string pa, .string qu, .string me, .slice ra rl rc, .bool wi, .string bo] 28))) := BoxQ.new _ _ _
  have HX : Hid (Pss w a0 len b off ps) := hx
  have HH : Hid (Pars w ra rl rb ro hs) := hh
  have HPS : Hid (Small8 hs) := hps
  have HPZ : Hid (∀ p ∈ ps, p.me.size ≤ 140737488355328 ∧ p.he.size ≤ 140737488355328) := hpz
  have HLN : Hid (ps.length = len) := hx.len_eq
  have hmc := fun W => refMethod_any me hme W
  have hmz : (methodB me).size ≤ 3000 := methodB_size me hme
  obtain ⟨m, HM⟩ : ∃ m, Hid (methodB me = m) := ⟨_, rfl⟩
  have hsm := fun W => refSimple_any m W
  rw [HM.out] at hmc hmz
  rw [HM.out]
  obtain ⟨xs, HXS⟩ : ∃ xs, Hid (askedL hs = xs) := ⟨_, rfl⟩
  rw [HXS.out] at hxs
  rw [HXS.out]
  have HXZ : Hid (∀ x ∈ xs, x.size ≤ 3000) := hxs
  have hxl : xs.length ≤ 60 := by
    rw [← HXS.out]
    unfold askedL
    rw [List.length_map]
    have h1 := compact_len (sortL (tx (askedNames hs)))
    have h2 : (tx (askedNames hs)).length = (askedNames hs).length := by unfold tx; simp
    rw [sortL_len, h2] at h1
    have h3 := lens_le hs
    have h4 : (askedNames hs).length ≤ hs.length := by
      unfold askedNames
      split
      · rw [List.length_append]; omega
      · omega
    have := hh.len_eq
    omega
  clear hx hh hps hxs hpz
  obtain ⟨z, HZ⟩ : ∃ z, Hid (simpleL m.toList = z) := ⟨_, rfl⟩
  rw [HZ.out] at hsm
  have HLS : Hid (∀ ps, (∀ l, left9 z m.toList xs wi ps l = false) → coversL wi m xs ps = true) := fun ps h => left_none m xs wi ps (by rw [HZ.out]; exact h)
  have HLF : Hid (∀ ps l, left9 z m.toList xs wi ps l = true → coversL wi m xs ps = false) := fun ps l h => left_some m xs wi ps l (by rw [HZ.out]; exact h)
  have hmm := @run_makeMap Tryz.prog
  have c9 := HQ.out.at 9 _ rfl
  go_enter Tryz.func6, Tryz.ntmps6
  go_wp2_with fail
  refine (hmc _).mono ?_
  rintro e w1 ⟨rfl, hb1⟩
  have HQ1 : Hid (BoxQ 28 w #[.int .i64 pt, .bool fs, .string fh, .int .i64 fp, .bool us, .string uh, .int .i64 up, .string pa, .string qu, .string me, .slice ra rl rc, .bool wi, .string bo] w1) := HQ.out.step hb1
  have hlt1 := HQ1.out.lt
  clear hb1 c9 hmc HQ
  have HO0 : Hid (Own9 (w1.alloc (.map #[] 0)) w1.heap.size 0 (fun _ => false)) := own9_made w1
  have HQ2 : Hid (BoxQ 28 w #[.int .i64 pt, .bool fs, .string fh, .int .i64 fp, .bool us, .string uh, .int .i64 up, .string pa, .string qu, .string me, .slice ra rl rc, .bool wi, .string bo] (w1.alloc (.map #[] 0))) := HQ1.out.step ((Below.refl _ _).alloc (Nat.le_refl _) _)
  have HG0 : Hid (w1.heap.size < (w1.alloc (.map #[] 0)).heap.size) := by show _ < _; simp
  have HB0 : Hid (Below w1.heap.size w1 (w1.alloc (.map #[] 0))) := (Below.refl _ _).alloc (Nat.le_refl _) _
  go_upto_region 3 with fail
  generalize hW : w1.alloc (.map #[] 0) = W2 at HO0 HQ2 HG0 HB0 ⊢
  obtain ⟨g, HGG⟩ : ∃ g, Hid (w1.heap.size = g) := ⟨_, rfl⟩
  rw [HGG.out] at HO0 HG0 HB0 hlt1 ⊢
  clear hW
  have HB2 : Hid (Below g w1 W2) := HB0.out
  go_wp2_with fail
  refine (hsm _).mono ?_
  rintro e w3 ⟨rfl, hw3⟩
  obtain rfl := hw3.symm
  clear hsm
  go_upto_if 18 with fail
  go_cut [] (fun wc => Hid (Own9 wc g 1 (keys9 z m.toList []) ∧ Below g w1 wc ∧ g < wc.heap.size))
  case first =>
    cases z
    · go_wp2_with (first | (at_mapUpdate; refine wp_put9 rfl _ _ _ _ rfl Tryz.underlying42 W2 g 0 _ rfl HO0.out (by omega) _ rfl (by rw [bytes_cons_size]; omega) rfl ?_; intro w4 ho4 hg4) | go_in)
      have HR : Hid (Own9 w4 g 1 (keys9 false m.toList []) ∧ Below g w1 w4 ∧ g < w4.heap.size) := ⟨ho4.congr fun l => by rw [bytes_cons]; simp [keys9], below_grown HB2.out hg4 (Nat.le_refl _) (Nat.le_of_lt HG0.out), Nat.lt_of_lt_of_le HG0.out hg4.size⟩
      clear ho4 hg4
      go_wp2
      go_meet
      exact HR
    · go_wp2
      go_meet
      exact ⟨(HO0.out.mono (by omega)).congr fun l => by simp [keys9], HB2.out, HG0.out⟩
  case rest =>
  have HCU := hcut
  clear hcut HO0 HG0 HB0 HB2
  have HQC : Hid (BoxQ 28 w #[.int .i64 pt, .bool fs, .string fh, .int .i64 fp, .bool us, .string uh, .int .i64 up, .string pa, .string qu, .string me, .slice ra rl rc, .bool wi, .string bo] wc) := ⟨HQ1.out.bel.trans (HCU.out.2.1.mono (Nat.le_of_lt hlt1)), (HCU.out.2.1.block _ hlt1).trans HQ1.out.row⟩
  have c10 := HQC.out.at 10 _ rfl
  go_wp2_with fail
  refine (refAsked8_any hs HPS.out ra rl rc rb ro hrl _ (HH.out.below HQC.out.bel)).mono ?_
  rintro e w5 ⟨⟨v, rfl, hown⟩, hb5⟩
  rw [HXS.out] at hown
  obtain ⟨xa, xc, xg, rfl, _⟩ := hown.strs
  have HS5 : Hid (OwnS w5 wc.heap.size (.slice xa xs.length xc) xs) := hown
  have HO5 : Hid (Own9 w5 g 1 (keys9 z m.toList []) ∧ Below g w1 w5 ∧ g < wc.heap.size ∧ wc.heap.size ≤ w5.heap.size) := ⟨HCU.out.1.kept (grown_be9 hb5 none) (by simp), HCU.out.2.1.trans (hb5.mono (Nat.le_of_lt HCU.out.2.2)), HCU.out.2.2, hb5.size⟩
  clear hown hb5 c10 HQC HCU
  obtain ⟨n, HN⟩ : ∃ n, Hid (xs.length = n) := ⟨_, rfl⟩
  rw [HN.out] at HS5 hxl
  rw [HN.out]
  obtain ⟨B5, HB5⟩ : ∃ B5, Hid (wc.heap.size = B5) := ⟨_, rfl⟩
  rw [HB5.out] at HS5 HO5
  go_wp2
  go_loopw [26] (fun i wr => ∃ k : Nat, k ≤ n ∧ i = .int .i64 k ∧ Hid (Own9 wr g (k + 1) (keys9 z m.toList (xs.take k)) ∧ w5.grownBy wr (some g))) (fun i _ => n - (intOf i).toNat)
  case atStart => exact ⟨0, Nat.zero_le _, rfl, HO5.out.1, World.grownBy.refl _ _⟩
  case round =>
    obtain ⟨k, hk, rfl, HI⟩ := hrel
    by_cases hlt : k < n
    · have hltz : (k : Int) < (n : Int) := by omega
      obtain ⟨x, hx⟩ : ∃ x, xs[k]? = some x := ⟨xs[k]'(by have := HN.out; omega), List.getElem?_eq_getElem _⟩
      have HXK : Hid (xs[k]? = some x) := hx
      have hxz := HXZ.out x (List.mem_of_getElem? hx)
      obtain ⟨ya, yc, yg, he, hst⟩ := (HS5.out.grown HI.out.2 HO5.out.2.2.1).strs
      injection he with he1 he2 he3
      subst he1
      obtain ⟨rfl, _⟩ := hst.lies (by have := HN.out; omega)
      have cx : wr.cell? ⟨yg, k, none⟩ = some (.string x) := by
        have := hst.cells k x hx
        rwa [Nat.zero_add] at this
      clear hx hst he2 he3
      go_wp2_with (first | (at_mapUpdate; refine wp_put9 rfl _ _ _ _ rfl Tryz.underlying42 wr g (k + 1) _ rfl HI.out.1 (by omega) _ rfl (by rw [bytes_cons_size]; omega) rfl ?_; intro w6 ho6 hg6) | go_in)
      have HR : Hid (Own9 w6 g (k + 1 + 1) (keys9 z m.toList (xs.take (k + 1))) ∧ w5.grownBy w6 (some g)) := ⟨ho6.congr fun l => by rw [bytes_cons, keys_next z m.toList xs k x HXK.out], grown_tr9 HI.out.2 hg6⟩
      clear ho6 hg6
      go_wp2
      go_roundw
      case rel => exact ⟨k + 1, by omega, by go_num, HR⟩
      case measure => simp [intOf]; omega
    · have hltz : ¬ (k : Int) < (n : Int) := by omega
      have HW : Hid (Own9 wr g (n + 1) (keys9 z m.toList xs) ∧ Below g w1 wr ∧ g < wr.heap.size) := by
        have h1 := HI.out.1
        rw [List.take_of_length_le (by have := HN.out; omega)] at h1
        exact ⟨h1.mono (by omega), below_grown HO5.out.2.1 HI.out.2 (Nat.le_refl _) (by have := HO5.out.2.2; omega), Nat.lt_of_lt_of_le (by have := HO5.out.2.2; omega) HI.out.2.size⟩
      clear HI hk HO5 HS5 HB5
      go_wp2
      go_loopw [36] (fun i wq => ∃ k : Nat, k ≤ len ∧ i = .int .i64 k ∧ Hid (Own9 wq g (n + 1) (left9 z m.toList xs wi (ps.take k)) ∧ Below g w1 wq ∧ g < wq.heap.size)) (fun i _ => len - (intOf i).toNat)
      case atStart => exact ⟨0, Nat.zero_le _, rfl, HW.out.1.congr fun l => by simp [left9], HW.out.2⟩
      case round =>
        clear hlt hltz
        obtain ⟨k, hk, rfl, HI⟩ := hrel
        by_cases hlt : k < len
        · have hltz : (k : Int) < (len : Int) := by omega
          obtain ⟨p, hp⟩ : ∃ p, ps[k]? = some p := ⟨ps[k]'(by have := HLN.out; omega), List.getElem?_eq_getElem _⟩
          have HPK : Hid (ps[k]? = some p) := hp
          have HPS2 : Hid (p.me.size ≤ 140737488355328 ∧ p.he.size ≤ 140737488355328) := HPZ.out p (List.mem_of_getElem? hp)
          have HWQ : Hid (Below w.heap.size w wr) := HQ1.out.bel.trans (HI.out.2.1.mono (Nat.le_of_lt hlt1))
          obtain ⟨rfl, _⟩ := HX.out.lies (by omega)
          obtain ⟨c0, c1, c2, c3, c4, c5, c6, c7, c8, c9, c10, c11⟩ := (HX.out.below HWQ.out).all (j := k) hp
          have HBX : Hid ((wr.alloc (.cells #[.bool p.fs, .string p.fh, .int .i64 p.fp, .bool p.us, .string p.uh, .int .i64 p.up, .string p.pa, .string p.qu, .bool p.wi, .string p.me, .string p.he, .int .i64 p.un] 36)).heap[wr.heap.size]? = some (.cells #[.bool p.fs, .string p.fh, .int .i64 p.fp, .bool p.us, .string p.uh, .int .i64 p.up, .string p.pa, .string p.qu, .bool p.wi, .string p.me, .string p.he, .int .i64 p.un] 36 (0, 0))) := heap_alloc_new wr _
          have HIA : Hid (Own9 (wr.alloc (.cells #[.bool p.fs, .string p.fh, .int .i64 p.fp, .bool p.us, .string p.uh, .int .i64 p.up, .string p.pa, .string p.qu, .bool p.wi, .string p.me, .string p.he, .int .i64 p.un] 36)) g (n + 1) (left9 z m.toList xs wi (ps.take k)) ∧ Below g w1 (wr.alloc (.cells #[.bool p.fs, .string p.fh, .int .i64 p.fp, .bool p.us, .string p.uh, .int .i64 p.up, .string p.pa, .string p.qu, .bool p.wi, .string p.me, .string p.he, .int .i64 p.un] 36)) ∧ g < wr.heap.size ∧ (wr.alloc (.cells #[.bool p.fs, .string p.fh, .int .i64 p.fp, .bool p.us, .string p.uh, .int .i64 p.up, .string p.pa, .string p.qu, .bool p.wi, .string p.me, .string p.he, .int .i64 p.un] 36)).heap.size = wr.heap.size + 1) := ⟨HI.out.1.kept (World.grownBy_alloc _ _ none) (by simp), HI.out.2.1.trans ((Below.refl _ _).alloc (Nat.le_of_lt HI.out.2.2) _), HI.out.2.2, by simp⟩
          have d9 : (wr.alloc (.cells #[.bool p.fs, .string p.fh, .int .i64 p.fp, .bool p.us, .string p.uh, .int .i64 p.up, .string p.pa, .string p.qu, .bool p.wi, .string p.me, .string p.he, .int .i64 p.un] 36)).cell? ⟨wr.heap.size, 9, none⟩ = some (.string p.me) := cells_of HBX.out 9 _ rfl
          clear hp HI HWQ
          go_upto_region 13 with fail
          clear c0 c1 c2 c3 c4 c5 c6 c7 c8 c9 c10 c11
          generalize hW : wr.alloc (.cells #[.bool p.fs, .string p.fh, .int .i64 p.fp, .bool p.us, .string p.uh, .int .i64 p.up, .string p.pa, .string p.qu, .bool p.wi, .string p.me, .string p.he, .int .i64 p.un] 36) = W3 at HBX HIA d9 ⊢
          clear hW
          obtain ⟨gp, HGP⟩ : ∃ gp, Hid (wr.heap.size = gp) := ⟨_, rfl⟩
          rw [HGP.out] at HBX HIA d9 ⊢
          have hgp : g < gp := HIA.out.2.2.1
          have hz1 : p.me.size ≤ 140737488355328 := HPS2.out.1
          have hz2 : p.he.size ≤ 140737488355328 := HPS2.out.2
          have hlg : gp < W3.heap.size := by rw [HIA.out.2.2.2]; omega
          go_wp2_with (first | (at_delete; refine wp_del9 rfl _ _ _ rfl Tryz.underlying42 W3 g (n + 1) _ rfl HIA.out.1 _ rfl (by rw [bytes_cons_size]; have := HPS2.out; omega) ?_; intro w7 ho7 hg7; have HO7 : Hid (Own9 w7 g (n + 1) _) := ho7; have HG7 : Hid (W3.grownBy w7 (some g)) := hg7; clear ho7 hg7; have HBX7 : Hid (w7.heap[gp]? = some (.cells #[.bool p.fs, .string p.fh, .int .i64 p.fp, .bool p.us, .string p.uh, .int .i64 p.up, .string p.pa, .string p.qu, .bool p.wi, .string p.me, .string p.he, .int .i64 p.un] 36 (0, 0))) := (HG7.out.block gp hlg (by simp; omega)).trans HBX.out; have d10 := cells_of HBX7.out 10 _ rfl) | (at_delete; refine wp_del9 rfl _ _ _ rfl Tryz.underlying42 w7 g (n + 1) _ rfl HO7.out _ rfl (by rw [bytes_cons_size]; have := HPS2.out; omega) ?_; intro w8 ho8 hg8; have HO8 : Hid (Own9 w8 g (n + 1) _) := ho8; have HG8 : Hid (w7.grownBy w8 (some g)) := hg8; clear ho8 hg8) | (at_range; refine wp_range9 rfl _ _ rfl Tryz.underlying42 w8 g (n + 1) _ rfl HO8.out ?_; intro w9 cnt9 hr9 hg9 hs9; have HR9 : Hid (Rng9 w9 g w8.heap.size (n + 1) _ _ cnt9) := hr9; have HG9 : Hid (w8.grownBy w9 none ∧ w9.heap.size = w8.heap.size + 1) := ⟨hg9, hs9⟩; clear hr9 hg9 hs9) | go_in)
          clear hz1 hz2
          go_frame
          obtain ⟨r, HR⟩ : ∃ r, Hid (w8.heap.size = r) := ⟨_, rfl⟩
          obtain ⟨F, HF⟩ : ∃ F : List UInt8 → Bool, Hid (F = fun l => (left9 z m.toList xs wi (ps.take k) l && !(l == 109 :: p.me.toList)) && !(l == 104 :: p.he.toList)) := ⟨_, rfl⟩
          have HBX9 : Hid (w9.heap[gp]? = some (.cells #[.bool p.fs, .string p.fh, .int .i64 p.fp, .bool p.us, .string p.uh, .int .i64 p.up, .string p.pa, .string p.qu, .bool p.wi, .string p.me, .string p.he, .int .i64 p.un] 36 (0, 0)) ∧ gp < r) := ⟨by rw [HG9.out.1.block gp (by have := HG8.out.size; have := HG7.out.size; omega) (by simp), HG8.out.block gp (by have := HG7.out.size; omega) (by simp; omega)]; exact HBX7.out, by rw [← HR.out]; have := HG8.out.size; have := HG7.out.size; omega⟩
          have HI9 : Hid (Rng9 w9 g r (n + 1) F F cnt9 ∧ Below g w1 w9 ∧ w9.heap.size = r + 1) := by
            refine ⟨?_, ?_, ?_⟩
            · rw [← HR.out]
              refine HR9.out.congr (fun l => ?_) (fun l => ?_) <;> rw [HF.out, bytes_cons, bytes_cons]
            · refine (below_grown (below_grown HIA.out.2.1 HG7.out (Nat.le_refl _) (by omega)) HG8.out (Nat.le_refl _) (by have := HG7.out.size; omega)).trans ⟨HG9.out.1.os, HG9.out.1.tape, HG9.out.1.output, HG9.out.1.size, fun i hi => HG9.out.1.block i (by have := HG8.out.size; have := HG7.out.size; omega) (by simp)⟩
            · rw [HG9.out.2, HR.out]
          rw [HR.out]
          have HFK : Hid (∀ l, F l = true → ∃ c t, l = c :: t ∧ t.length ≤ 3000) := fun l hl => by
            rw [HF.out] at hl
            simp only [Bool.and_eq_true] at hl
            obtain ⟨c, t, e, ht⟩ := left_key hl.1.1
            refine ⟨c, t, e, ?_⟩
            rcases ht with rfl | ⟨x, hx, rfl⟩
            · rw [ByteArray.toList_eq, Array.length_toList]; exact hmz
            · rw [ByteArray.toList_eq, Array.length_toList]; exact HXZ.out x hx
          have HFN : Hid (∀ l, left9 z m.toList xs wi (ps.take (k + 1)) l = (F l && !star9 wi p.me.toList p.he.toList l)) := fun l => by
            rw [left_next z m.toList xs wi ps k p HPK.out l, HF.out]
            unfold strikes
            dsimp only
            generalize left9 z m.toList xs wi (ps.take k) l = q1
            generalize (l == 109 :: p.me.toList) = q2
            generalize (l == 104 :: p.he.toList) = q3
            generalize star9 wi p.me.toList p.he.toList l = q4
            cases q1 <;> cases q2 <;> cases q3 <;> cases q4 <;> rfl
          clear HR9 HG9 HO8 HG8 HO7 HG7 HBX7 HBX HIA d9 hlg
          go_loopw [] (fun wr => ∃ (cnt : Nat) (f lf : List UInt8 → Bool), Hid (Rng9 wr g r (n + 1) f lf cnt ∧ Below g w1 wr ∧ r < wr.heap.size ∧ wr.heap[gp]? = some (.cells #[.bool p.fs, .string p.fh, .int .i64 p.fp, .bool p.us, .string p.uh, .int .i64 p.up, .string p.pa, .string p.qu, .bool p.wi, .string p.me, .string p.he, .int .i64 p.un] 36 (0, 0)) ∧ (∀ l, f l = (F l && (lf l || !star9 wi p.me.toList p.he.toList l))) ∧ ∀ l, lf l = true → F l = true)) (fun wr => wr.rangeLeft g r)
          case atStart => exact ⟨cnt9, F, F, HI9.out.1, HI9.out.2.1, by rw [HI9.out.2.2]; omega, HBX9.out.1, fun l => by cases F l <;> simp, fun l h => h⟩
          case round =>
            obtain ⟨cnt, f, lf, HJ⟩ := hrel
            go_wp2_with (first | (at_next; refine wp_next9 rfl _ rfl wr g r (n + 1) cnt f lf rfl HJ.out.1 ?_ ?_) | go_in)
            · intro hdone
              have HR : Hid (Own9 wr g (n + 1) (left9 z m.toList xs wi (ps.take (k + 1))) ∧ Below g w1 wr ∧ g < wr.heap.size) := ⟨HJ.out.1.own.congr fun l => by rw [HFN.out l, HJ.out.2.2.2.2.1 l, hdone l, Bool.false_or], HJ.out.2.1, by have := HJ.out.2.2.1; have := HBX9.out.2; omega⟩
              clear HJ hdone
              go_wp2
              go_roundw
              case rel => exact ⟨k + 1, by omega, by go_num, HR⟩
              case measure => simp [intOf]; omega
            · intro s c w10 cnt10 hlf hr10 hc10 hg10 hs10 hen
              obtain ⟨ch, tl, hct, htl⟩ := HFK.out _ (HJ.out.2.2.2.2.2 _ hlf)
              have hsz : s.size ≤ 3001 ∧ 0 < s.size := by
                have h1 : s.data.toList.length = s.size := Array.length_toList
                rw [hct, List.length_cons] at h1
                omega
              obtain ⟨hsz1, hsz0⟩ := hsz
              have hch : s.data[0]! = ch := by
                rw [getElem!_pos s.data 0 hsz0]
                have : s.data.toList[0]? = some ch := by rw [hct]; rfl
                rw [Array.getElem?_toList, Array.getElem?_eq_getElem hsz0] at this
                exact Option.some.inj this
              obtain ⟨T, HT⟩ : ∃ T, Hid (star9 wi p.me.toList p.he.toList s.data.toList = T) := ⟨_, rfl⟩
              have HJA : Hid (Rng9 w10 g r (n + 1) f (fun l => lf l && !(l == s.data.toList)) cnt10) := hr10
              have HJB : Hid (Below g w1 w10 ∧ r < w10.heap.size ∧ w10.heap[gp]? = some (.cells #[.bool p.fs, .string p.fh, .int .i64 p.fp, .bool p.us, .string p.uh, .int .i64 p.up, .string p.pa, .string p.qu, .bool p.wi, .string p.me, .string p.he, .int .i64 p.un] 36 (0, 0)) ∧ cnt10 < cnt ∧ wr.rangeLeft g r = cnt) := by
                have hr : g < r := by have := HBX9.out.2; omega
                refine ⟨below_grown HJ.out.2.1 hg10 (Nat.le_of_lt hr) (by have := HJ.out.2.2.1; omega), by rw [hs10]; exact HJ.out.2.2.1, (hg10.block gp (by have := HJ.out.2.2.1; have := HBX9.out.2; omega) (by simp; have := HBX9.out.2; omega)).trans HJ.out.2.2.2.1, hc10, HJ.out.1.left_eq⟩
              have HJC : Hid ((∀ l, f l = (F l && (lf l || !star9 wi p.me.toList p.he.toList l))) ∧ (∀ l, lf l = true → F l = true) ∧ lf s.data.toList = true) := ⟨HJ.out.2.2.2.2.1, HJ.out.2.2.2.2.2, hlf⟩
              have HCT : Hid (s.data.toList = ch :: tl) := hct
              have d9 := cells_of HJB.out.2.2.1 9 _ rfl
              have d10 := cells_of HJB.out.2.2.1 10 _ rfl
              have d11 : w10.cell? ⟨w.heap.size, 11, none⟩ = some (.bool wi) := (show BoxQ 28 w #[.int .i64 pt, .bool fs, .string fh, .int .i64 fp, .bool us, .string uh, .int .i64 up, .string pa, .string qu, .string me, .slice ra rl rc, .bool wi, .string bo] w10 from ⟨HQ1.out.bel.trans (HJB.out.1.mono (Nat.le_of_lt hlt1)), (HJB.out.1.block _ hlt1).trans HQ1.out.row⟩).at 11 _ rfl
              clear hr10 hg10 hs10 hc10 hlf HJ hct htl
              go_upto_region 18 with fail
              go_cut [80] (fun v wc => v = .bool T ∧ wc = w10)
              case first =>
                cases wi
                · obtain ⟨q1, HQ1A⟩ : ∃ q, Hid ((p.me.toList == [42]) = q) := ⟨_, rfl⟩
                  obtain ⟨q2, HQ2A⟩ : ∃ q, Hid ((p.he.toList == [42]) = q) := ⟨_, rfl⟩
                  obtain ⟨q3, HQ3A⟩ : ∃ q, Hid ((s.toList == [104, 97, 117, 116, 104, 111, 114, 105, 122, 97, 116, 105, 111, 110]) = q) := ⟨_, rfl⟩
                  obtain ⟨a1, HA1⟩ : ∃ q, Hid ((ch == 109) = q) := ⟨_, rfl⟩
                  obtain ⟨a2, HA2⟩ : ∃ q, Hid ((ch == 104) = q) := ⟨_, rfl⟩
                  have HTT : Hid ((q1 && a1 || q2 && (a2 && !q3)) = T) := by
                    show _ = _
                    rw [← HT.out, ← HQ1A.out, ← HQ2A.out, ← HQ3A.out, ← HA1.out, ← HA2.out, ByteArray.toList_eq (bs := s), HCT.out]
                    rfl
                  have e1 : (p.me.toList == [42]) = q1 := HQ1A.out
                  have e2 : (p.he.toList == [42]) = q2 := HQ2A.out
                  have e3 : (s.toList == [104, 97, 117, 116, 104, 111, 114, 105, 122, 97, 116, 105, 111, 110]) = q3 := HQ3A.out
                  have hs0 : (s[0]'hsz0) = ch := by
                    rw [← hch]
                    exact (getElem!_pos s.data 0 hsz0).symm
                  have i1 : (((s[0]'hsz0).toNat : Int) == 109) = a1 := by rw [hs0, ← HA1.out]; exact u8_eq9 ch 109 109 rfl
                  have i2 : (((s[0]'hsz0).toNat : Int) == 104) = a2 := by rw [hs0, ← HA2.out]; exact u8_eq9 ch 104 104 rfl
                  clear hs0
                  cases q1
                  · cases q2
                    · go_wp2
                      go_meet
                      exact ⟨congrArg Value.bool (by rw [← HTT.out]; first | rfl | simp), rfl⟩
                    · cases a2
                      · go_wp2
                        go_meet
                        exact ⟨congrArg Value.bool (by rw [← HTT.out]; first | rfl | simp), rfl⟩
                      · cases q3
                        · go_wp2
                          go_meet
                          exact ⟨congrArg Value.bool (by rw [← HTT.out]; first | rfl | simp), rfl⟩
                        · go_wp2
                          go_meet
                          exact ⟨congrArg Value.bool (by rw [← HTT.out]; first | rfl | simp), rfl⟩
                  · cases a1
                    · cases q2
                      · go_wp2
                        go_meet
                        exact ⟨congrArg Value.bool (by rw [← HTT.out]; first | rfl | simp), rfl⟩
                      · cases a2
                        · go_wp2
                          go_meet
                          exact ⟨congrArg Value.bool (by rw [← HTT.out]; first | rfl | simp), rfl⟩
                        · cases q3
                          · go_wp2
                            go_meet
                            exact ⟨congrArg Value.bool (by rw [← HTT.out]; first | rfl | simp), rfl⟩
                          · go_wp2
                            go_meet
                            exact ⟨congrArg Value.bool (by rw [← HTT.out]; first | rfl | simp), rfl⟩
                    · go_wp2
                      go_meet
                      exact ⟨congrArg Value.bool (by rw [← HTT.out]; first | rfl | simp), rfl⟩
                · go_wp2
                  go_meet
                  exact ⟨by rw [← HT.out]; rfl, rfl⟩
              case rest =>
              obtain ⟨rfl, rfl⟩ := hcut
              clear d9 d10 d11 hch hen
              cases T
              · have HR : Hid (Rng9 wc g r (n + 1) f (fun l => lf l && !(l == s.data.toList)) cnt10 ∧ Below g w1 wc ∧ r < wc.heap.size ∧ wc.heap[gp]? = some (.cells #[.bool p.fs, .string p.fh, .int .i64 p.fp, .bool p.us, .string p.uh, .int .i64 p.up, .string p.pa, .string p.qu, .bool p.wi, .string p.me, .string p.he, .int .i64 p.un] 36 (0, 0)) ∧ (∀ l, f l = (F l && ((lf l && !(l == s.data.toList)) || !star9 wi p.me.toList p.he.toList l))) ∧ ∀ l, (lf l && !(l == s.data.toList)) = true → F l = true) := by
                  refine ⟨HJA.out, HJB.out.1, HJB.out.2.1, HJB.out.2.2.1, fun l => ?_, fun l h => HJC.out.2.1 l (by simp at h; exact h.1)⟩
                  rw [HJC.out.1 l]
                  by_cases e : l = s.data.toList
                  · subst e
                    rw [HT.out]
                    simp
                  · have : (l == s.data.toList) = false := by simpa using e
                    rw [this]
                    simp
                go_wp2
                go_roundw
                case rel => exact ⟨cnt10, f, _, HR⟩
                case measure =>
                  rw [HJB.out.2.2.2.2, HJA.out.left_eq]
                  exact HJB.out.2.2.2.1
              · go_wp2_with (first | (at_delete; refine wp_delr9 rfl _ _ _ rfl Tryz.underlying42 wc g r (n + 1) cnt10 f _ rfl HJA.out s rfl (by omega) (by simp) ?_; intro w11 cnt11 hr11 hc11 hg11) | go_in)
                have HR : Hid (Rng9 w11 g r (n + 1) (fun l => f l && !(l == s.data.toList)) (fun l => lf l && !(l == s.data.toList)) cnt11 ∧ Below g w1 w11 ∧ r < w11.heap.size ∧ w11.heap[gp]? = some (.cells #[.bool p.fs, .string p.fh, .int .i64 p.fp, .bool p.us, .string p.uh, .int .i64 p.up, .string p.pa, .string p.qu, .bool p.wi, .string p.me, .string p.he, .int .i64 p.un] 36 (0, 0)) ∧ (∀ l, (f l && !(l == s.data.toList)) = (F l && ((lf l && !(l == s.data.toList)) || !star9 wi p.me.toList p.he.toList l))) ∧ ∀ l, (lf l && !(l == s.data.toList)) = true → F l = true) := by
                  have hr : g < r := by have := HBX9.out.2; omega
                  refine ⟨hr11, below_grown HJB.out.1 hg11 (Nat.le_refl _) (by have := HJB.out.2.1; omega), Nat.lt_of_lt_of_le HJB.out.2.1 hg11.size, (hg11.block gp (by have := HJB.out.2.1; have := HBX9.out.2; omega) (by simp; omega)).trans HJB.out.2.2.1, fun l => ?_, fun l h => HJC.out.2.1 l (by simp at h; exact h.1)⟩
                  rw [HJC.out.1 l]
                  by_cases e : l = s.data.toList
                  · subst e
                    rw [HT.out]
                    simp
                  · have : (l == s.data.toList) = false := by simpa using e
                    rw [this]
                    simp
                have HRM : Hid (cnt11 < cnt) := Nat.lt_of_le_of_lt hc11 HJB.out.2.2.2.1
                clear hr11 hc11 hg11
                go_wp2
                try go_frame
                go_roundw
                case rel => exact ⟨cnt11, _, _, HR⟩
                case measure =>
                  rw [HJB.out.2.2.2.2, HR.out.1.left_eq]
                  exact HRM.out
        · have hltz : ¬ (k : Int) < (len : Int) := by omega
          have HE : Hid (Own9 wr g (n + 1) (left9 z m.toList xs wi ps)) := by
            have h1 := HI.out.1
            rw [List.take_of_length_le (by have := HLN.out; omega)] at h1
            exact h1
          have HWQ : Hid (Below w.heap.size w wr) := HQ1.out.bel.trans (HI.out.2.1.mono (Nat.le_of_lt hlt1))
          clear HI
          go_wp2_with (first | (at_len; refine wp_len9 rfl _ _ rfl Tryz.underlying42 wr g (n + 1) _ rfl HE.out ?_; intro c hc0 hc1 hcn; have HC0 : Hid (c = 0 → ∀ l, left9 z m.toList xs wi ps l = false) := hc0; have HC1 : Hid (c ≠ 0 → ∃ l, left9 z m.toList xs wi ps l = true) := hc1; clear hc0 hc1; by_cases hcz : c = 0) | go_in)
          · go_ret
            exact ⟨ret_bool (by rw [HLS.out ps (HC0.out hcz)]), HWQ.out⟩
          · go_ret
            obtain ⟨l, hl⟩ := HC1.out hcz
            exact ⟨ret_bool (by rw [HLF.out ps l hl]; simpa using hcz), HWQ.out⟩
end Go.Proofs.YtoblpjknnchlmaaGreatDoor

/- The library's functions over a row of passes that lies somewhere. -/
namespace Go.Proofs.YtoblpjknnchlmaaGreatDoor
open Go.RowKit

/-- A function that says whether a pass is of a kind, at these, and what it holds. -/
structure KindQ (K : Nat) (lb : Array Value) (f : PsV → Bool) (ps : List PsV) (w : World) : Prop where
  says : ∀ p ∈ ps, ∀ W : World, Below w.heap.size w W → Calls Tryz.prog K (#[.agg #[.bool p.fs, .string p.fh, .int .i64 p.fp, .bool p.us, .string p.uh, .int .i64 p.up, .string p.pa, .string p.qu, .bool p.wi, .string p.me, .string p.he, .int .i64 p.un]] ++ lb) W fun e w' => e = .returned (.bool (f p)) ∧ Below W.heap.size W w'
  enters : ∀ (args : Array Value) (W : World), (callFunc K args).run Tryz.prog W = .ok (.enter K args) W
set_option maxRecDepth 100000 in
set_option maxHeartbeats 4000000 in
theorem indexQ_any (K : Nat) (lb : Array Value) (f : PsV → Bool) (ps : List PsV) (w : World) (hK : KindQ K lb f ps w) (a0 : Option Addr) (len cap b off : Nat) (hlen : len ≤ 1000000) (hx : Pss w a0 len b off ps) :
    Calls Tryz.prog 18 #[.slice a0 len cap, .func (.func K) #[] lb] w fun e w' => (∃ r : Int, e = .returned (.int .i64 r) ∧ Hid (decide (0 ≤ r) = ps.any f)) ∧ Below w.heap.size w w' := by
  have HX : Hid (Pss w a0 len b off ps) := hx
  have hl := hx.len_eq
  have HL : Hid (ps.length = len) := hl
  have HK0 : Hid (KindQ K lb f ps w) := hK
  have hen := hK.enters
  clear hK hx hl
  go_enter Tryz.func18, Tryz.ntmps18
  go_wp2
  go_loopw [8] (fun i wr => ∃ (k : Nat), k ≤ len ∧ i = .int .i64 k ∧ Hid ((ps.take k).any f = false) ∧ Hid (Below w.heap.size w wr)) (fun i _ => len - (intOf i).toNat)
  case atStart => exact ⟨0, Nat.zero_le _, rfl, rfl, Below.refl _ _⟩
  case round =>
    obtain ⟨k, hk, rfl, HK, HB⟩ := hrel
    by_cases hlt : k < len
    · have hltz : (k : Int) < (len : Int) := by omega
      obtain ⟨p, hp⟩ : ∃ p, ps[k]? = some p := ⟨ps[k]'(by have := HL.out; omega), List.getElem?_eq_getElem (by have := HL.out; omega)⟩
      have HPK : Hid (ps[k]? = some p) := hp
      have HM : Hid (p ∈ ps) := List.mem_of_getElem? hp
      obtain ⟨ha0, _⟩ := HX.out.lies (by omega)
      subst ha0
      obtain ⟨c0, c1, c2, c3, c4, c5, c6, c7, c8, c9, c10, c11⟩ := (HX.out.below HB.out).all hp
      have hsay := HK0.out.says p HM.out wr HB.out
      clear hp
      obtain ⟨q, HF⟩ : ∃ q, Hid (f p = q) := ⟨_, rfl⟩
      rw [HF.out] at hsay
      obtain ⟨xfs, xfh, xfp, xus, xuh, xup, xpa, xqu, xwi, xme, xhe, xun⟩ := p
      have HSAY : Hid (Calls Tryz.prog K (#[.agg #[.bool xfs, .string xfh, .int .i64 xfp, .bool xus, .string xuh, .int .i64 xup, .string xpa, .string xqu, .bool xwi, .string xme, .string xhe, .int .i64 xun]] ++ lb) wr fun e w' => e = .returned (.bool q) ∧ Below wr.heap.size wr w') := hsay
      clear hsay
      simp only at c0 c1 c2 c3 c4 c5 c6 c7 c8 c9 c10 c11
      cases q
      · have HS : Hid ((ps.take (k + 1)).any f = false) := take_any HK.out HPK.out HF.out
        go_wp2_with fail
        refine HSAY.out.mono ?_
        rintro e w' ⟨rfl, hb'⟩
        have HB2 : Hid (Below w.heap.size w w') := HB.out.trans (hb'.mono HB.out.size)
        clear hb'
        go_wp2
        go_roundw
        case rel => exact ⟨k + 1, by omega, by go_num, HS, HB2⟩
        case measure => simp [intOf]; omega
      · have HS : Hid (ps.any f = true) := List.any_eq_true.2 ⟨_, HM.out, HF.out⟩
        go_wp2_with fail
        refine HSAY.out.mono ?_
        rintro e w' ⟨rfl, hb'⟩
        have HB2 : Hid (Below w.heap.size w w') := HB.out.trans (hb'.mono HB.out.size)
        clear hb'
        go_wp2
        go_ret
        exact ⟨⟨_, rfl, by show _ = _; rw [HS.out]; exact decide_eq_true (Int.natCast_nonneg _)⟩, HB2.out⟩
    · have hltz : ¬ (k : Int) < (len : Int) := by omega
      have HS : Hid (ps.any f = false) := by
        have := HK.out
        rw [List.take_of_length_le (by have := HL.out; omega)] at this
        exact this
      go_wp2
      go_ret
      exact ⟨⟨_, rfl, by show _ = _; rw [HS.out]; rfl⟩, HB.out⟩
theorem containsQ_any (K : Nat) (lb : Array Value) (f : PsV → Bool) (ps : List PsV) (w : World) (hK : KindQ K lb f ps w) (a0 : Option Addr) (len cap b off : Nat) (hlen : len ≤ 1000000) (hx : Pss w a0 len b off ps) :
    Calls Tryz.prog 10 #[.slice a0 len cap, .func (.func K) #[] lb] w fun e w' => e = .returned (.bool (ps.any f)) ∧ Below w.heap.size w w' := by
  go_enter Tryz.func10, Tryz.ntmps10
  go_wp2_with (go_at_call 18; refine (indexQ_any K lb f ps w hK a0 len cap b off hlen hx).mono ?_; rintro e w'' ⟨⟨r, rfl, HR⟩, hb⟩)
  go_ret
  exact ⟨ret_bool HR.out, hb⟩
end Go.Proofs.YtoblpjknnchlmaaGreatDoor

/- Covers: whether passes allow a request, by the program. -/
namespace Go.Proofs.YtoblpjknnchlmaaGreatDoor
open Go.RowKit

set_option maxRecDepth 100000 in
set_option maxHeartbeats 2000000 in
theorem allowsM (p : PsV) (gm gr : Nat) (m : ByteArray) (wi : Bool) (w : World) (h1 : w.cell? ⟨gm, 0, none⟩ = some (.string m)) (h2 : w.cell? ⟨gr, 11, none⟩ = some (.bool wi)) :
    Calls Tryz.prog 8 #[.agg #[.bool p.fs, .string p.fh, .int .i64 p.fp, .bool p.us, .string p.uh, .int .i64 p.up, .string p.pa, .string p.qu, .bool p.wi, .string p.me, .string p.he, .int .i64 p.un], .pointer (some ⟨gm, 0, none⟩), .pointer (some ⟨gr, 0, none⟩)] w fun e w' => e = .returned (.bool (okM wi m p)) ∧ Below w.heap.size w w' := by
  have HB : Hid (BoxQ 36 w #[.bool p.fs, .string p.fh, .int .i64 p.fp, .bool p.us, .string p.uh, .int .i64 p.up, .string p.pa, .string p.qu, .bool p.wi, .string p.me, .string p.he, .int .i64 p.un] (w.alloc (.cells #[.bool p.fs, .string p.fh, .int .i64 p.fp, .bool p.us, .string p.uh, .int .i64 p.up, .string p.pa, .string p.qu, .bool p.wi, .string p.me, .string p.he, .int .i64 p.un] 36))) := BoxQ.new _ _ _
  have h1' : (w.alloc (.cells #[.bool p.fs, .string p.fh, .int .i64 p.fp, .bool p.us, .string p.uh, .int .i64 p.up, .string p.pa, .string p.qu, .bool p.wi, .string p.me, .string p.he, .int .i64 p.un] 36)).cell? ⟨gm, 0, none⟩ = some (.string m) := (HB.out.bel.cell (p := ⟨gm, 0, none⟩) (lt_cell9 h1)).trans h1
  have h2' : (w.alloc (.cells #[.bool p.fs, .string p.fh, .int .i64 p.fp, .bool p.us, .string p.uh, .int .i64 p.up, .string p.pa, .string p.qu, .bool p.wi, .string p.me, .string p.he, .int .i64 p.un] 36)).cell? ⟨gr, 11, none⟩ = some (.bool wi) := (HB.out.bel.cell (p := ⟨gr, 11, none⟩) (lt_cell9 h2)).trans h2
  have c9 := HB.out.at 9 _ rfl
  obtain ⟨q, HQ⟩ : ∃ q, Hid ((p.me.toList == m.toList) = q) := ⟨_, rfl⟩
  obtain ⟨r, HR⟩ : ∃ r, Hid ((p.me.toList == [42]) = r) := ⟨_, rfl⟩
  have q1 : (p.me.toList == m.toList) = q := HQ.out
  have r1 : (p.me.toList == [42]) = r := HR.out
  have HA : Hid (okM wi m p = (q || (r && !wi))) := by show _ = _; unfold okM; rw [q1, r1]
  clear h1 h2
  go_enter Tryz.func8, Tryz.ntmps8
  cases q
  · cases r
    · go_wp2
      go_ret
      exact ⟨ret_bool (by rw [HA.out]; rfl), HB.out.bel⟩
    · go_wp2
      go_ret
      exact ⟨ret_bool (by rw [HA.out]; simp), HB.out.bel⟩
  · go_wp2
    go_ret
    exact ⟨ret_bool (by rw [HA.out]; rfl), HB.out.bel⟩
set_option maxRecDepth 100000 in
set_option maxHeartbeats 2000000 in
theorem allowsH (p : PsV) (gm gr : Nat) (n : ByteArray) (wi : Bool) (w : World) (h1 : w.cell? ⟨gm, 0, none⟩ = some (.string n)) (h2 : w.cell? ⟨gr, 11, none⟩ = some (.bool wi)) :
    Calls Tryz.prog 12 #[.agg #[.bool p.fs, .string p.fh, .int .i64 p.fp, .bool p.us, .string p.uh, .int .i64 p.up, .string p.pa, .string p.qu, .bool p.wi, .string p.me, .string p.he, .int .i64 p.un], .pointer (some ⟨gm, 0, none⟩), .pointer (some ⟨gr, 0, none⟩)] w fun e w' => e = .returned (.bool (okH wi n p)) ∧ Below w.heap.size w w' := by
  have HB : Hid (BoxQ 36 w #[.bool p.fs, .string p.fh, .int .i64 p.fp, .bool p.us, .string p.uh, .int .i64 p.up, .string p.pa, .string p.qu, .bool p.wi, .string p.me, .string p.he, .int .i64 p.un] (w.alloc (.cells #[.bool p.fs, .string p.fh, .int .i64 p.fp, .bool p.us, .string p.uh, .int .i64 p.up, .string p.pa, .string p.qu, .bool p.wi, .string p.me, .string p.he, .int .i64 p.un] 36))) := BoxQ.new _ _ _
  have h1' : (w.alloc (.cells #[.bool p.fs, .string p.fh, .int .i64 p.fp, .bool p.us, .string p.uh, .int .i64 p.up, .string p.pa, .string p.qu, .bool p.wi, .string p.me, .string p.he, .int .i64 p.un] 36)).cell? ⟨gm, 0, none⟩ = some (.string n) := (HB.out.bel.cell (p := ⟨gm, 0, none⟩) (lt_cell9 h1)).trans h1
  have h2' : (w.alloc (.cells #[.bool p.fs, .string p.fh, .int .i64 p.fp, .bool p.us, .string p.uh, .int .i64 p.up, .string p.pa, .string p.qu, .bool p.wi, .string p.me, .string p.he, .int .i64 p.un] 36)).cell? ⟨gr, 11, none⟩ = some (.bool wi) := (HB.out.bel.cell (p := ⟨gr, 11, none⟩) (lt_cell9 h2)).trans h2
  have c10 := HB.out.at 10 _ rfl
  obtain ⟨q, HQ⟩ : ∃ q, Hid ((p.he.toList == n.toList) = q) := ⟨_, rfl⟩
  obtain ⟨r, HR⟩ : ∃ r, Hid ((p.he.toList == [42]) = r) := ⟨_, rfl⟩
  have q1 : (p.he.toList == n.toList) = q := HQ.out
  have r1 : (p.he.toList == [42]) = r := HR.out
  have HA : Hid (okH wi n p = (q || (r && !wi && !(n.toList == [97, 117, 116, 104, 111, 114, 105, 122, 97, 116, 105, 111, 110])))) := by show _ = _; unfold okH; rw [q1, r1]
  clear h1 h2
  go_enter Tryz.func12, Tryz.ntmps12
  cases q
  · cases r
    · go_wp2
      go_ret
      exact ⟨ret_bool (by rw [HA.out]; rfl), HB.out.bel⟩
    · cases wi
      · go_wp2
        go_ret
        exact ⟨ret_bool (by rw [HA.out]; simp), HB.out.bel⟩
      · go_wp2
        go_ret
        exact ⟨ret_bool (by rw [HA.out]; rfl), HB.out.bel⟩
  · go_wp2
    go_ret
    exact ⟨ret_bool (by rw [HA.out]; rfl), HB.out.bel⟩
theorem kindM (ps : List PsV) (gm gr : Nat) (m : ByteArray) (wi : Bool) (w : World) (h1 : w.cell? ⟨gm, 0, none⟩ = some (.string m)) (h2 : w.cell? ⟨gr, 11, none⟩ = some (.bool wi)) :
    KindQ 8 #[.pointer (some ⟨gm, 0, none⟩), .pointer (some ⟨gr, 0, none⟩)] (okM wi m) ps w :=
  ⟨fun p _ W hW => allowsM p gm gr m wi W ((hW.cell (p := ⟨gm, 0, none⟩) (lt_cell9 h1)).trans h1) ((hW.cell (p := ⟨gr, 11, none⟩) (lt_cell9 h2)).trans h2), enters_at Tryz.func8 (by kernel_rfl) rfl⟩
theorem kindH (ps : List PsV) (gm gr : Nat) (n : ByteArray) (wi : Bool) (w : World) (h1 : w.cell? ⟨gm, 0, none⟩ = some (.string n)) (h2 : w.cell? ⟨gr, 11, none⟩ = some (.bool wi)) :
    KindQ 12 #[.pointer (some ⟨gm, 0, none⟩), .pointer (some ⟨gr, 0, none⟩)] (okH wi n) ps w :=
  ⟨fun p _ W hW => allowsH p gm gr n wi W ((hW.cell (p := ⟨gm, 0, none⟩) (lt_cell9 h1)).trans h1) ((hW.cell (p := ⟨gr, 11, none⟩) (lt_cell9 h2)).trans h2), enters_at Tryz.func12 (by kernel_rfl) rfl⟩
set_option maxRecDepth 100000 in
set_option maxHeartbeats 8000000 in
theorem covers9_any (hs : List Par) (hps : Small8 hs) (ra : Option Addr) (rl rc rb ro : Nat) (hrl : rl ≤ 60) (pt fp up : Int) (fs us wi : Bool) (fh uh pa qu me bo : ByteArray) (hme : me.size ≤ 3000)
    (ps : List PsV) (a0 : Option Addr) (len cap b off : Nat) (hlen : len ≤ 1000000) (w : World) (hm : Methods w) (hh : Pars w ra rl rb ro hs) (hx : Pss w a0 len b off ps) :
    Calls Tryz.prog 5 #[.agg #[.int .i64 pt, .bool fs, .string fh, .int .i64 fp, .bool us, .string uh, .int .i64 up, .string pa, .string qu, .string me, .slice ra rl rc, .bool wi, .string bo], .slice a0 len cap] w fun e w' => e = .returned (.bool (coversL wi (methodB me) (askedL hs) ps)) ∧ Below w.heap.size w w' := by
  have HQ : Hid (BoxQ 28 w #[.int .i64 pt, .bool fs, .string fh, .int .i64 fp, .bool us, .string uh, .int .i64 up, .string pa, .string qu, .string me, .slice ra rl rc, .bool wi, .string bo] (w.alloc (.cells #[.int .i64 pt, .bool fs, .string fh, .int .i64 fp, .bool us, .string uh, .int .i64 up, .string pa, .string qu, .string me, .slice ra rl rc, .bool wi, .string bo] 28))) := BoxQ.new _ _ _
  have HX : Hid (Pss w a0 len b off ps) := hx
  have HH : Hid (Pars w ra rl rb ro hs) := hh
  have HPS : Hid (Small8 hs) := hps
  have hmc := method_any me hme _ (hm.below HQ.out.bel (Nat.le_refl _))
  obtain ⟨m, HM⟩ : ∃ m, Hid (methodB me = m) := ⟨_, rfl⟩
  rw [HM.out] at hmc
  rw [HM.out]
  obtain ⟨xs, HXS⟩ : ∃ xs, Hid (askedL hs = xs) := ⟨_, rfl⟩
  rw [HXS.out]
  have hxl : xs.length ≤ 60 := by
    rw [← HXS.out]
    unfold askedL
    rw [List.length_map]
    have h1 := compact_len (sortL (tx (askedNames hs)))
    have h2 : (tx (askedNames hs)).length = (askedNames hs).length := by unfold tx; simp
    rw [sortL_len, h2] at h1
    have h3 := lens_le hs
    have h4 : (askedNames hs).length ≤ hs.length := by
      unfold askedNames
      split
      · rw [List.length_append]; omega
      · omega
    have := hh.len_eq
    omega
  clear hx hh hps hm
  have c9 := HQ.out.at 9 _ rfl
  go_enter Tryz.func5, Tryz.ntmps5
  go_wp2_with fail
  refine hmc.mono ?_
  rintro e w1 ⟨rfl, hb1⟩
  have HQ1 : Hid (BoxQ 28 w #[.int .i64 pt, .bool fs, .string fh, .int .i64 fp, .bool us, .string uh, .int .i64 up, .string pa, .string qu, .string me, .slice ra rl rc, .bool wi, .string bo] w1) := HQ.out.step hb1
  have HB2 : Hid (Below w1.heap.size w1 (w1.alloc (.cells #[.string m] 9))) := (Below.refl _ _).alloc (Nat.le_refl _) _
  have HQ2 : Hid (BoxQ 28 w #[.int .i64 pt, .bool fs, .string fh, .int .i64 fp, .bool us, .string uh, .int .i64 up, .string pa, .string qu, .string me, .slice ra rl rc, .bool wi, .string bo] (w1.alloc (.cells #[.string m] 9))) := HQ1.out.step HB2.out
  have cm : (w1.alloc (.cells #[.string m] 9)).cell? ⟨w1.heap.size, 0, none⟩ = some (.string m) := World.cell?_alloc_mark _ _ _ _ _
  have HCM : Hid ((w1.alloc (.cells #[.string m] 9)).cell? ⟨w1.heap.size, 0, none⟩ = some (.string m)) := cm
  have hlt1 := HQ1.out.lt
  clear hmc hb1 c9 HQ HQ1
  obtain ⟨z, HZ⟩ : ∃ z, Hid (simpleL m.toList = z) := ⟨_, rfl⟩
  have hsm := fun W => simple_any m W
  rw [HZ.out] at hsm
  have HW2 : Hid (Below w.heap.size w (w1.alloc (.cells #[.string m] 9))) := HQ2.out.bel
  have HCT : Hid (∀ (K : Nat) (lb : Array Value) (f : PsV → Bool) (W : World), Below w.heap.size w W → KindQ K lb f ps W → Calls Tryz.prog 10 #[.slice a0 len cap, .func (.func K) #[] lb] W fun e w' => e = .returned (.bool (ps.any f)) ∧ Below W.heap.size W w') :=
    fun K lb f W hW hk => containsQ_any K lb f ps W hk a0 len cap b off hlen (HX.out.below hW)
  obtain ⟨u, HU⟩ : ∃ u, Hid (ps.any (okM wi m) = u) := ⟨_, rfl⟩
  go_upto_region 3 with fail
  generalize hW : w1.alloc (.cells #[.string m] 9) = W2 at HB2 HQ2 HCM HW2 cm ⊢
  have HG : Hid (w1.heap.size < W2.heap.size) := by show _ < _; rw [← hW]; simp
  obtain ⟨gm, HGM⟩ : ∃ gm, Hid (w1.heap.size = gm) := ⟨_, rfl⟩
  rw [HGM.out] at HCM HG cm hlt1 ⊢
  clear hW
  have HKM : Hid (∀ W, Below W2.heap.size W2 W → KindQ 8 #[.pointer (some ⟨gm, 0, none⟩), .pointer (some ⟨w.heap.size, 0, none⟩)] (okM wi m) ps W) := fun W hW =>
    kindM ps gm w.heap.size m wi W ((hW.cell (p := ⟨gm, 0, none⟩) (lt_cell9 HCM.out)).trans HCM.out) ((HQ2.out.step hW).at 11 _ rfl)
  go_cut [22] (fun v wc => v = .bool (!(z || u)) ∧ Hid (Below W2.heap.size W2 wc))
  case first =>
    go_wp2_with fail
    refine (hsm _).mono ?_
    rintro e w3 ⟨rfl, hw3⟩
    obtain rfl := hw3.symm
    cases z
    · go_wp2_with fail
      refine (HCT.out _ _ _ _ HW2.out (HKM.out _ (Below.refl _ _))).mono ?_
      rintro e w4 ⟨rfl, hb4⟩
      rw [HU.out]
      have HB4 : Hid (Below W2.heap.size W2 w4) := hb4
      clear hb4
      go_wp2
      go_meet
      exact ⟨rfl, HB4⟩
    · go_wp2
      go_meet
      exact ⟨rfl, Below.refl _ _⟩
  case rest =>
  obtain ⟨rfl, HBC⟩ := hcut
  clear hsm cm
  have HA : Hid (coversL wi m xs ps = ((z || u) && xs.all fun n => ps.any (okH wi n))) := by show _ = _; unfold coversL; rw [HZ.out, HU.out]
  cases hzu : (z || u)
  · have HE : Hid (coversL wi m xs ps = false) := by show _ = _; rw [HA.out, hzu]; rfl
    have HB4 : Hid (Below w.heap.size w wc) := HQ2.out.inB HBC.out
    go_wp2
    go_ret
    exact ⟨ret_bool HE.out.symm, HB4.out⟩
  have HE : Hid (coversL wi m xs ps = xs.all fun n => ps.any (okH wi n)) := by show _ = _; rw [HA.out, hzu, Bool.true_and]
  clear hzu HA HZ HU HKM HCM
  have HQC : Hid (BoxQ 28 w #[.int .i64 pt, .bool fs, .string fh, .int .i64 fp, .bool us, .string uh, .int .i64 up, .string pa, .string qu, .string me, .slice ra rl rc, .bool wi, .string bo] wc) := HQ2.out.step HBC.out
  have c10 := HQC.out.at 10 _ rfl
  go_wp2_with fail
  refine (asked8_any hs HPS.out ra rl rc rb ro hrl _ (HH.out.below HQC.out.bel)).mono ?_
  rintro e w5 ⟨⟨v, rfl, hown⟩, hb5⟩
  rw [HXS.out] at hown
  obtain ⟨xa, xc, xg, rfl, hst⟩ := hown.strs
  have HQ5 : Hid (BoxQ 28 w #[.int .i64 pt, .bool fs, .string fh, .int .i64 fp, .bool us, .string uh, .int .i64 up, .string pa, .string qu, .string me, .slice ra rl rc, .bool wi, .string bo] w5) := HQC.out.step hb5
  have HS5 : Hid (Strs w5 xa xs.length xg 0 xs) := hst
  clear hown hb5 hst c10 HQC HBC HQ2 HB2
  obtain ⟨n, HN⟩ : ∃ n, Hid (xs.length = n) := ⟨_, rfl⟩
  rw [HN.out] at HS5 hxl ⊢
  go_wp2
  go_loopw [27] (fun i wr => ∃ k : Nat, k ≤ n ∧ i = .int .i64 k ∧ Hid (Below w5.heap.size w5 wr) ∧ Hid (((xs.take k).all fun n => ps.any (okH wi n)) = true)) (fun i _ => n - (intOf i).toNat)
  case atStart => exact ⟨0, Nat.zero_le _, rfl, Below.refl _ _, rfl⟩
  case round =>
    obtain ⟨k, hk, rfl, HBR, HK⟩ := hrel
    by_cases hlt : k < n
    · have hltz : (k : Int) < (n : Int) := by omega
      obtain ⟨x, hx⟩ : ∃ x, xs[k]? = some x := ⟨xs[k]'(by have := HN.out; omega), List.getElem?_eq_getElem _⟩
      have HXK : Hid (xs[k]? = some x) := hx
      obtain ⟨ha, _⟩ := HS5.out.lies (by omega)
      subst ha
      have cx : wr.cell? ⟨xg, k, none⟩ = some (.string x) := by
        have := (HS5.out.below HBR.out).cells k x hx
        rwa [Nat.zero_add] at this
      have HBA : Hid (Below wr.heap.size wr (wr.alloc (.cells #[.string x] 9))) := (Below.refl _ _).alloc (Nat.le_refl _) _
      have cn : (wr.alloc (.cells #[.string x] 9)).cell? ⟨wr.heap.size, 0, none⟩ = some (.string x) := World.cell?_alloc_mark _ _ _ _ _
      have HQA : Hid (BoxQ 28 w #[.int .i64 pt, .bool fs, .string fh, .int .i64 fp, .bool us, .string uh, .int .i64 up, .string pa, .string qu, .string me, .slice ra rl rc, .bool wi, .string bo] (wr.alloc (.cells #[.string x] 9))) := (HQ5.out.step HBR.out).step HBA.out
      have HKH : Hid (KindQ 12 #[.pointer (some ⟨wr.heap.size, 0, none⟩), .pointer (some ⟨w.heap.size, 0, none⟩)] (okH wi x) ps (wr.alloc (.cells #[.string x] 9))) := kindH ps _ _ x wi _ cn (HQA.out.at 11 _ rfl)
      obtain ⟨t, HTT⟩ : ∃ t, Hid (ps.any (okH wi x) = t) := ⟨_, rfl⟩
      clear hx cn
      go_wp2_with fail
      refine (HCT.out _ _ _ _ HQA.out.bel HKH.out).mono ?_
      rintro e w6 ⟨rfl, hb6⟩
      rw [HTT.out]
      have HB6 : Hid (Below w5.heap.size w5 w6) := HBR.out.trans ((HBA.out.trans (hb6.mono HBA.out.size)).mono HBR.out.size)
      clear hb6 cx
      cases t
      · have HEE : Hid (coversL wi m xs ps = false) := by show _ = _; rw [HE.out]; exact not_all HXK.out HTT.out
        go_wp2
        go_ret
        exact ⟨ret_bool HEE.out.symm, HQ5.out.inB HB6.out⟩
      · have HKK : Hid (((xs.take (k + 1)).all fun n => ps.any (okH wi n)) = true) := take_all HK.out HXK.out HTT.out
        go_wp2
        go_roundw
        case rel => exact ⟨k + 1, by omega, by go_num, HB6, HKK⟩
        case measure => simp [intOf]; omega
    · have hltz : ¬ (k : Int) < (n : Int) := by omega
      have HEE : Hid (coversL wi m xs ps = true) := by
        have := HK.out
        rw [List.take_of_length_le (by have := HN.out; omega)] at this
        show _ = _
        rw [HE.out]
        exact this
      go_wp2
      go_ret
      exact ⟨ret_bool HEE.out.symm, HQ5.out.inB HBR.out⟩
end Go.Proofs.YtoblpjknnchlmaaGreatDoor
