/- The words of a list, by the document's own answer. -/
import Derived.Test.YtapgbckpiffgnaaDoorLst
import Derived.Test.YtapgbckpiffgnaaDoorSrs
import Derived.Test.YtapgbckpiffgnaaDoorSplO
import Derived.Test.YtapgbckpiffgnaaDoorTkR
import Derived.Test.YtapgbckpiffgnaaDoorTkRef
import Derived.Test.YtapgbckpiffgnaaDoorShTrim
import Derived.Test.YtapgbckpiffgnaaDoorShIx
import Derived.Deep.Onto
namespace Go.Proofs.YtapgbckpiffgnaaDoor
open Go.RowKit Go.Shelf

/-- The library's own bound, whatever it is. -/
def MaxL (w : World) : Prop := (∃ m : Int, w.cell? ⟨0, 0, none⟩ = some (.int .i64 m)) ∧ 0 < w.heap.size
theorem MaxL.below {w w' : World} (h : MaxL w) (hb : Below w.heap.size w w') : MaxL w' := by
  obtain ⟨⟨m, hm⟩, hl⟩ := h
  exact ⟨⟨m, (hb.cell (p := ⟨0, 0, none⟩) hl).trans hm⟩, Nat.lt_of_lt_of_le hl hb.size⟩
theorem index_any (s sub : ByteArray) (hs : s.size ≤ 5000) (w : World) (h : MaxL w) :
    Calls Tryd.prog 47 #[.string s, .string sub] w fun e w' => e = .returned (.int .i64 (Lib.index s.data.toList sub.data.toList)) ∧ w' = w := by
  obtain ⟨⟨m, hm⟩, _⟩ := h
  exact Any.strings_Index { laysM143 with } s sub m w (by omega) hm
theorem trimBoth_any (p : ByteArray) (hp : p.size ≤ 5000) (w : World) :
    Calls Tryd.prog 46 #[.string p, .string ⟨#[32, 9]⟩] w fun e w' => ∃ t : ByteArray, e = .returned (.string t) ∧ Hid (t.data.toList = trimP p.data.toList) ∧ t.size ≤ p.size ∧ Below w.heap.size w w' := by
  refine (Any.strings_Trim_laid lays160 (by kernel_rfl) p ⟨#[32, 9]⟩ w (by omega) (by decide) (ascii_of_all (by decide))).mono ?_
  rintro e w' ⟨rfl, hb⟩
  have e1 : (⟨(Lib.trimS p.data.toList (⟨#[32, 9]⟩ : ByteArray).data.toList).toArray⟩ : ByteArray) = bs (trimP p.data.toList) := by
    show bs (Lib.trimS p.data.toList [32, 9]) = _
    rw [trimS_is]
  refine ⟨bs (trimP p.data.toList), by rw [e1], bs_data _, ?_, hb⟩
  rw [bs_size, ← len_data p]
  exact trim_length _
/-- What is known of the whole behind k bytes, by the parts that are left. -/
def PartsAt (l : List UInt8) (ws : List (List UInt8)) (k : Nat) (ps : List (List UInt8)) : Prop := listP 0 (splitL 44 l) = (listP k ps).map (ws ++ ·)
theorem parts_next {l : List UInt8} {ws : List (List UInt8)} {k : Nat} {p : List UInt8} {r : List (List UInt8)} (h : PartsAt l ws k (p :: r)) (hr : restP p = []) : PartsAt l (ws ++ consW (wordP p) []) (k + p.length + 1) r := by
  unfold PartsAt at *
  rw [h, listP, if_pos hr, map_map_ex]
  congr 1
  funext y
  rw [consW_app]
theorem parts_bad {l : List UInt8} {ws : List (List UInt8)} {k : Nat} {p : List UInt8} {r : List (List UInt8)} (h : PartsAt l ws k (p :: r)) (hr : restP p ≠ []) : listP 0 (splitL 44 l) = .error (k + (p.length - (restP p).length)) := by
  unfold PartsAt at h
  rw [h, listP, if_neg hr]
  rfl
theorem parts_end {l : List UInt8} {ws : List (List UInt8)} {k : Nat} (h : PartsAt l ws k []) : listP 0 (splitL 44 l) = .ok ws := by
  unfold PartsAt at h
  rw [h, listP]
  show Except.ok (ws ++ []) = _
  rw [List.append_nil]
theorem drop_texts (ps : List ByteArray) (j : Nat) (p : ByteArray) (h : ps[j]? = some p) : (texts ps).drop j = p.data.toList :: (texts ps).drop (j + 1) := by
  obtain ⟨hl, e⟩ := List.getElem?_eq_some_iff.1 h
  unfold texts
  rw [List.drop_eq_getElem_cons (by rw [List.length_map]; exact hl), List.getElem_map, e]
theorem fault_end {w : World} {b : Nat} {u v : Value} (h0 : w.cell? ⟨b, 0, none⟩ = some u) (h1 : w.cell? ⟨b, 1, none⟩ = some v) (x y : Value) :
    ((w.setCell ⟨b, 0, none⟩ x).setCell ⟨b, 1, none⟩ y).cell? ⟨b, 0, none⟩ = some x ∧ ((w.setCell ⟨b, 0, none⟩ x).setCell ⟨b, 1, none⟩ y).cell? ⟨b, 1, none⟩ = some y := by
  have e1 : (w.setCell ⟨b, 0, none⟩ x).cell? ⟨b, 1, none⟩ = some v := by
    rw [World.cell?_setCell_other _ _ _ _ (by intro e; injection e with _ e2; omega)]
    exact h1
  refine ⟨?_, World.cell?_setCell_same _ _ _ e1⟩
  rw [World.cell?_setCell_other _ _ _ _ (by intro e; injection e with _ e2; omega)]
  exact World.cell?_setCell_same _ _ _ h0
theorem bareF_any (n : Int) (w : World) : Calls Tryd.prog 48 #[.int .i64 n] w fun e w' => e = .returned (.agg #[.int .i64 n, .int .i64 (-1)]) ∧ Below w.heap.size w w' := by
  go_enter Tryd.func48, Tryd.ntmps48
  go_wp2
  refine bodyPost_ret (v := .agg #[.int .i64 n, .int .i64 (-1)]) (by simp [results, Tryd.f48, go_sem]) rfl ⟨rfl, ?_⟩
  first | exact (Below.refl _ _).alloc (Nat.le_refl _) _ | exact (((Below.refl _ _).alloc (Nat.le_refl _) _).setCell (Nat.le_refl _) _).setCell (Nat.le_refl _) _
theorem goodF_any (w : World) : Calls Tryd.prog 49 #[] w fun e w' => e = .returned (.agg #[.int .i64 0, .int .i64 (-1)]) ∧ Below w.heap.size w w' := by
  go_enter Tryd.func49, Tryd.ntmps49
  go_wp2
  refine bodyPost_ret (v := .agg #[.int .i64 0, .int .i64 (-1)]) (by simp [results, Tryd.f49, go_sem]) rfl ⟨rfl, ?_⟩
  first | exact (Below.refl _ _).alloc (Nat.le_refl _) _ | exact (((Below.refl _ _).alloc (Nat.le_refl _) _).setCell (Nat.le_refl _) _).setCell (Nat.le_refl _) _
def RLAns (s : ByteArray) (B : Nat) (e : Ending) (w' : World) : Prop :=
  (∃ (xs : List ByteArray) (v : Value), listP 0 (splitL 44 s.data.toList) = .ok (texts xs) ∧ xs.length ≤ 40 ∧ e = .returned (.tuple #[v, .agg #[.int .i64 0, .int .i64 (-1)]]) ∧ OwnS w' B v xs) ∨
  (∃ xs : List ByteArray, listP 0 (splitL 44 s.data.toList) = .ok (texts xs) ∧ 40 < xs.length ∧ e = .returned (.tuple #[.slice none 0 0, .agg #[.int .i64 4, .int .i64 (-1)]])) ∨
  (∃ p : Nat, listP 0 (splitL 44 s.data.toList) = .error p ∧ e = .returned (.tuple #[.slice none 0 0, .agg #[.int .i64 3, .int .i64 (p : Int)]]))
set_option maxRecDepth 100000 in
set_option maxHeartbeats 4000000 in
theorem refList_any (s : ByteArray) (hs : s.size ≤ 300) (w : World) (hM : MaxL w) :
    Calls Tryd.prog 25 #[.string s] w fun e w' => RLAns s w.heap.size e w' ∧ Below w.heap.size w w' := by
  have HM : Hid (MaxL w) := hM
  clear hM
  go_enter Tryd.func25, Tryd.ntmps25
  go_wp2_with (go_at_call 45; refine (split_one s 44 (by omega) _).mono ?_; rintro e w1 ⟨ps, rfl, hpl, hw1', HPS⟩; have HW1 : Hid (w1 = (w.alloc (.cells #[.int .i64 0, .int .i64 0] 47)).alloc (.cells (ps.map Value.string).toArray 9)) := hw1'; clear hw1')
  have hw1 := HW1.out
  have hz1 : w1.heap.size = w.heap.size + 2 := by rw [hw1]; simp
  have hf1 : w1.heap[w.heap.size]? = some (.cells #[.int .i64 0, .int .i64 0] 47 (0, 0)) := by
    rw [hw1, Below.heap_alloc _ _ _ (by simp)]
    exact heap_alloc_new w _
  have hp1 : ∀ (j : Nat) (p : ByteArray), ps[j]? = some p → w1.cell? ⟨w.heap.size + 1, j, none⟩ = some (.string p) := by
    intro j p hj
    rw [hw1]
    have := cells_at (w.alloc (.cells #[.int .i64 0, .int .i64 0] 47)) (ps.map Value.string).toArray 9 j
    simp only [World.size_alloc] at this
    rw [this]
    simp [hj]
  have hb1 : Below w.heap.size w w1 := by
    rw [hw1]
    exact ((Below.refl _ _).alloc (Nat.le_refl _) _).alloc (by simp) _
  have HF1 : Hid (w1.heap[w.heap.size]? = some (.cells #[.int .i64 0, .int .i64 0] 47 (0, 0))) := hf1
  have HP1 : Hid (∀ (j : Nat) (p : ByteArray), ps[j]? = some p → w1.cell? ⟨w.heap.size + 1, j, none⟩ = some (.string p)) := hp1
  have HPZ : Hid (∀ p ∈ ps, p.size ≤ s.size) := by
    intro p hp
    have := part_size 44 s.data.toList p.data.toList (by rw [← HPS.out]; exact List.mem_map.2 ⟨p, hp, rfl⟩)
    rw [len_data, len_data] at this
    exact this
  clear hf1 hp1 hw1 HW1
  go_loopw [4, 5, 14] (fun v u i wr => ∃ (j k n cap : Nat) (a : Option Addr) (xs : List ByteArray), j ≤ ps.length ∧ k ≤ 301 * j ∧ n ≤ j ∧ i = .int .i64 j ∧ u = .int .i64 k ∧ v = .slice a n cap ∧ Hid (OwnS wr (w.heap.size + 2) (.slice a n cap) xs ∧ xs.length = n ∧ PartsAt s.data.toList (texts xs) k ((texts ps).drop j)) ∧ Below (w.heap.size + 2) w1 wr) (fun _ _ i _ => ps.length - (intOf i).toNat)
  case atStart => exact ⟨0, 0, 0, 0, none, [], Nat.zero_le _, Nat.zero_le _, Nat.le_refl _, rfl, rfl, rfl, ⟨ownS_nil _ _, rfl, by unfold PartsAt; rw [List.drop_zero, show texts ps = splitL 44 s.data.toList from HPS.out]; cases listP 0 (splitL 44 s.data.toList) <;> rfl⟩, Below.refl _ _⟩
  case round =>
    obtain ⟨j, k, n, cap, a, xs, hj, hk, hn, rfl, rfl, rfl, HO, hb⟩ := hrel
    have hwz : w.heap.size + 2 ≤ wr.heap.size := by have := hb.size; omega
    by_cases hlt : j < ps.length
    · obtain ⟨p, hpj⟩ : ∃ p, ps[j]? = some p := ⟨ps[j], List.getElem?_eq_getElem hlt⟩
      have hpz := HPZ.out p (List.mem_of_getElem? hpj)
      have hcell : wr.cell? ⟨w.heap.size + 1, j, none⟩ = some (.string p) := (hb.cell (p := ⟨w.heap.size + 1, j, none⟩) (by show w.heap.size + 1 < w.heap.size + 2; omega)).trans (HP1.out j p hpj)
      have HD : Hid ((texts ps).drop j = p.data.toList :: (texts ps).drop (j + 1)) := drop_texts ps j p hpj
      have HPA : Hid (PartsAt s.data.toList (texts xs) k (p.data.toList :: (texts ps).drop (j + 1))) := by have := HO.out.2.2; rw [HD.out] at this; exact this
      clear hpj
      go_wp2_with fail
      refine (trimBoth_any p (by omega) _).mono ?_
      rintro e w2 ⟨t, rfl, HT, htz, hb2⟩
      have HB2 : Hid (Below (w.heap.size + 2) w1 w2 ∧ OwnS w2 (w.heap.size + 2) (.slice a n cap) xs ∧ w.heap.size + 2 ≤ w2.heap.size) := ⟨hb.trans (hb2.mono hwz), HO.out.1.below hb2, Nat.le_trans hwz hb2.size⟩
      clear hb2 hcell
      by_cases ht0 : t.size = 0
      · have HE : Hid (restP p.data.toList = [] ∧ wordP p.data.toList = []) := part_none _ (by rw [← HT.out]; exact List.eq_nil_of_length_eq_zero (by rw [len_data]; exact ht0))
        have HN : Hid (PartsAt s.data.toList (texts xs) (k + p.size + 1) ((texts ps).drop (j + 1))) := by
          have := parts_next HPA.out HE.out.1
          rw [HE.out.2, len_data] at this
          unfold consW at this
          rw [if_pos rfl, List.append_nil] at this
          exact this
        obtain rfl := empty_at ht0
        go_wp2
        go_roundw
        case rel => exact ⟨j + 1, k + p.size + 1, n, cap, a, xs, by omega, by omega, by omega, by go_num, by push_cast; rfl, rfl, ⟨HB2.out.2.1, HO.out.2.1, HN⟩, HB2.out.1⟩
        case measure => simp [intOf]; omega
      · have hne := not_empty_at ht0
        cases hi : isL t.data.toList
        · obtain ⟨hr1, hr2, hr3⟩ := part_bad p.data.toList (by rw [← HT.out]; intro e; have := len_data t; rw [e] at this; exact ht0 this.symm) (by rw [← HT.out]; exact hi)
          rw [← HT.out] at hr2 hr3
          have HA0 : Hid (listP 0 (splitL 44 s.data.toList) = .error (k + (p.size - (restP p.data.toList).length))) := by have := parts_bad HPA.out hr1; rw [len_data] at this; exact this
          obtain ⟨ix, HIX⟩ : ∃ ix : Nat, Hid (runL blankB p.data.toList = ix) := ⟨_, rfl⟩
          obtain ⟨bn, HBN⟩ : ∃ bn : Nat, Hid (badN t.data.toList = bn) := ⟨_, rfl⟩
          rw [len_data, HIX.out, HBN.out] at hr2
          rw [HIX.out] at hr3
          have HA : Hid (listP 0 (splitL 44 s.data.toList) = .error (k + (ix + bn))) := by have := HA0.out; rw [hr2] at this; exact this
          have HR3 : Hid (Lib.index p.data.toList t.data.toList = (ix : Int)) := hr3
          have hix : ix ≤ p.size := by rw [← HIX.out, ← len_data]; exact runL_le _ _
          obtain ⟨n1, HN1⟩ : ∃ n1 : Nat, Hid (runL tokB t.data.toList = n1) := ⟨_, rfl⟩
          have hn1 : n1 ≤ t.size := by rw [← HN1.out, ← len_data]; exact runL_le _ _
          obtain ⟨n2, HN2⟩ : ∃ n2 : Nat, Hid (runL blankB (t.data.toList.drop n1) = n2) := ⟨_, rfl⟩
          have hn2 : n1 + n2 ≤ t.size := by
            have := runL_le blankB (t.data.toList.drop n1)
            rw [HN2.out, List.length_drop, len_data] at this
            omega
          have hML : MaxL w2 := by
            have h1 := HM.out.below hb1
            obtain ⟨⟨m, hm⟩, hl⟩ := h1
            have hlw : 0 < w.heap.size := HM.out.2
            exact ⟨⟨m, (HB2.out.1.cell (p := ⟨0, 0, none⟩) (by show 0 < w.heap.size + 2; omega)).trans hm⟩, by have := HB2.out.2.2; omega⟩
          have HML : Hid (MaxL w2) := hML
          clear hr1 hr2 hr3 hML HA0
          go_wp2_with (go_at_call 43; refine (refToken_any t (by omega) _).mono ?_; rintro e w3 ⟨rfl, hw⟩; obtain rfl := hw.symm; rw [hi])
          refine (index_any p t (by omega) _ HML.out).mono ?_
          rintro e w3 ⟨rfl, hw⟩
          obtain rfl := hw.symm
          rw [HR3.out]
          have hfw : w2.heap[w.heap.size]? = some (.cells #[.int .i64 0, .int .i64 0] 47 (0, 0)) := (HB2.out.1.block _ (by omega)).trans HF1.out
          have f0 : w2.cell? ⟨w.heap.size, 0, none⟩ = some (.int .i64 0) := by simp [World.cell?, hfw]
          have f1 : w2.cell? ⟨w.heap.size, 1, none⟩ = some (.int .i64 0) := by simp [World.cell?, hfw]
          have g0 : w2.frozen? ⟨w.heap.size, 0, none⟩ = false := by simp [World.frozen?, hfw]
          have g1 : w2.frozen? ⟨w.heap.size, 1, none⟩ = false := by simp [World.frozen?, hfw]
          have hBw : Below w.heap.size w w2 := hb1.trans (HB2.out.1.mono (by omega))
          have HBw : Hid (Below w.heap.size w w2) := hBw
          have htA : t.data.toList.all tokB = false := by
            cases h : t.data.toList.all tokB
            · rfl
            · have := (runL_all tokB t.data.toList).2 h
              have h2 := isL_run t (by omega)
              rw [this, len_data] at h2
              rw [h2] at hi
              simp at hi
          have HTA : Hid (t.data.toList.all tokB = false) := htA
          clear hfw hBw htA
          go_wp2
          go_loop [10] (fun u => ∃ m : Nat, m ≤ t.size ∧ u = .int .i64 m ∧ Hid ((t.data.toList.take m).all tokB = true)) (fun u => t.size - (intOf u).toNat)
          case atStart => exact ⟨0, Nat.zero_le _, rfl, rfl⟩
          case round =>
            obtain ⟨m, hm, rfl, HK⟩ := hrel
            have hmlt : m < t.size := by
              rcases Nat.lt_or_ge m t.size with h | h
              · exact h
              · have h5 := HK.out
                rw [List.take_of_length_le (by rw [len_data]; omega), HTA.out] at h5
                cases h5
            obtain ⟨c, hcd⟩ : ∃ c : UInt8, t[m] = c := ⟨_, rfl⟩
            have hcl : (c.toNat : Int) < 256 := by have := c.toNat_lt; omega
            cases hf : tokB c
            · obtain rfl : n1 = m := by rw [← HN1.out]; exact run_part tokB t m hmlt c hcd HK hf
              by_cases hz : n1 = 0
              · have HB0 : Hid (bn = 0) := by
                  show _ = _
                  rw [← HBN.out]
                  unfold badN
                  rw [if_pos (by rw [HN1.out]; exact hz)]
                have hz0 : ¬ (0 : Int) < (n1 : Int) := by omega
                have HZ : Hid (n1 = 0) := hz
                clear hz
                go_wp2_with (go_at_call 34; refine (refByte_any c _).mono ?_; rintro e w' ⟨rfl, hw⟩; obtain rfl := hw.symm; rw [hf])
                obtain ⟨e0, e1⟩ := fault_end f0 f1 (.int .i64 3) (.int .i64 ((k : Int) + (ix : Int) + (n1 : Int)))
                refine bodyPost_ret (v := .tuple #[.slice none 0 0, .agg #[.int .i64 3, .int .i64 ((k : Int) + (ix : Int) + (n1 : Int))]]) (by simp [results, Tryd.f25, go_sem, e0, e1]) rfl ⟨.inr (.inr ⟨k + (ix + bn), HA, ?_⟩), (HBw.out.setCell (p := ⟨w.heap.size, 0, none⟩) (Nat.le_refl _) _).setCell (p := ⟨w.heap.size, 1, none⟩) (Nat.le_refl _) _⟩
                rw [show ((k : Int) + (ix : Int) + (n1 : Int) : Int) = ((k + (ix + bn) : Nat) : Int) by have := HB0.out; have := HZ.out; omega]
              · have HB0 : Hid (bn = n1 + n2) := by
                  show _ = _
                  rw [← HBN.out]
                  unfold badN
                  rw [if_neg (by rw [HN1.out]; exact hz), HN1.out, HN2.out]
                have hz0 : (0 : Int) < (n1 : Int) := by omega
                have HZ : Hid (n1 ≠ 0) := hz
                clear hz
                go_wp2_with (go_at_call 34; refine (refByte_any c _).mono ?_; rintro e w' ⟨rfl, hw⟩; obtain rfl := hw.symm; rw [hf])
                go_loop [10] (fun u => ∃ q : Nat, n1 + q ≤ t.size ∧ u = .int .i64 ((n1 + q : Nat) : Int) ∧ Hid (((t.data.toList.drop n1).take q).all blankB = true)) (fun u => t.size - (intOf u).toNat)
                case atStart => exact ⟨0, by omega, rfl, rfl⟩
                case round =>
                  obtain ⟨q, hq, rfl, HK2⟩ := hrel
                  obtain ⟨z, hz1⟩ : ∃ z : Nat, n1 + q = z := ⟨_, rfl⟩
                  have HZ1 : Hid (n1 + q = z) := hz1
                  rw [hz1] at hq ⊢
                  clear hz1
                  by_cases hlt3 : z < t.size
                  · obtain ⟨d, hdd⟩ : ∃ d : UInt8, t[z] = d := ⟨_, rfl⟩
                    have hdl : (d.toNat : Int) < 256 := by have := d.toNat_lt; omega
                    have HDR : Hid ((t.data.toList.drop n1)[q]? = some d) := by
                      show _ = _
                      rw [List.getElem?_drop, HZ1.out, ← hdd]
                      exact List.getElem?_eq_getElem (l := t.data.toList) (by rw [len_data]; exact hlt3)
                    cases hbd : blankB d
                    · have HQ2 : Hid (q = n2) := by
                        obtain ⟨hl, e⟩ := List.getElem?_eq_some_iff.1 HDR.out
                        have := runL_stop blankB _ q hl HK2.out (by rw [e]; exact hbd)
                        rw [HN2.out] at this
                        exact this.symm
                      have d32 : ((d.toNat : Int) == 32) = false := beq_eq_false_iff_ne.2 fun h => by rw [blankB_32 d h] at hbd; cases hbd
                      have d9 : ((d.toNat : Int) == 9) = false := beq_eq_false_iff_ne.2 fun h => by rw [blankB_9 d h] at hbd; cases hbd
                      go_wp2
                      obtain ⟨e0, e1⟩ := fault_end f0 f1 (.int .i64 3) (.int .i64 ((k : Int) + (ix : Int) + (z : Int)))
                      refine bodyPost_ret (v := .tuple #[.slice none 0 0, .agg #[.int .i64 3, .int .i64 ((k : Int) + (ix : Int) + (z : Int))]]) (by simp [results, Tryd.f25, go_sem, e0, e1]) rfl ⟨.inr (.inr ⟨k + (ix + bn), HA, ?_⟩), (HBw.out.setCell (p := ⟨w.heap.size, 0, none⟩) (Nat.le_refl _) _).setCell (p := ⟨w.heap.size, 1, none⟩) (Nat.le_refl _) _⟩
                      rw [show ((k : Int) + (ix : Int) + (z : Int) : Int) = ((k + (ix + bn) : Nat) : Int) by have := HB0.out; have := HQ2.out; have := HZ1.out; omega]
                    · have HS2 : Hid (((t.data.toList.drop n1).take (q + 1)).all blankB = true) := by
                        obtain ⟨hl, e⟩ := List.getElem?_eq_some_iff.1 HDR.out
                        show _ = _
                        rw [List.take_succ_eq_append_getElem hl, e, List.all_append, HK2.out]
                        simp [hbd]
                      have hor : ((d.toNat : Int) == 32) = true ∨ (((d.toNat : Int) == 32) = false ∧ ((d.toNat : Int) == 9) = true) := by
                        by_cases h1 : (d.toNat : Int) = 32
                        · exact .inl (beq_iff_eq.2 h1)
                        · by_cases h2 : (d.toNat : Int) = 9
                          · exact .inr ⟨beq_eq_false_iff_ne.2 h1, beq_iff_eq.2 h2⟩
                          · rw [blankB_no d h1 h2] at hbd; cases hbd
                      rcases hor with d32 | ⟨d32, d9⟩
                      all_goals
                        go_wp2
                        go_round
                        case rel => exact ⟨q + 1, by have := HZ1.out; omega, by rw [show n1 + (q + 1) = z + 1 by have := HZ1.out; omega]; go_num, HS2⟩
                        case measure => simp [intOf]; omega
                  · have HQ2 : Hid (q = n2) := by
                      show _ = _
                      have h5 : ((t.data.toList.drop n1)).length = q := by rw [List.length_drop, len_data]; have := HZ1.out; omega
                      have h6 := HK2.out
                      rw [List.take_of_length_le (by omega)] at h6
                      have := (runL_all blankB _).2 h6
                      rw [HN2.out, h5] at this
                      exact this.symm
                    go_wp2
                    obtain ⟨e0, e1⟩ := fault_end f0 f1 (.int .i64 3) (.int .i64 ((k : Int) + (ix : Int) + (z : Int)))
                    refine bodyPost_ret (v := .tuple #[.slice none 0 0, .agg #[.int .i64 3, .int .i64 ((k : Int) + (ix : Int) + (z : Int))]]) (by simp [results, Tryd.f25, go_sem, e0, e1]) rfl ⟨.inr (.inr ⟨k + (ix + bn), HA, ?_⟩), (HBw.out.setCell (p := ⟨w.heap.size, 0, none⟩) (Nat.le_refl _) _).setCell (p := ⟨w.heap.size, 1, none⟩) (Nat.le_refl _) _⟩
                    rw [show ((k : Int) + (ix : Int) + (z : Int) : Int) = ((k + (ix + bn) : Nat) : Int) by have := HB0.out; have := HQ2.out; have := HZ1.out; omega]
            · have HS : Hid ((t.data.toList.take (m + 1)).all tokB = true) := all_snoc tokB t m hmlt c hcd HK hf
              go_wp2_with (go_at_call 34; refine (refByte_any c _).mono ?_; rintro e w' ⟨rfl, hw⟩; obtain rfl := hw.symm; rw [hf])
              go_round
              case rel => exact ⟨m + 1, by omega, by go_num, HS⟩
              case measure => simp [intOf]; omega
        · have HE : Hid (restP p.data.toList = [] ∧ wordP p.data.toList = t.data.toList) := by
            have := part_word p.data.toList (by rw [← HT.out]; exact hi)
            rw [← HT.out] at this
            exact this
          have HN : Hid (PartsAt s.data.toList (texts (xs ++ [t])) (k + p.size + 1) ((texts ps).drop (j + 1))) := by
            have := parts_next HPA.out HE.out.1
            rw [len_data] at this
            rw [texts_snoc xs t _ HE.out.2.symm ht0]
            exact this
          go_wp2_with (first | (go_at_call 43; refine (refToken_any t (by omega) _).mono ?_; rintro e w3 ⟨rfl, hw⟩; obtain rfl := hw.symm; rw [hi]) | (at_builtin; refine wp_apps rfl _ _ rfl (w.heap.size + 2) w2 (.slice a n cap) xs n rfl HB2.out.2.1 HO.out.2.1 (by omega) HB2.out.2.2 t rfl ?_; intro g4 cap4 w4 hown4 hg4 hlt4; have HO4 : Hid (OwnS w4 (w.heap.size + 2) (.slice (some ⟨g4, 0, none⟩) (n + 1) cap4) (xs ++ [t]) ∧ Below (w.heap.size + 2) w1 w4) := ⟨hown4, (HB2.out.1.alloc HB2.out.2.2 _).grown hg4 (by have := HB2.out.2.2; simp; omega) (fun i hi => (HB2.out.2.1.lt _ hi).1)⟩; clear hown4 hg4 hlt4))
          go_roundw
          case rel => exact ⟨j + 1, k + p.size + 1, n + 1, cap4, some ⟨g4, 0, none⟩, xs ++ [t], by omega, by omega, by omega, by go_num, by push_cast; rfl, rfl, ⟨HO4.out.1, by rw [List.length_append, HO.out.2.1]; rfl, HN⟩, HO4.out.2⟩
          case measure => simp [intOf]; omega
    · have HE : Hid (listP 0 (splitL 44 s.data.toList) = .ok (texts xs)) := by
        have := HO.out.2.2
        rw [List.drop_of_length_le (by unfold texts; rw [List.length_map]; omega)] at this
        exact parts_end this
      have hfw : wr.heap[w.heap.size]? = some (.cells #[.int .i64 0, .int .i64 0] 47 (0, 0)) := (hb.block _ (by omega)).trans HF1.out
      have f0 : wr.cell? ⟨w.heap.size, 0, none⟩ = some (.int .i64 0) := by simp [World.cell?, hfw]
      have f1 : wr.cell? ⟨w.heap.size, 1, none⟩ = some (.int .i64 0) := by simp [World.cell?, hfw]
      have g0 : wr.frozen? ⟨w.heap.size, 0, none⟩ = false := by simp [World.frozen?, hfw]
      have g1 : wr.frozen? ⟨w.heap.size, 1, none⟩ = false := by simp [World.frozen?, hfw]
      have hBw : Below w.heap.size w wr := hb1.trans (hb.mono (by omega))
      clear hfw
      by_cases hbig : (40 : Int) < (n : Int)
      · go_wp2_with (go_at_call 48; refine (bareF_any 4 _).mono ?_; rintro e w5 ⟨rfl, hb5⟩; have e0 := (hb5.cell (p := ⟨w.heap.size, 0, none⟩) (by show w.heap.size < wr.heap.size; omega)).trans f0; have e1 := (hb5.cell (p := ⟨w.heap.size, 1, none⟩) (by show w.heap.size < wr.heap.size; omega)).trans f1; have e2 := (hb5.frozen (p := ⟨w.heap.size, 0, none⟩) (by show w.heap.size < wr.heap.size; omega)).trans g0; have e3 := (hb5.frozen (p := ⟨w.heap.size, 1, none⟩) (by show w.heap.size < wr.heap.size; omega)).trans g1; clear f0 f1 g0 g1)
        obtain ⟨k0, k1⟩ := fault_end e0 e1 (.int .i64 4) (.int .i64 (-1))
        refine bodyPost_ret (v := .tuple #[.slice none 0 0, .agg #[.int .i64 4, .int .i64 (-1)]]) (by simp [results, Tryd.f25, go_sem, k0, k1]) rfl ⟨.inr (.inl ⟨xs, HE, by have := HO.out.2.1; omega, rfl⟩), ((hBw.trans (hb5.mono (by omega))).setCell (p := ⟨w.heap.size, 0, none⟩) (Nat.le_refl _) _).setCell (p := ⟨w.heap.size, 1, none⟩) (Nat.le_refl _) _⟩
      · go_wp2_with (go_at_call 49; refine (goodF_any _).mono ?_; rintro e w5 ⟨rfl, hb5⟩; have e0 := (hb5.cell (p := ⟨w.heap.size, 0, none⟩) (by show w.heap.size < wr.heap.size; omega)).trans f0; have e1 := (hb5.cell (p := ⟨w.heap.size, 1, none⟩) (by show w.heap.size < wr.heap.size; omega)).trans f1; have e2 := (hb5.frozen (p := ⟨w.heap.size, 0, none⟩) (by show w.heap.size < wr.heap.size; omega)).trans g0; have e3 := (hb5.frozen (p := ⟨w.heap.size, 1, none⟩) (by show w.heap.size < wr.heap.size; omega)).trans g1; clear f0 f1 g0 g1)
        obtain ⟨k0, k1⟩ := fault_end e0 e1 (.int .i64 0) (.int .i64 (-1))
        refine bodyPost_ret (v := .tuple #[.slice a n cap, .agg #[.int .i64 0, .int .i64 (-1)]]) (by simp [results, Tryd.f25, go_sem, k0, k1]) rfl ⟨.inl ⟨xs, _, HE, by have := HO.out.2.1; omega, rfl, ?_⟩, ((hBw.trans (hb5.mono (by omega))).setCell (p := ⟨w.heap.size, 0, none⟩) (Nat.le_refl _) _).setCell (p := ⟨w.heap.size, 1, none⟩) (Nat.le_refl _) _⟩
        have h6 : OwnS w5 (w.heap.size + 2) (.slice a n cap) xs := HO.out.1.below hb5
        have h7 := (h6.grown (grown_set _ w.heap.size 0 (.int .i64 0)) (by omega)).grown (grown_set _ w.heap.size 1 (.int .i64 (-1))) (by omega)
        exact World.ownsRow.mono h7 (by omega)
end Go.Proofs.YtapgbckpiffgnaaDoor
