/- The document's Clean, walked. -/
import Derived.Test.YtpbipanafihabaaDoorRefCle
namespace Go.Proofs.YtpbipanafihabaaDoor
open Go.RowKit Go.Shelf

theorem full_one (s : ByteArray) (h : 0 < s.size) : s.toList.isEmpty = false := by
  rw [ByteArray.toList_eq]
  cases e : s.data.toList with
  | nil =>
    exfalso
    have := congrArg List.length e
    rw [Array.length_toList] at this
    simp only [List.length_nil] at this
    have e2 : s.size = s.data.size := rfl
    omega
  | cons c t => rfl
theorem data_same {a b : ByteArray} (h : a.data.toList = b.data.toList) : a = b := by
  apply ByteArray.ext
  apply Array.ext'
  exact h
theorem step_plainP (last : Bool) (acc : List (List UInt8)) (p : List UInt8) (h1 : p ≠ [46]) (h2 : p ≠ [46, 46]) : cleanStep last acc p = acc ++ [p] := by
  unfold cleanStep
  rw [if_neg h1, if_neg h2]
theorem parts_next {ps : List ByteArray} {k : Nat} (hk : k < ps.length) (p : ByteArray) (hp : ps[k] = p) (l : List ByteArray) (R : List (List UInt8)) (h : cleanParts (lists l) (lists (ps.drop k)) = R) :
    cleanParts (cleanStep (decide (k + 1 = ps.length)) (lists l) p.data.toList) (lists (ps.drop (k + 1))) = R := by
  rw [← h, List.drop_eq_getElem_cons hk, hp]
  show _ = cleanParts (lists l) (p.data.toList :: lists (ps.drop (k + 1)))
  rw [cleanParts]
  congr 2
  unfold lists
  by_cases e : k + 1 = ps.length
  · rw [decide_eq_true e, e]
    simp
  · rw [decide_eq_false e]
    symm
    rw [List.isEmpty_eq_false_iff]
    intro h0
    have := congrArg List.length h0
    simp at this
    omega
theorem lists_push (l : List ByteArray) (p : ByteArray) : lists (l ++ [p]) = lists l ++ [p.data.toList] := by simp [lists]
theorem lists_drop (l : List ByteArray) : lists l.dropLast = (lists l).dropLast := by simp [lists, List.map_dropLast]

theorem bs_app (a : ByteArray) (l : List UInt8) : (a ++ bs l).data.toList = a.data.toList ++ l := by
  have : (bs l).data.toList = l := rfl
  simp [this]
theorem join_at {N Bp : Nat} {w0 : World} {ps : List ByteArray} {W : World} {g n cap : Nat} {l : List ByteArray} (h : CR N Bp w0 ps W g n cap l) (hn : n ≤ 5000) (hne : lists l ≠ []) (hlen : (joinL 47 (lists l)).length ≤ 5000) :
    Calls Tryd.prog 49 #[.slice (some ⟨g, 0, none⟩) n cap, .string ⟨#[47]⟩] W fun e w' => e = .returned (.string (bs (joinL 47 (lists l)))) ∧ Below W.heap.size W w' := by
  have hl := h.len
  have hc := row_le h.row
  subst hl
  have hj : Lib.join (l.map (·.data.toList)) [47] = joinL 47 (lists l) := join_joinL _ hne
  have c := Any.strings_Join lays156 Builder_Extra_156 g 0 cap l ⟨#[47]⟩ W (fun j x hx => by
    rw [Nat.zero_add, World.ownsRow.cellAt h.row j (by have := (List.getElem?_eq_some_iff.1 hx).1; omega)]
    simp [encS, hx]) h.glt (by omega) hc (by
    show (Lib.join (l.map (·.data.toList)) [47]).length ≤ _
    rw [hj]
    omega)
  refine c.mono ?_
  rintro e w' ⟨rfl, hb⟩
  refine ⟨?_, hb⟩
  show Ending.returned (.string ⟨(Lib.join (l.map (·.data.toList)) [47]).toArray⟩) = _
  rw [hj]
  rfl
set_option maxRecDepth 100000 in
set_option maxHeartbeats 2000000 in
theorem refClean_slash (s : ByteArray) (hs : s.size ≤ 500) (h0 : 0 < s.size) (h47 : s[0] = 47) (b : ByteArray) (hb : s.extract 1 s.size = b) (hbl : b.data.toList = bodyL s.data.toList) (w : World) :
    Calls Tryd.prog 25 #[.string s] w fun e w' => e = .returned (.string (bs (cleanL s.data.toList))) ∧ Below w.heap.size w w' := by
  have hie := full_one s h0
  have hbs : b.size ≤ 500 := by rw [← hb]; simp; omega
  have c3 := fun W => split_one b 47 (by omega) W
  go_enter Tryd.func25, Tryd.ntmps25
  go_wp2_with fail
  refine (c3 _).mono ?_
  rintro e w1 ⟨ps, rfl, hpl, rfl, HP⟩
  have hps : ps.length ≤ 501 := by omega
  have HL : Hid (lists ps = splitL 47 b.data.toList) := HP
  have HC0 : Hid (CR w.heap.size (w.heap.size + 1) w ps ((w.alloc (.cells #[] 9)).alloc (.cells (ps.map Value.string).toArray 9)) w.heap.size 0 0 []) := by
    have hB : Below w.heap.size w ((w.alloc (.cells #[] 9)).alloc (.cells (ps.map Value.string).toArray 9)) := ((Below.refl _ _).alloc (Nat.le_refl _) _).alloc (by simp) _
    refine ⟨rfl, ⟨rfl, .inr ⟨w.heap.size, 0, #[], rfl, Nat.le_refl _, ?_, Nat.le_refl _, by decide, rfl, rfl⟩⟩, by omega, by simp; omega, Nat.le_refl _, by simp, fun k hk => ?_, hB, by simp; omega⟩
    · have e := ((Below.refl (w.heap.size + 1) (w.alloc (.cells #[] 9))).alloc (by simp) (.cells (ps.map Value.string).toArray 9)).block w.heap.size (by omega)
      exact e.trans (World.alloc_heap_new w _)
    · have := cells_new (w.alloc (.cells #[] 9)) (ps.map Value.string).toArray 9 k
      rw [World.size_alloc] at this
      rw [this]
      simp [hk]
  clear HP hpl c3
  generalize (w.alloc (.cells #[] 9)).alloc (.cells (ps.map Value.string).toArray 9) = w4 at HC0
  clear hb h0 h47 hie
  have hp1 : 1 ≤ ps.length := by
    have e := congrArg List.length HL.out
    have e2 : (splitL 47 b.data.toList).length ≠ 0 := fun h => splitL_ne 47 _ (List.length_eq_zero_iff.1 h)
    have e3 : (lists ps).length = ps.length := by simp [lists]
    omega
  have hwl : IntKind.i64.wrap ((ps.length : Int) - 1) = ((ps.length - 1 : Nat) : Int) := by rw [IntWalk.i64_in _ ⟨by omega, by omega⟩]; omega
  go_wp2_with fail
  go_loopw [3, 22] (fun v i wr => ∃ (k g n cap : Nat) (l : List ByteArray), k ≤ ps.length ∧ i = .int .i64 k ∧ v = .slice (some ⟨g, 0, none⟩) n cap ∧ n ≤ k ∧ Hid (CR w.heap.size (w.heap.size + 1) w ps wr g n cap l ∧ cleanParts (lists l) (lists (ps.drop k)) = cleanParts [] (lists ps))) (fun _ i _ => ps.length - (intOf i).toNat)
  case atStart => exact ⟨0, _, _, _, [], Nat.zero_le _, rfl, rfl, Nat.le_refl _, HC0.out, rfl⟩
  case round =>
    obtain ⟨k, g, n, cap, l, hk, rfl, rfl, hnk, HC⟩ := hrel
    by_cases hlt : k < ps.length
    · obtain ⟨p, hp⟩ : ∃ p, ps[k] = p := ⟨_, rfl⟩
      have hcp := HC.out.1.cel k hlt
      rw [hp] at hcp
      have HN : Hid (cleanParts (cleanStep (decide (k + 1 = ps.length)) (lists l) p.data.toList) (lists (ps.drop (k + 1))) = cleanParts [] (lists ps)) := parts_next hlt p hp l _ HC.out.2
      have HR : Hid (CR w.heap.size (w.heap.size + 1) w ps wr g n cap l) := HC.out.1
      have hncap := row_le HR.out.row
      clear HC hp
      by_cases p1 : p.toList = [46]
      · obtain rfl : p = ⟨#[46]⟩ := by
          apply data_same
          rw [← ByteArray.toList_eq, p1]
        clear p1
        by_cases hlast : k + 1 = ps.length
        · have hq : ((k : Int) == ((ps.length - 1 : Nat) : Int)) = true := beq_iff_eq.2 (by omega)
          rw [decide_eq_true hlast] at HN
          have HN2 : Hid (cleanParts (lists (l ++ [⟨#[]⟩])) (lists (ps.drop (k + 1))) = cleanParts [] (lists ps)) := by
            rw [lists_push]
            exact HN.out
          go_wp2_with (at_builtin; refine wpList_append_S _ rfl _ _ rfl ⟨#[]⟩ HR.out rfl rfl (by omega) ?_; intro g1 cap1 w1 hC1)
          go_roundw
          case rel => exact ⟨k + 1, g1, n + 1, cap1, l ++ [⟨#[]⟩], by omega, by go_num, rfl, by omega, hC1, HN2.out⟩
          case measure => simp [intOf]; omega
        · have hq : ((k : Int) == ((ps.length - 1 : Nat) : Int)) = false := beq_eq_false_iff_ne.2 (by omega)
          rw [decide_eq_false hlast] at HN
          have HN2 : Hid (cleanParts (lists l) (lists (ps.drop (k + 1))) = cleanParts [] (lists ps)) := HN.out
          clear hlast
          go_wp2
          go_roundw
          case rel => exact ⟨k + 1, g, n, cap, l, by omega, by go_num, rfl, by omega, HR.out, HN2.out⟩
          case measure => simp [intOf]; omega
      · by_cases p2 : p.toList = [46, 46]
        · obtain rfl : p = ⟨#[46, 46]⟩ := by
            apply data_same
            rw [← ByteArray.toList_eq, p2]
          clear p1 p2
          have hLl : l.length = n := HR.out.len
          by_cases hn0 : n = 0
          · obtain rfl : l = [] := List.length_eq_zero_iff.1 (by omega)
            subst hn0
            by_cases hlast : k + 1 = ps.length
            · have hq : ((k : Int) == ((ps.length - 1 : Nat) : Int)) = true := beq_iff_eq.2 (by omega)
              rw [decide_eq_true hlast] at HN
              have HN2 : Hid (cleanParts (lists ([] ++ [⟨#[]⟩])) (lists (ps.drop (k + 1))) = cleanParts [] (lists ps)) := HN.out
              go_wp2_with (at_builtin; refine wpList_append_S _ rfl _ _ rfl ⟨#[]⟩ HR.out rfl rfl (by omega) ?_; intro g1 cap1 w1 hC1)
              go_roundw
              case rel => exact ⟨k + 1, g1, 0 + 1, cap1, [] ++ [⟨#[]⟩], by omega, by go_num, rfl, by omega, hC1, HN2.out⟩
              case measure => simp [intOf]; omega
            · have hq : ((k : Int) == ((ps.length - 1 : Nat) : Int)) = false := beq_eq_false_iff_ne.2 (by omega)
              rw [decide_eq_false hlast] at HN
              have HN2 : Hid (cleanParts (lists []) (lists (ps.drop (k + 1))) = cleanParts [] (lists ps)) := HN.out
              clear hlast
              go_wp2
              go_roundw
              case rel => exact ⟨k + 1, g, 0, cap, [], by omega, by go_num, rfl, by omega, HR.out, HN2.out⟩
              case measure => simp [intOf]; omega
          · obtain ⟨m, rfl⟩ : ∃ m, n = m + 1 := ⟨n - 1, by omega⟩
            have HR2 : Hid (CR w.heap.size (w.heap.size + 1) w ps wr g m cap l.dropLast) := HR.out.cut
            have hwn : IntKind.i64.wrap (((m + 1 : Nat) : Int) - 1) = (m : Int) := by rw [IntWalk.i64_in _ ⟨by omega, by omega⟩]; omega
            have hgt : (0 : Int) < ((m + 1 : Nat) : Int) := by omega
            by_cases hlast : k + 1 = ps.length
            · have hq : ((k : Int) == ((ps.length - 1 : Nat) : Int)) = true := beq_iff_eq.2 (by omega)
              rw [decide_eq_true hlast] at HN
              have HN2 : Hid (cleanParts (lists (l.dropLast ++ [⟨#[]⟩])) (lists (ps.drop (k + 1))) = cleanParts [] (lists ps)) := by
                rw [lists_push, lists_drop]
                exact HN.out
              go_wp2_with (at_builtin; refine wpList_append_S _ rfl _ _ rfl ⟨#[]⟩ HR2.out rfl rfl (by omega) ?_; intro g1 cap1 w1 hC1)
              go_roundw
              case rel => exact ⟨k + 1, g1, m + 1, cap1, l.dropLast ++ [⟨#[]⟩], by omega, by go_num, rfl, by omega, hC1, HN2.out⟩
              case measure => simp [intOf]; omega
            · have hq : ((k : Int) == ((ps.length - 1 : Nat) : Int)) = false := beq_eq_false_iff_ne.2 (by omega)
              rw [decide_eq_false hlast] at HN
              have HN2 : Hid (cleanParts (lists l.dropLast) (lists (ps.drop (k + 1))) = cleanParts [] (lists ps)) := by
                rw [lists_drop]
                exact HN.out
              clear hlast
              go_wp2
              go_roundw
              case rel => exact ⟨k + 1, g, m, cap, l.dropLast, by omega, by go_num, rfl, by omega, HR2.out, HN2.out⟩
              case measure => simp [intOf]; omega
        · have q1 : (p.toList == [46]) = false := beq_eq_false_iff_ne.2 p1
          have q2 : (p.toList == [46, 46]) = false := beq_eq_false_iff_ne.2 p2
          have q3 : (p.toList != [46]) = true := by rw [bne, q1]; rfl
          have q4 : (p.toList != [46, 46]) = true := by rw [bne, q2]; rfl
          rw [ByteArray.toList_eq] at p1 p2
          rw [step_plainP _ _ _ p1 p2, ← lists_push] at HN
          clear p1 p2
          go_wp2_with (at_builtin; refine wpList_append_S _ rfl _ _ rfl p HR.out rfl rfl (by omega) ?_; intro g1 cap1 w1 hC1)
          go_roundw
          case rel => exact ⟨k + 1, g1, n + 1, cap1, l ++ [p], by omega, by go_num, rfl, by omega, hC1, HN.out⟩
          case measure => simp [intOf]; omega
    · have hke : k = ps.length := by omega
      have HE : Hid (lists l = cleanParts [] (lists ps)) := by
        show _ = _
        rw [← HC.out.2, hke, List.drop_length]
        rfl
      have HR : Hid (CR w.heap.size (w.heap.size + 1) w ps wr g n cap l) := HC.out.1
      have hncap := row_le HR.out.row
      have hbl2 := HR.out.bel
      have hns := HR.out.ns
      have HY : Hid (bs (cleanL s.data.toList) = ⟨#[47]⟩ ++ bs (joinL 47 (lists l))) := by
        show _ = _
        apply data_same
        rw [bs_app, HE.out, HL.out, hbl]
        rfl
      have cj := join_at HR.out (by omega) (by
        rw [HE.out, HL.out]
        exact cleanParts_ne _ _ (splitL_ne 47 _)) (by
        rw [HE.out, HL.out]
        have e1 := flat_parts (splitL 47 b.data.toList) []
        rw [flat_split, flat_join _ (cleanParts_ne _ _ (splitL_ne 47 _))] at e1
        have e2 : b.data.toList.length = b.size := Array.length_toList
        have e3 : (flat []).length = 0 := rfl
        simp only [List.length_cons] at e1
        omega)
      obtain ⟨y, hy⟩ : ∃ y, bs (joinL 47 (lists l)) = y := ⟨_, rfl⟩
      have hys : y.size ≤ 1000 := by
        rw [← hy, bs_size, HE.out, HL.out]
        have e1 := flat_parts (splitL 47 b.data.toList) []
        rw [flat_split, flat_join _ (cleanParts_ne _ _ (splitL_ne 47 _))] at e1
        have e2 : b.data.toList.length = b.size := Array.length_toList
        have e3 : (flat []).length = 0 := rfl
        simp only [List.length_cons] at e1
        omega
      rw [hy] at cj HY
      clear HC HE hke HL
      go_wp2_with (go_at_call 49; refine cj.mono ?_; rintro e w5 ⟨rfl, hb5⟩)
      go_ret
      exact ⟨ret_str HY.out.symm, hbl2.trans (hb5.mono hns)⟩
set_option maxRecDepth 100000 in
set_option maxHeartbeats 2000000 in
theorem refClean_bare (s : ByteArray) (hs : s.size ≤ 500) (h0 : 0 < s.size) (c : UInt8) (h47 : s[0] = c) (_q : ((c.toNat : Int) == 47) = false) (q2 : ((c.toNat : Int) != 47) = true) (b : ByteArray) (hb : (({ data := #[47] } : ByteArray) ++ s).extract 1 (1 + s.size) = b) (hbs : b.size ≤ 500) (hbl : b.data.toList = bodyL s.data.toList) (w : World) :
    Calls Tryd.prog 25 #[.string s] w fun e w' => e = .returned (.string (bs (cleanL s.data.toList))) ∧ Below w.heap.size w w' := by
  have hie := full_one s h0
  have c3 := fun W => split_one b 47 (by omega) W
  go_enter Tryd.func25, Tryd.ntmps25
  go_wp2_with fail
  (try rw [hb])
  refine (c3 _).mono ?_
  rintro e w1 ⟨ps, rfl, hpl, rfl, HP⟩
  have hps : ps.length ≤ 501 := by omega
  have HL : Hid (lists ps = splitL 47 b.data.toList) := HP
  have HC0 : Hid (CR w.heap.size (w.heap.size + 1) w ps ((w.alloc (.cells #[] 9)).alloc (.cells (ps.map Value.string).toArray 9)) w.heap.size 0 0 []) := by
    have hB : Below w.heap.size w ((w.alloc (.cells #[] 9)).alloc (.cells (ps.map Value.string).toArray 9)) := ((Below.refl _ _).alloc (Nat.le_refl _) _).alloc (by simp) _
    refine ⟨rfl, ⟨rfl, .inr ⟨w.heap.size, 0, #[], rfl, Nat.le_refl _, ?_, Nat.le_refl _, by decide, rfl, rfl⟩⟩, by omega, by simp; omega, Nat.le_refl _, by simp, fun k hk => ?_, hB, by simp; omega⟩
    · have e := ((Below.refl (w.heap.size + 1) (w.alloc (.cells #[] 9))).alloc (by simp) (.cells (ps.map Value.string).toArray 9)).block w.heap.size (by omega)
      exact e.trans (World.alloc_heap_new w _)
    · have := cells_new (w.alloc (.cells #[] 9)) (ps.map Value.string).toArray 9 k
      rw [World.size_alloc] at this
      rw [this]
      simp [hk]
  clear HP hpl c3
  generalize (w.alloc (.cells #[] 9)).alloc (.cells (ps.map Value.string).toArray 9) = w4 at HC0
  clear hb h0 h47 hie _q q2
  have hp1 : 1 ≤ ps.length := by
    have e := congrArg List.length HL.out
    have e2 : (splitL 47 b.data.toList).length ≠ 0 := fun h => splitL_ne 47 _ (List.length_eq_zero_iff.1 h)
    have e3 : (lists ps).length = ps.length := by simp [lists]
    omega
  have hwl : IntKind.i64.wrap ((ps.length : Int) - 1) = ((ps.length - 1 : Nat) : Int) := by rw [IntWalk.i64_in _ ⟨by omega, by omega⟩]; omega
  go_wp2_with fail
  go_loopw [3, 22] (fun v i wr => ∃ (k g n cap : Nat) (l : List ByteArray), k ≤ ps.length ∧ i = .int .i64 k ∧ v = .slice (some ⟨g, 0, none⟩) n cap ∧ n ≤ k ∧ Hid (CR w.heap.size (w.heap.size + 1) w ps wr g n cap l ∧ cleanParts (lists l) (lists (ps.drop k)) = cleanParts [] (lists ps))) (fun _ i _ => ps.length - (intOf i).toNat)
  case atStart => exact ⟨0, _, _, _, [], Nat.zero_le _, rfl, rfl, Nat.le_refl _, HC0.out, rfl⟩
  case round =>
    obtain ⟨k, g, n, cap, l, hk, rfl, rfl, hnk, HC⟩ := hrel
    by_cases hlt : k < ps.length
    · obtain ⟨p, hp⟩ : ∃ p, ps[k] = p := ⟨_, rfl⟩
      have hcp := HC.out.1.cel k hlt
      rw [hp] at hcp
      have HN : Hid (cleanParts (cleanStep (decide (k + 1 = ps.length)) (lists l) p.data.toList) (lists (ps.drop (k + 1))) = cleanParts [] (lists ps)) := parts_next hlt p hp l _ HC.out.2
      have HR : Hid (CR w.heap.size (w.heap.size + 1) w ps wr g n cap l) := HC.out.1
      have hncap := row_le HR.out.row
      clear HC hp
      by_cases p1 : p.toList = [46]
      · obtain rfl : p = ⟨#[46]⟩ := by
          apply data_same
          rw [← ByteArray.toList_eq, p1]
        clear p1
        by_cases hlast : k + 1 = ps.length
        · have hq : ((k : Int) == ((ps.length - 1 : Nat) : Int)) = true := beq_iff_eq.2 (by omega)
          rw [decide_eq_true hlast] at HN
          have HN2 : Hid (cleanParts (lists (l ++ [⟨#[]⟩])) (lists (ps.drop (k + 1))) = cleanParts [] (lists ps)) := by
            rw [lists_push]
            exact HN.out
          go_wp2_with (at_builtin; refine wpList_append_S _ rfl _ _ rfl ⟨#[]⟩ HR.out rfl rfl (by omega) ?_; intro g1 cap1 w1 hC1)
          go_roundw
          case rel => exact ⟨k + 1, g1, n + 1, cap1, l ++ [⟨#[]⟩], by omega, by go_num, rfl, by omega, hC1, HN2.out⟩
          case measure => simp [intOf]; omega
        · have hq : ((k : Int) == ((ps.length - 1 : Nat) : Int)) = false := beq_eq_false_iff_ne.2 (by omega)
          rw [decide_eq_false hlast] at HN
          have HN2 : Hid (cleanParts (lists l) (lists (ps.drop (k + 1))) = cleanParts [] (lists ps)) := HN.out
          clear hlast
          go_wp2
          go_roundw
          case rel => exact ⟨k + 1, g, n, cap, l, by omega, by go_num, rfl, by omega, HR.out, HN2.out⟩
          case measure => simp [intOf]; omega
      · by_cases p2 : p.toList = [46, 46]
        · obtain rfl : p = ⟨#[46, 46]⟩ := by
            apply data_same
            rw [← ByteArray.toList_eq, p2]
          clear p1 p2
          have hLl : l.length = n := HR.out.len
          by_cases hn0 : n = 0
          · obtain rfl : l = [] := List.length_eq_zero_iff.1 (by omega)
            subst hn0
            by_cases hlast : k + 1 = ps.length
            · have hq : ((k : Int) == ((ps.length - 1 : Nat) : Int)) = true := beq_iff_eq.2 (by omega)
              rw [decide_eq_true hlast] at HN
              have HN2 : Hid (cleanParts (lists ([] ++ [⟨#[]⟩])) (lists (ps.drop (k + 1))) = cleanParts [] (lists ps)) := HN.out
              go_wp2_with (at_builtin; refine wpList_append_S _ rfl _ _ rfl ⟨#[]⟩ HR.out rfl rfl (by omega) ?_; intro g1 cap1 w1 hC1)
              go_roundw
              case rel => exact ⟨k + 1, g1, 0 + 1, cap1, [] ++ [⟨#[]⟩], by omega, by go_num, rfl, by omega, hC1, HN2.out⟩
              case measure => simp [intOf]; omega
            · have hq : ((k : Int) == ((ps.length - 1 : Nat) : Int)) = false := beq_eq_false_iff_ne.2 (by omega)
              rw [decide_eq_false hlast] at HN
              have HN2 : Hid (cleanParts (lists []) (lists (ps.drop (k + 1))) = cleanParts [] (lists ps)) := HN.out
              clear hlast
              go_wp2
              go_roundw
              case rel => exact ⟨k + 1, g, 0, cap, [], by omega, by go_num, rfl, by omega, HR.out, HN2.out⟩
              case measure => simp [intOf]; omega
          · obtain ⟨m, rfl⟩ : ∃ m, n = m + 1 := ⟨n - 1, by omega⟩
            have HR2 : Hid (CR w.heap.size (w.heap.size + 1) w ps wr g m cap l.dropLast) := HR.out.cut
            have hwn : IntKind.i64.wrap (((m + 1 : Nat) : Int) - 1) = (m : Int) := by rw [IntWalk.i64_in _ ⟨by omega, by omega⟩]; omega
            have hgt : (0 : Int) < ((m + 1 : Nat) : Int) := by omega
            by_cases hlast : k + 1 = ps.length
            · have hq : ((k : Int) == ((ps.length - 1 : Nat) : Int)) = true := beq_iff_eq.2 (by omega)
              rw [decide_eq_true hlast] at HN
              have HN2 : Hid (cleanParts (lists (l.dropLast ++ [⟨#[]⟩])) (lists (ps.drop (k + 1))) = cleanParts [] (lists ps)) := by
                rw [lists_push, lists_drop]
                exact HN.out
              go_wp2_with (at_builtin; refine wpList_append_S _ rfl _ _ rfl ⟨#[]⟩ HR2.out rfl rfl (by omega) ?_; intro g1 cap1 w1 hC1)
              go_roundw
              case rel => exact ⟨k + 1, g1, m + 1, cap1, l.dropLast ++ [⟨#[]⟩], by omega, by go_num, rfl, by omega, hC1, HN2.out⟩
              case measure => simp [intOf]; omega
            · have hq : ((k : Int) == ((ps.length - 1 : Nat) : Int)) = false := beq_eq_false_iff_ne.2 (by omega)
              rw [decide_eq_false hlast] at HN
              have HN2 : Hid (cleanParts (lists l.dropLast) (lists (ps.drop (k + 1))) = cleanParts [] (lists ps)) := by
                rw [lists_drop]
                exact HN.out
              clear hlast
              go_wp2
              go_roundw
              case rel => exact ⟨k + 1, g, m, cap, l.dropLast, by omega, by go_num, rfl, by omega, HR2.out, HN2.out⟩
              case measure => simp [intOf]; omega
        · have q1 : (p.toList == [46]) = false := beq_eq_false_iff_ne.2 p1
          have q2 : (p.toList == [46, 46]) = false := beq_eq_false_iff_ne.2 p2
          have q3 : (p.toList != [46]) = true := by rw [bne, q1]; rfl
          have q4 : (p.toList != [46, 46]) = true := by rw [bne, q2]; rfl
          rw [ByteArray.toList_eq] at p1 p2
          rw [step_plainP _ _ _ p1 p2, ← lists_push] at HN
          clear p1 p2
          go_wp2_with (at_builtin; refine wpList_append_S _ rfl _ _ rfl p HR.out rfl rfl (by omega) ?_; intro g1 cap1 w1 hC1)
          go_roundw
          case rel => exact ⟨k + 1, g1, n + 1, cap1, l ++ [p], by omega, by go_num, rfl, by omega, hC1, HN.out⟩
          case measure => simp [intOf]; omega
    · have hke : k = ps.length := by omega
      have HE : Hid (lists l = cleanParts [] (lists ps)) := by
        show _ = _
        rw [← HC.out.2, hke, List.drop_length]
        rfl
      have HR : Hid (CR w.heap.size (w.heap.size + 1) w ps wr g n cap l) := HC.out.1
      have hncap := row_le HR.out.row
      have hbl2 := HR.out.bel
      have hns := HR.out.ns
      have HY : Hid (bs (cleanL s.data.toList) = ⟨#[47]⟩ ++ bs (joinL 47 (lists l))) := by
        show _ = _
        apply data_same
        rw [bs_app, HE.out, HL.out, hbl]
        rfl
      have cj := join_at HR.out (by omega) (by
        rw [HE.out, HL.out]
        exact cleanParts_ne _ _ (splitL_ne 47 _)) (by
        rw [HE.out, HL.out]
        have e1 := flat_parts (splitL 47 b.data.toList) []
        rw [flat_split, flat_join _ (cleanParts_ne _ _ (splitL_ne 47 _))] at e1
        have e2 : b.data.toList.length = b.size := Array.length_toList
        have e3 : (flat []).length = 0 := rfl
        simp only [List.length_cons] at e1
        omega)
      obtain ⟨y, hy⟩ : ∃ y, bs (joinL 47 (lists l)) = y := ⟨_, rfl⟩
      have hys : y.size ≤ 1000 := by
        rw [← hy, bs_size, HE.out, HL.out]
        have e1 := flat_parts (splitL 47 b.data.toList) []
        rw [flat_split, flat_join _ (cleanParts_ne _ _ (splitL_ne 47 _))] at e1
        have e2 : b.data.toList.length = b.size := Array.length_toList
        have e3 : (flat []).length = 0 := rfl
        simp only [List.length_cons] at e1
        omega
      rw [hy] at cj HY
      clear HC HE hke HL
      go_wp2_with (go_at_call 49; refine cj.mono ?_; rintro e w5 ⟨rfl, hb5⟩)
      go_ret
      exact ⟨ret_str HY.out.symm, hbl2.trans (hb5.mono hns)⟩
set_option maxRecDepth 100000 in
set_option maxHeartbeats 2000000 in
theorem refClean_empty (s : ByteArray) (_hs0 : s = ⟨#[]⟩) (b : ByteArray) (hb : ByteArray.empty = b) (hbs : b.size ≤ 500) (hbl : b.data.toList = bodyL s.data.toList) (w : World) :
    Calls Tryd.prog 25 #[.string ⟨#[]⟩] w fun e w' => e = .returned (.string (bs (cleanL s.data.toList))) ∧ Below w.heap.size w w' := by
  have c3 := fun W => split_one b 47 (by omega) W
  clear _hs0
  go_enter Tryd.func25, Tryd.ntmps25
  go_wp2_with fail
  (try rw [hb])
  refine (c3 _).mono ?_
  rintro e w1 ⟨ps, rfl, hpl, rfl, HP⟩
  have hps : ps.length ≤ 501 := by omega
  have HL : Hid (lists ps = splitL 47 b.data.toList) := HP
  have HC0 : Hid (CR w.heap.size (w.heap.size + 1) w ps ((w.alloc (.cells #[] 9)).alloc (.cells (ps.map Value.string).toArray 9)) w.heap.size 0 0 []) := by
    have hB : Below w.heap.size w ((w.alloc (.cells #[] 9)).alloc (.cells (ps.map Value.string).toArray 9)) := ((Below.refl _ _).alloc (Nat.le_refl _) _).alloc (by simp) _
    refine ⟨rfl, ⟨rfl, .inr ⟨w.heap.size, 0, #[], rfl, Nat.le_refl _, ?_, Nat.le_refl _, by decide, rfl, rfl⟩⟩, by omega, by simp; omega, Nat.le_refl _, by simp, fun k hk => ?_, hB, by simp; omega⟩
    · have e := ((Below.refl (w.heap.size + 1) (w.alloc (.cells #[] 9))).alloc (by simp) (.cells (ps.map Value.string).toArray 9)).block w.heap.size (by omega)
      exact e.trans (World.alloc_heap_new w _)
    · have := cells_new (w.alloc (.cells #[] 9)) (ps.map Value.string).toArray 9 k
      rw [World.size_alloc] at this
      rw [this]
      simp [hk]
  clear HP hpl c3
  generalize (w.alloc (.cells #[] 9)).alloc (.cells (ps.map Value.string).toArray 9) = w4 at HC0
  clear hb
  have hp1 : 1 ≤ ps.length := by
    have e := congrArg List.length HL.out
    have e2 : (splitL 47 b.data.toList).length ≠ 0 := fun h => splitL_ne 47 _ (List.length_eq_zero_iff.1 h)
    have e3 : (lists ps).length = ps.length := by simp [lists]
    omega
  have hwl : IntKind.i64.wrap ((ps.length : Int) - 1) = ((ps.length - 1 : Nat) : Int) := by rw [IntWalk.i64_in _ ⟨by omega, by omega⟩]; omega
  go_wp2_with fail
  go_loopw [3, 22] (fun v i wr => ∃ (k g n cap : Nat) (l : List ByteArray), k ≤ ps.length ∧ i = .int .i64 k ∧ v = .slice (some ⟨g, 0, none⟩) n cap ∧ n ≤ k ∧ Hid (CR w.heap.size (w.heap.size + 1) w ps wr g n cap l ∧ cleanParts (lists l) (lists (ps.drop k)) = cleanParts [] (lists ps))) (fun _ i _ => ps.length - (intOf i).toNat)
  case atStart => exact ⟨0, _, _, _, [], Nat.zero_le _, rfl, rfl, Nat.le_refl _, HC0.out, rfl⟩
  case round =>
    obtain ⟨k, g, n, cap, l, hk, rfl, rfl, hnk, HC⟩ := hrel
    by_cases hlt : k < ps.length
    · obtain ⟨p, hp⟩ : ∃ p, ps[k] = p := ⟨_, rfl⟩
      have hcp := HC.out.1.cel k hlt
      rw [hp] at hcp
      have HN : Hid (cleanParts (cleanStep (decide (k + 1 = ps.length)) (lists l) p.data.toList) (lists (ps.drop (k + 1))) = cleanParts [] (lists ps)) := parts_next hlt p hp l _ HC.out.2
      have HR : Hid (CR w.heap.size (w.heap.size + 1) w ps wr g n cap l) := HC.out.1
      have hncap := row_le HR.out.row
      clear HC hp
      by_cases p1 : p.toList = [46]
      · obtain rfl : p = ⟨#[46]⟩ := by
          apply data_same
          rw [← ByteArray.toList_eq, p1]
        clear p1
        by_cases hlast : k + 1 = ps.length
        · have hq : ((k : Int) == ((ps.length - 1 : Nat) : Int)) = true := beq_iff_eq.2 (by omega)
          rw [decide_eq_true hlast] at HN
          have HN2 : Hid (cleanParts (lists (l ++ [⟨#[]⟩])) (lists (ps.drop (k + 1))) = cleanParts [] (lists ps)) := by
            rw [lists_push]
            exact HN.out
          go_wp2_with (at_builtin; refine wpList_append_S _ rfl _ _ rfl ⟨#[]⟩ HR.out rfl rfl (by omega) ?_; intro g1 cap1 w1 hC1)
          go_roundw
          case rel => exact ⟨k + 1, g1, n + 1, cap1, l ++ [⟨#[]⟩], by omega, by go_num, rfl, by omega, hC1, HN2.out⟩
          case measure => simp [intOf]; omega
        · have hq : ((k : Int) == ((ps.length - 1 : Nat) : Int)) = false := beq_eq_false_iff_ne.2 (by omega)
          rw [decide_eq_false hlast] at HN
          have HN2 : Hid (cleanParts (lists l) (lists (ps.drop (k + 1))) = cleanParts [] (lists ps)) := HN.out
          clear hlast
          go_wp2
          go_roundw
          case rel => exact ⟨k + 1, g, n, cap, l, by omega, by go_num, rfl, by omega, HR.out, HN2.out⟩
          case measure => simp [intOf]; omega
      · by_cases p2 : p.toList = [46, 46]
        · obtain rfl : p = ⟨#[46, 46]⟩ := by
            apply data_same
            rw [← ByteArray.toList_eq, p2]
          clear p1 p2
          have hLl : l.length = n := HR.out.len
          by_cases hn0 : n = 0
          · obtain rfl : l = [] := List.length_eq_zero_iff.1 (by omega)
            subst hn0
            by_cases hlast : k + 1 = ps.length
            · have hq : ((k : Int) == ((ps.length - 1 : Nat) : Int)) = true := beq_iff_eq.2 (by omega)
              rw [decide_eq_true hlast] at HN
              have HN2 : Hid (cleanParts (lists ([] ++ [⟨#[]⟩])) (lists (ps.drop (k + 1))) = cleanParts [] (lists ps)) := HN.out
              go_wp2_with (at_builtin; refine wpList_append_S _ rfl _ _ rfl ⟨#[]⟩ HR.out rfl rfl (by omega) ?_; intro g1 cap1 w1 hC1)
              go_roundw
              case rel => exact ⟨k + 1, g1, 0 + 1, cap1, [] ++ [⟨#[]⟩], by omega, by go_num, rfl, by omega, hC1, HN2.out⟩
              case measure => simp [intOf]; omega
            · have hq : ((k : Int) == ((ps.length - 1 : Nat) : Int)) = false := beq_eq_false_iff_ne.2 (by omega)
              rw [decide_eq_false hlast] at HN
              have HN2 : Hid (cleanParts (lists []) (lists (ps.drop (k + 1))) = cleanParts [] (lists ps)) := HN.out
              clear hlast
              go_wp2
              go_roundw
              case rel => exact ⟨k + 1, g, 0, cap, [], by omega, by go_num, rfl, by omega, HR.out, HN2.out⟩
              case measure => simp [intOf]; omega
          · obtain ⟨m, rfl⟩ : ∃ m, n = m + 1 := ⟨n - 1, by omega⟩
            have HR2 : Hid (CR w.heap.size (w.heap.size + 1) w ps wr g m cap l.dropLast) := HR.out.cut
            have hwn : IntKind.i64.wrap (((m + 1 : Nat) : Int) - 1) = (m : Int) := by rw [IntWalk.i64_in _ ⟨by omega, by omega⟩]; omega
            have hgt : (0 : Int) < ((m + 1 : Nat) : Int) := by omega
            by_cases hlast : k + 1 = ps.length
            · have hq : ((k : Int) == ((ps.length - 1 : Nat) : Int)) = true := beq_iff_eq.2 (by omega)
              rw [decide_eq_true hlast] at HN
              have HN2 : Hid (cleanParts (lists (l.dropLast ++ [⟨#[]⟩])) (lists (ps.drop (k + 1))) = cleanParts [] (lists ps)) := by
                rw [lists_push, lists_drop]
                exact HN.out
              go_wp2_with (at_builtin; refine wpList_append_S _ rfl _ _ rfl ⟨#[]⟩ HR2.out rfl rfl (by omega) ?_; intro g1 cap1 w1 hC1)
              go_roundw
              case rel => exact ⟨k + 1, g1, m + 1, cap1, l.dropLast ++ [⟨#[]⟩], by omega, by go_num, rfl, by omega, hC1, HN2.out⟩
              case measure => simp [intOf]; omega
            · have hq : ((k : Int) == ((ps.length - 1 : Nat) : Int)) = false := beq_eq_false_iff_ne.2 (by omega)
              rw [decide_eq_false hlast] at HN
              have HN2 : Hid (cleanParts (lists l.dropLast) (lists (ps.drop (k + 1))) = cleanParts [] (lists ps)) := by
                rw [lists_drop]
                exact HN.out
              clear hlast
              go_wp2
              go_roundw
              case rel => exact ⟨k + 1, g, m, cap, l.dropLast, by omega, by go_num, rfl, by omega, HR2.out, HN2.out⟩
              case measure => simp [intOf]; omega
        · have q1 : (p.toList == [46]) = false := beq_eq_false_iff_ne.2 p1
          have q2 : (p.toList == [46, 46]) = false := beq_eq_false_iff_ne.2 p2
          have q3 : (p.toList != [46]) = true := by rw [bne, q1]; rfl
          have q4 : (p.toList != [46, 46]) = true := by rw [bne, q2]; rfl
          rw [ByteArray.toList_eq] at p1 p2
          rw [step_plainP _ _ _ p1 p2, ← lists_push] at HN
          clear p1 p2
          go_wp2_with (at_builtin; refine wpList_append_S _ rfl _ _ rfl p HR.out rfl rfl (by omega) ?_; intro g1 cap1 w1 hC1)
          go_roundw
          case rel => exact ⟨k + 1, g1, n + 1, cap1, l ++ [p], by omega, by go_num, rfl, by omega, hC1, HN.out⟩
          case measure => simp [intOf]; omega
    · have hke : k = ps.length := by omega
      have HE : Hid (lists l = cleanParts [] (lists ps)) := by
        show _ = _
        rw [← HC.out.2, hke, List.drop_length]
        rfl
      have HR : Hid (CR w.heap.size (w.heap.size + 1) w ps wr g n cap l) := HC.out.1
      have hncap := row_le HR.out.row
      have hbl2 := HR.out.bel
      have hns := HR.out.ns
      have HY : Hid (bs (cleanL s.data.toList) = ⟨#[47]⟩ ++ bs (joinL 47 (lists l))) := by
        show _ = _
        apply data_same
        rw [bs_app, HE.out, HL.out, hbl]
        rfl
      have cj := join_at HR.out (by omega) (by
        rw [HE.out, HL.out]
        exact cleanParts_ne _ _ (splitL_ne 47 _)) (by
        rw [HE.out, HL.out]
        have e1 := flat_parts (splitL 47 b.data.toList) []
        rw [flat_split, flat_join _ (cleanParts_ne _ _ (splitL_ne 47 _))] at e1
        have e2 : b.data.toList.length = b.size := Array.length_toList
        have e3 : (flat []).length = 0 := rfl
        simp only [List.length_cons] at e1
        omega)
      obtain ⟨y, hy⟩ : ∃ y, bs (joinL 47 (lists l)) = y := ⟨_, rfl⟩
      have hys : y.size ≤ 1000 := by
        rw [← hy, bs_size, HE.out, HL.out]
        have e1 := flat_parts (splitL 47 b.data.toList) []
        rw [flat_split, flat_join _ (cleanParts_ne _ _ (splitL_ne 47 _))] at e1
        have e2 : b.data.toList.length = b.size := Array.length_toList
        have e3 : (flat []).length = 0 := rfl
        simp only [List.length_cons] at e1
        omega
      rw [hy] at cj HY
      clear HC HE hke HL
      go_wp2_with (go_at_call 49; refine cj.mono ?_; rintro e w5 ⟨rfl, hb5⟩)
      go_ret
      exact ⟨ret_str HY.out.symm, hbl2.trans (hb5.mono hns)⟩
theorem bodyL_ne (c : UInt8) (l : List UInt8) (h : c ≠ 47) : bodyL (c :: l) = c :: l := by
  unfold bodyL
  split
  · rename_i e
    injection e with e1 e2
    exact absurd e1 h
  · rfl
theorem refClean_any (s : ByteArray) (hs : s.size ≤ 500) (w : World) :
    Calls Tryd.prog 25 #[.string s] w fun e w' => e = .returned (.string (bs (cleanL s.data.toList))) ∧ Below w.heap.size w w' := by
  by_cases h0 : s.size = 0
  · obtain rfl : s = ⟨#[]⟩ := by
      apply ByteArray.ext
      exact Array.eq_empty_of_size_eq_zero h0
    exact refClean_empty ⟨#[]⟩ rfl ByteArray.empty rfl (by decide) rfl w
  · have hp : 0 < s.size := by omega
    have hl : s.data.toList.length = s.size := Array.length_toList
    obtain ⟨c, hc⟩ : ∃ c, s[0] = c := ⟨_, rfl⟩
    have hd : s.data.toList = c :: s.data.toList.drop 1 := by
      have e := take_snoc s 0 hp
      rw [hc] at e
      have e2 := List.take_append_drop 1 s.data.toList
      rw [e] at e2
      exact e2.symm
    by_cases h47 : c = 47
    · subst h47
      refine refClean_slash s hs hp hc _ rfl ?_ w
      rw [hd]
      show _ = s.data.toList.drop 1
      rw [ByteArray.data_extract, Array.toList_extract, List.extract_eq_take_drop, List.take_of_length_le (by rw [List.length_drop]; omega)]
    · have q : ((c.toNat : Int) == 47) = false := beq_eq_false_iff_ne.2 (fun e => h47 (UInt8.toNat_inj.1 (by have : (47 : UInt8).toNat = 47 := rfl; omega)))
      have q2 : ((c.toNat : Int) != 47) = true := by rw [bne, q]; rfl
      refine refClean_bare s hs hp c hc q q2 s ?_ hs (by rw [hd, bodyL_ne c _ h47]) w
      apply data_same
      rw [ByteArray.data_extract, Array.toList_extract, List.extract_eq_take_drop]
      have e1 : (({ data := #[47] } : ByteArray) ++ s).data.toList = 47 :: s.data.toList := by simp
      rw [e1]
      show List.take (1 + s.size - 1) s.data.toList = _
      rw [List.take_of_length_le (by omega)]
end Go.Proofs.YtpbipanafihabaaDoor
