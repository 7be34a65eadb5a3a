/- The reader of a header: gaps, ends, names and values, by the program. -/
import Derived.Test.YtooaiamfbmjmnaaGreatDoorRd
import Derived.Test.YtooaiamfbmjmnaaGreatDoorAk
import Derived.Deep.LoopGhost
import Derived.Deep.Cut
import Derived.Deep.DeepCutAuto
namespace Go.Proofs.YtooaiamfbmjmnaaGreatDoor
open Go.RowKit

theorem gap_blank (l : List UInt8) : (l.dropWhile blankB).dropWhile gapB = l.dropWhile gapB := by
  induction l with
  | nil => rfl
  | cons c t ih =>
    by_cases h : blankB c = true
    · have h2 : gapB c = true := by unfold gapB; rw [h]; rfl
      rw [List.dropWhile_cons_of_pos h, List.dropWhile_cons_of_pos h2, ih]
    · rw [List.dropWhile_cons_of_neg h]
theorem gap_comma (t : List UInt8) : (44 :: t).dropWhile gapB = t.dropWhile gapB := List.dropWhile_cons_of_pos (by decide)
theorem gap_none (l : List UInt8) (h : runL blankB l = 0) (h2 : ∀ t, l ≠ 44 :: t) : l.dropWhile gapB = l := by
  cases l with
  | nil => rfl
  | cons c t =>
    have h3 : blankB c = false := by
      cases hb : blankB c
      · rfl
      · unfold runL at h
        rw [List.takeWhile_cons_of_pos hb] at h
        cases h
    have h4 : gapB c = false := by
      unfold gapB
      rw [h3, Bool.false_or, beq_eq_false_iff_ne]
      intro e
      exact h2 t (by rw [e])
    rw [List.dropWhile_cons_of_neg (by rw [h4]; simp)]
theorem run_zero (l : List UInt8) (f : UInt8 → Bool) (h : ¬ 0 < runL f l) : l.dropWhile f = l := by
  cases l with
  | nil => rfl
  | cons c t =>
    cases hb : f c
    · rw [List.dropWhile_cons_of_neg (by rw [hb]; simp)]
    · unfold runL at h
      rw [List.takeWhile_cons_of_pos hb] at h
      simp at h
theorem box_reader {w w' : World} {b : Nat} {s : ByteArray} {row : Option Nat} (hg : (w.alloc (.cells #[.pointer (some ⟨b, 0, none⟩), .string s] 79)).grownBy w' row) (hr : some w.heap.size ≠ row) :
    w'.cell? ⟨w.heap.size, 0, none⟩ = some (.pointer (some ⟨b, 0, none⟩)) ∧ w'.cell? ⟨w.heap.size, 1, none⟩ = some (.string s) :=
  ⟨hg.cell (World.cell?_alloc_mark _ _ _ _ _) hr, hg.cell (World.cell?_alloc_mark _ _ _ _ _) hr⟩
theorem grown_alloc (w : World) (o : Obj) (row : Option Nat) : w.grownBy (w.alloc o) row := grown_below ((Below.refl _ _).alloc (Nat.le_refl _) _) row
set_option maxRecDepth 100000 in
set_option maxHeartbeats 2000000 in
theorem gaps_any (b : Nat) (s : ByteArray) (hs : s.size ≤ 3000) (r : List UInt8) (w : World) (hc : CurR w b s r) :
    Calls Tryz.prog 51 #[.agg #[.pointer (some ⟨b, 0, none⟩), .string s]] w fun e w' => e = .returned (.tuple #[]) ∧ CurR w' b s (r.dropWhile gapB) ∧ w.grownBy w' (some b) := by
  have hbl := hc.lt
  have HC1 : Hid (CurR (w.alloc (.cells #[.pointer (some ⟨b, 0, none⟩), .string s] 79)) b s r) := hc.below ((Below.refl _ _).alloc (Nat.le_refl _) _)
  have HG1 : Hid (w.grownBy (w.alloc (.cells #[.pointer (some ⟨b, 0, none⟩), .string s] 79)) (some b)) := grown_alloc _ _ _
  have hne : some w.heap.size ≠ some b := by intro e; injection e with e; omega
  clear hc
  go_enter Tryz.func51, Tryz.ntmps51
  go_wp2
  go_loopg [] r.length (fun gh wr => ∃ r', r'.length = gh ∧ Hid (CurR wr b s r' ∧ r'.dropWhile gapB = r.dropWhile gapB ∧ (w.alloc (.cells #[.pointer (some ⟨b, 0, none⟩), .string s] 79)).grownBy wr (some b)))
  case atStart => exact ⟨r, rfl, HC1.out, rfl, grown_drewN _ 0 _⟩
  case round =>
    obtain ⟨r', hr', HI⟩ := hrel
    obtain ⟨hx0, hx1⟩ := box_reader HI.out.2.2 hne
    by_cases hbk : 0 < runL blankB r'
    · have hdw := run_dw blankB r'
      go_wp2_with fail
      refine (rd_blanks b s hs r' _ HI.out.1).mono ?_
      rintro e w2 ⟨rfl, hc2, hg2⟩
      rw [decide_eq_true hbk]
      have HI2 : Hid (CurR w2 b s (r'.dropWhile blankB) ∧ (r'.dropWhile blankB).dropWhile gapB = r.dropWhile gapB ∧ (w.alloc (.cells #[.pointer (some ⟨b, 0, none⟩), .string s] 79)).grownBy w2 (some b)) := ⟨hc2, (gap_blank r').trans HI.out.2.1, grown_trans HI.out.2.2 hg2⟩
      clear hc2 hg2
      go_wp2
      go_roundg (r'.dropWhile blankB).length
      case measure => omega
      case rel => exact ⟨_, rfl, HI2⟩
    · have hdw := run_zero r' blankB hbk
      have HNB : Hid (runL blankB r' = 0) := by show _ = _; omega
      go_wp2_with fail
      refine (rd_blanks b s hs r' _ HI.out.1).mono ?_
      rintro e w2 ⟨rfl, hc2, hg2⟩
      rw [decide_eq_false hbk]
      rw [hdw] at hc2
      have HI2 : Hid (CurR w2 b s r' ∧ (w.alloc (.cells #[.pointer (some ⟨b, 0, none⟩), .string s] 79)).grownBy w2 (some b)) := ⟨hc2, grown_trans HI.out.2.2 hg2⟩
      obtain ⟨hy0, hy1⟩ := box_reader HI2.out.2 hne
      clear hc2 hg2 hdw hbk hx0 hx1
      by_cases hcm : ∃ t, r' = 44 :: t
      · obtain ⟨t, rfl⟩ := hcm
        have HL : Hid (t.length < (44 :: t : List UInt8).length) := by show _ < _; simp
        go_wp2_with fail
        refine (rd_mark_yes b s hs 44 t _ HI2.out.1).mono ?_
        rintro e w3 ⟨rfl, hc3, hg3⟩
        have HI3 : Hid (CurR w3 b s t ∧ t.dropWhile gapB = r.dropWhile gapB ∧ (w.alloc (.cells #[.pointer (some ⟨b, 0, none⟩), .string s] 79)).grownBy w3 (some b)) := ⟨hc3, (gap_comma t).symm.trans HI.out.2.1, grown_trans HI2.out.2 hg3⟩
        clear hc3 hg3
        go_wp2
        go_roundg t.length
        case measure => have := HL.out; omega
        case rel => exact ⟨_, rfl, HI3⟩
      · have HE : Hid (r.dropWhile gapB = r') := by
          have h1 := gap_none r' HNB.out (fun t e => hcm ⟨t, e⟩)
          show _ = _
          rw [← HI.out.2.1, h1]
        go_wp2_with fail
        refine (rd_mark_no b s 44 r' (fun t e => hcm ⟨t, e⟩) _ HI2.out.1).mono ?_
        rintro e w3 ⟨rfl, n, rfl⟩
        go_wp2
        refine bodyPost_end (v := .tuple #[]) (by simp [results, Tryz.f51]) rfl ⟨rfl, ?_, ?_⟩
        · rw [HE.out]; exact HI2.out.1.drewN _
        · exact grown_trans HG1.out (grown_trans HI2.out.2 (grown_drewN _ _ _))
set_option maxRecDepth 100000 in
set_option maxHeartbeats 2000000 in
theorem over_at (b : Nat) (s : ByteArray) (r : List UInt8) (w : World) (hc : CurR w b s r) :
    Calls Tryz.prog 91 #[.agg #[.pointer (some ⟨b, 0, none⟩), .string s]] w fun e w' => e = .returned (.bool (stopsL r)) ∧ CurR w' b s r ∧ w.grownBy w' (some b) := by
  have hbl := hc.lt
  have HC1 : Hid (CurR (w.alloc (.cells #[.pointer (some ⟨b, 0, none⟩), .string s] 79)) b s r) := hc.below ((Below.refl _ _).alloc (Nat.le_refl _) _)
  have HG1 : Hid (w.grownBy (w.alloc (.cells #[.pointer (some ⟨b, 0, none⟩), .string s] 79)) (some b)) := grown_alloc _ _ _
  have hend : ∀ n, Calls Tryz.prog 52 #[.pointer (some ⟨b, 0, none⟩)] ((w.alloc (.cells #[.pointer (some ⟨b, 0, none⟩), .string s] 79)).drewN n) fun e w' => e = .returned (.bool r.isEmpty) ∧ ∃ m, w' = ((w.alloc (.cells #[.pointer (some ⟨b, 0, none⟩), .string s] 79)).drewN n).drewN m := fun n => rd_end b s r _ (HC1.out.drewN n)
  have hat : ∀ n, Calls Tryz.prog 88 #[.pointer (some ⟨b, 0, none⟩)] ((w.alloc (.cells #[.pointer (some ⟨b, 0, none⟩), .string s] 79)).drewN n) fun e w' => e = .returned (.int .i64 ((s.size - r.length : Nat) : Int)) ∧ w' = (w.alloc (.cells #[.pointer (some ⟨b, 0, none⟩), .string s] 79)).drewN n := fun n => rd_at b s r _ (HC1.out.drewN n)
  cases r with
  | nil =>
    have hend' : ∀ n, Calls Tryz.prog 52 #[.pointer (some ⟨b, 0, none⟩)] ((w.alloc (.cells #[.pointer (some ⟨b, 0, none⟩), .string s] 79)).drewN n) fun e w' => e = .returned (.bool true) ∧ ∃ m, w' = ((w.alloc (.cells #[.pointer (some ⟨b, 0, none⟩), .string s] 79)).drewN n).drewN m := hend
    clear hend hat hc
    go_enter Tryz.func91, Tryz.ntmps91
    go_wp2
    go_quiet ((go_at_call 52; exact Calls.quiet_of (hend' _)))
    go_wp2
    go_ret
    exact ⟨rfl, HC1.out.drewN _, grown_trans HG1.out (grown_drewN _ _ _)⟩
  | cons c t =>
    have hend' : ∀ n, Calls Tryz.prog 52 #[.pointer (some ⟨b, 0, none⟩)] ((w.alloc (.cells #[.pointer (some ⟨b, 0, none⟩), .string s] 79)).drewN n) fun e w' => e = .returned (.bool false) ∧ ∃ m, w' = ((w.alloc (.cells #[.pointer (some ⟨b, 0, none⟩), .string s] 79)).drewN n).drewN m := hend
    obtain ⟨hk, he⟩ := curR_cons hc
    obtain ⟨k, HK⟩ : ∃ k, Hid (s.size - (c :: t).length = k) := ⟨_, rfl⟩
    rw [HK.out] at hat
    have hk2 : k < s.size := by rw [← HK.out]; exact hk
    have he2 : s[k] = c := by
      have := he
      simp only [HK.out] at this
      exact this
    have HS : Hid (stopsL (c :: t) = ((c.toNat : Int) == 44)) := by
      show _ = _
      unfold stopsL
      rw [Bool.eq_iff_iff, beq_iff_eq, beq_iff_eq]
      constructor
      · rintro rfl; rfl
      · intro e; exact UInt8.toNat_inj.1 (by have : (44 : UInt8).toNat = 44 := rfl; omega)
    clear hend hc hk he
    have hkS : (k : Int) < (s.size : Int) := by omega
    go_enter Tryz.func91, Tryz.ntmps91
    go_wp2
    go_quiet (first | (go_at_call 52; exact Calls.quiet_of (hend' _)) | (go_at_call 88; exact Calls.quiet_of_same (hat _)))
    go_wp2
    go_ret
    exact ⟨ret_bool HS.out.symm, HC1.out.drewN _, grown_trans HG1.out (grown_drewN _ _ _)⟩
end Go.Proofs.YtooaiamfbmjmnaaGreatDoor
