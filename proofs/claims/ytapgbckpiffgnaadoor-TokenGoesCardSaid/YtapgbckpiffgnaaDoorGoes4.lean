/- The law TokenGoes, walked. -/
import Derived.Test.YtapgbckpiffgnaaDoorRQtd2
import Derived.Deep.Cut
namespace Go.Proofs.YtapgbckpiffgnaaDoor
open Go.RowKit

theorem drewN_go {B : Nat} {a w : World} (h : Below B a w) (n : Nat) : Below B a (w.drewN n) := h.trans ⟨rfl, rfl, rfl, Nat.le_refl _, fun _ _ => rfl⟩
/-- A row of numbers that lies somewhere. -/
structure Ints (w : World) (a0 : Option Addr) (len b off : Nat) (zs : List Int) : Prop where
  len_eq : zs.length = len
  lies : 0 < len → a0 = some ⟨b, off, none⟩ ∧ b < w.heap.size
  cells : ∀ (j : Nat) (z : Int), zs[j]? = some z → w.cell? ⟨b, off + j, none⟩ = some (.int .i64 z)
theorem low8 (m : Int) : ∃ c : UInt8, IntKind.u8.wrap m = (c.toNat : Int) := by
  refine ⟨UInt8.ofNat (m % 256).toNat, ?_⟩
  have h1 : 0 ≤ m % 256 := Int.emod_nonneg _ (by decide)
  have h2 : m % 256 < 256 := Int.emod_lt_of_pos _ (by decide)
  rw [ofNat_back _ h1 h2]
  rfl
theorem two_grown {w0 w w' : World} {b b' : Nat} {s : ByteArray} {k : Nat} {B : Nat} (hd : Cur w b' s k) (hb : Below B w0 w) (hg : w.grownBy w' (some b)) (hne : b' ≠ b) (hB : B ≤ b) (hz : B ≤ w.heap.size) : Cur w' b' s k ∧ Below B w0 w' :=
  ⟨hd.grown hg (by intro e; injection e with e; exact hne e), hb.grown hg hz (fun i hi => by injection hi with hi; omega)⟩
theorem stands_yes (s : ByteArray) (k : Nat) (h : k < s.size) (c : UInt8) (e : s[k] = c) : standsB s k c = true := (hasPrefix_at s k c).2 ⟨h, e⟩
theorem stands_no (s : ByteArray) (k : Nat) (c : UInt8) (h : ∀ h : k < s.size, s[k] ≠ c) : standsB s k c = false := by
  cases e : standsB s k c
  · rfl
  · obtain ⟨h1, h2⟩ := (hasPrefix_at s k c).1 e
    exact absurd h2 (h h1)
/-- The program's Mark, told as the document's. -/
theorem mark_as (b : Nat) (s : ByteArray) (hs : s.size ≤ 5000) (k : Nat) (c : UInt8) (w : World) (hc : Cur w b s k) :
    Calls Tryd.prog 16 #[.pointer (some ⟨b, 0, none⟩), .int .u8 (c.toNat : Int)] w fun e w' => e = .returned (.bool (standsB s k c)) ∧ Cur w' b s (if standsB s k c then k + 1 else k) ∧ w.grownBy w' (some b) := by
  by_cases h : k < s.size
  · by_cases e : s[k] = c
    · rw [stands_yes s k h c e]
      exact mark_yes b s hs k h c e w hc
    · rw [stands_no s k c (fun _ => e)]
      refine (mark_other b s k h c e w hc).mono ?_
      rintro e w' ⟨rfl, n, rfl⟩
      exact ⟨rfl, hc.drewN n, grown_drewN w n _⟩
  · obtain rfl : k = s.size := by have := hc.le; omega
    rw [stands_no s s.size c (fun h2 => absurd h2 (by omega))]
    refine (mark_end b s c w hc).mono ?_
    rintro e w' ⟨rfl, n, rfl⟩
    exact ⟨rfl, hc.drewN n, grown_drewN w n _⟩
theorem size_of_text {t : ByteArray} {l : List UInt8} (h : t.data.toList = l) : t = bs l := by rw [← h, bs_self]
set_option maxRecDepth 100000 in
set_option maxHeartbeats 4000000 in
theorem tokenGoes_walk (s : ByteArray) (_hs : s.size ≤ 140737488355328) (a0 : Option Addr) (len cap b off : Nat) (hlen : len ≤ 9223372036854775807) (zs : List Int) (hbig : ∀ z ∈ zs, -9223372036854775808 ≤ z ∧ z ≤ 9223372036854775807) (w : World) (hx : Ints w a0 len b off zs) :
    Calls Tryd.prog 3 #[.string s, .slice a0 len cap] w fun e w' => e = .returned (.bool true) ∧ Below w.heap.size w w' := by
  have HX : Hid (Ints w a0 len b off zs) := hx
  have HBig : Hid (∀ z ∈ zs, -9223372036854775808 ≤ z ∧ z ≤ 9223372036854775807) := hbig
  have hl := hx.len_eq
  clear hx hbig
  by_cases h200 : (200 : Int) < (s.size : Int)
  · clear hl hlen
    go_enter Tryd.func3, Tryd.ntmps3
    go_wp2
    go_ret
    exact ⟨rfl, Below.refl _ _⟩
  · have h2 : s.size ≤ 200 := by omega
    clear _hs
    by_cases h40 : (40 : Int) < (len : Int)
    · clear hl hlen
      go_enter Tryd.func3, Tryd.ntmps3
      go_wp2
      go_ret
      exact ⟨rfl, Below.refl _ _⟩
    · have h4 : len ≤ 40 := by omega
      clear hlen
      go_enter Tryd.func3, Tryd.ntmps3
      go_wp2_with (go_at_call 7; refine (on_any s _).mono ?_; rintro e w1 ⟨rfl, hc1, hb1, hz1⟩)
      obtain ⟨bc, hbc⟩ : ∃ bc : Nat, w.heap.size = bc := ⟨_, rfl⟩
      obtain ⟨bd, hbd⟩ : ∃ bd : Nat, w1.heap.size = bd := ⟨_, rfl⟩
      have hW : Cur (w1.alloc (.cells #[.string s, .int .i64 0] 27)) bd s 0 := ⟨by rw [← hbd]; exact World.cell?_alloc_mark _ _ _ _ _, by rw [← hbd]; exact World.cell?_alloc_mark _ _ _ _ _, by rw [← hbd]; simp, Nat.zero_le _⟩
      have hW2 : Cur (w1.alloc (.cells #[.string s, .int .i64 0] 27)) bc s 0 := by rw [← hbc]; exact hc1.below ((Below.refl _ _).alloc (Nat.le_refl _) _)
      have hW3 : Below w.heap.size w (w1.alloc (.cells #[.string s, .int .i64 0] 27)) := hb1.alloc hb1.size _
      have hne : bd ≠ bc := by omega
      have HNe : Hid (bd ≠ bc ∧ w.heap.size = bc ∧ bc < bd) := ⟨hne, hbc, by omega⟩
      have HW : Hid (Cur (w1.alloc (.cells #[.string s, .int .i64 0] 27)) bc s 0 ∧ Cur (w1.alloc (.cells #[.string s, .int .i64 0] 27)) bd s 0 ∧ Below w.heap.size w (w1.alloc (.cells #[.string s, .int .i64 0] 27))) := ⟨hW2, hW, hW3⟩
      rw [hbc, hbd]
      clear hW hW2 hW3 hne hc1 hb1 hz1
      go_loopw [7] (fun u wr => ∃ (i k : Nat), i ≤ len ∧ u = .int .i64 i ∧ Hid (Cur wr bc s k ∧ Cur wr bd s k ∧ Below w.heap.size w wr)) (fun u _ => len - (intOf u).toNat)
      case atStart => exact ⟨0, 0, Nat.zero_le _, rfl, HW⟩
      case round =>
        obtain ⟨i, k, hi, rfl, HK⟩ := hrel
        clear hbc hbd HW
        by_cases hlt : i < len
        · obtain ⟨m, hmi⟩ : ∃ m, zs[i]? = some m := ⟨zs[i]'(by omega), List.getElem?_eq_getElem (by omega)⟩
          obtain ⟨hm0, hm1⟩ := HBig.out m (List.mem_of_getElem? hmi)
          obtain ⟨ha0, hbl⟩ := HX.out.lies (by omega)
          subst ha0
          have hcell : wr.cell? ⟨b, off + i, none⟩ = some (.int .i64 m) := (HK.out.2.2.cell (p := ⟨b, off + i, none⟩) hbl).trans (HX.out.cells i m hmi)
          have zK := HK.out.2.2.size
          have HZ : Hid (w.heap.size ≤ wr.heap.size) := zK
          clear hmi zK hbl
          by_cases hneg : m < 0
          · have hsub : IntKind.i64.wrap (-2 - m) = -2 - m := by
              unfold IntKind.wrap
              simp [IntKind.bits, IntKind.signed]
              omega
            have hsub2 : wrap64 (-2 - m) = -2 - m := by unfold wrap64; omega
            go_wp2_with fail
            refine (go_any bc s k (-2 - m) _ HK.out.1).mono ?_
            rintro e w2 ⟨rfl, hc2, hg2⟩
            obtain ⟨hd2, hb2⟩ := two_grown HK.out.2.1 HK.out.2.2 hg2 HNe.out.1 (by have := HNe.out; omega) HZ.out
            have HK2 : Hid (Cur w2 bc s (clampK s.size (-2 - m)) ∧ Cur w2 bd s k ∧ Below w.heap.size w w2) := ⟨hc2, hd2, hb2⟩
            clear hc2 hg2 hd2 hb2
            go_wp2_with fail
            refine (refGo_any bd s (by omega) k (-2 - m) _ HK2.out.2.1).mono ?_
            rintro e w3 ⟨rfl, hc3, hg3⟩
            obtain ⟨hd3, hb3⟩ := two_grown HK2.out.1 HK2.out.2.2 hg3 (Ne.symm HNe.out.1) (by have := HNe.out; omega) HK2.out.2.2.size
            have HK3 : Hid (Cur w3 bc s (clampK s.size (-2 - m)) ∧ Cur w3 bd s (clampK s.size (-2 - m)) ∧ Below w.heap.size w w3) := ⟨hd3, hc3, hb3⟩
            clear hc3 hg3 hd3 hb3 HK2
            have HE : Hid (Cur w3 bc s (clampK s.size (-2 - m)) ∧ Cur w3 bd s (clampK s.size (-2 - m)) ∧ Below w.heap.size w w3) := HK3.out
            have hat : ∀ nd, Calls Tryd.prog 18 #[.pointer (some ⟨bc, 0, none⟩)] (w3.drewN nd) fun e w' => e = .returned (.int .i64 ((clampK s.size (-2 - m) : Nat) : Int)) ∧ w' = w3.drewN nd := fun nd => at_any bc s (clampK s.size (-2 - m)) _ (HE.out.1.drewN nd)
            have hend : ∀ nd, Calls Tryd.prog 19 #[.pointer (some ⟨bc, 0, none⟩)] (w3.drewN nd) fun e w' => e = .returned (.bool (((clampK s.size (-2 - m) : Nat) : Int) == (s.size : Int))) ∧ ∃ m, w' = (w3.drewN nd).drewN m := fun nd => end_any bc s (clampK s.size (-2 - m)) _ (HE.out.1.drewN nd)
            obtain ⟨g1, g2, g3, g4⟩ := HE.out.2.1
            obtain ⟨kk, HKK⟩ : ∃ kk : Nat, Hid ((clampK s.size (-2 - m)) = kk) := ⟨_, rfl⟩
            rw [HKK.out] at hat hend g2 g4
            have HE2 : Hid (Cur w3 bc s kk ∧ Cur w3 bd s kk ∧ Below w.heap.size w w3) := by have := HE.out; rw [HKK.out] at this; exact this
            have hnn : ((kk : Int) != (kk : Int)) = false := by simp
            obtain ⟨eb, HEB⟩ : ∃ eb : Bool, Hid (((kk : Int) == (s.size : Int)) = eb) := ⟨_, rfl⟩
            have heb := HEB.out
            have hbb : (eb != eb) = false := by simp
            rw [heb] at hend
            clear HE
            go_wp2
            go_quiet ((first | (go_at_call 18; exact Calls.quiet_of_same (hat _)) | (go_at_call 19; exact Calls.quiet_of (hend _))))
            go_wp2
            go_roundw
            case rel => exact ⟨i + 1, kk, by omega, by go_num, ⟨HE2.out.1.drewN _, HE2.out.2.1.drewN _, drewN_go HE2.out.2.2 _⟩⟩
            case measure => simp [intOf]; omega
          by_cases hz0 : m = 0
          · subst hz0
            obtain ⟨n, HN⟩ : ∃ n : Nat, Hid (runL blankB (s.data.toList.drop k) = n) := ⟨_, rfl⟩
            obtain ⟨q, HQ⟩ : ∃ q : Bool, Hid (decide (0 < n) = q) := ⟨_, rfl⟩
            go_wp2_with fail
            refine (blanks_any bc s (by omega) k _ HK.out.1).mono ?_
            rintro e w2 ⟨rfl, hc2, hg2⟩
            obtain ⟨hd2, hb2⟩ := two_grown HK.out.2.1 HK.out.2.2 hg2 HNe.out.1 (by have := HNe.out; omega) HZ.out
            rw [HN.out] at hc2 ⊢
            rw [HQ.out]
            have HK2 : Hid (Cur w2 bc s (k + n) ∧ Cur w2 bd s k ∧ Below w.heap.size w w2) := ⟨hc2, hd2, hb2⟩
            clear hc2 hg2 hd2 hb2
            go_wp2_with fail
            refine (refBlanks_any bd s (by omega) k _ HK2.out.2.1).mono ?_
            rintro e w3 ⟨rfl, hc3, hg3⟩
            obtain ⟨hd3, hb3⟩ := two_grown HK2.out.1 HK2.out.2.2 hg3 (Ne.symm HNe.out.1) (by have := HNe.out; omega) HK2.out.2.2.size
            rw [HN.out] at hc3 ⊢
            rw [HQ.out]
            have HK3 : Hid (Cur w3 bc s (k + n) ∧ Cur w3 bd s (k + n) ∧ Below w.heap.size w w3) := ⟨hd3, hc3, hb3⟩
            have hqq : (q == q) = true := by simp
            clear hc3 hg3 hd3 hb3 HK2
            have HE : Hid (Cur w3 bc s (k + n) ∧ Cur w3 bd s (k + n) ∧ Below w.heap.size w w3) := HK3.out
            have hat : ∀ nd, Calls Tryd.prog 18 #[.pointer (some ⟨bc, 0, none⟩)] (w3.drewN nd) fun e w' => e = .returned (.int .i64 ((k + n : Nat) : Int)) ∧ w' = w3.drewN nd := fun nd => at_any bc s (k + n) _ (HE.out.1.drewN nd)
            have hend : ∀ nd, Calls Tryd.prog 19 #[.pointer (some ⟨bc, 0, none⟩)] (w3.drewN nd) fun e w' => e = .returned (.bool (((k + n : Nat) : Int) == (s.size : Int))) ∧ ∃ m, w' = (w3.drewN nd).drewN m := fun nd => end_any bc s (k + n) _ (HE.out.1.drewN nd)
            obtain ⟨g1, g2, g3, g4⟩ := HE.out.2.1
            obtain ⟨kk, HKK⟩ : ∃ kk : Nat, Hid ((k + n) = kk) := ⟨_, rfl⟩
            rw [HKK.out] at hat hend g2 g4
            have HE2 : Hid (Cur w3 bc s kk ∧ Cur w3 bd s kk ∧ Below w.heap.size w w3) := by have := HE.out; rw [HKK.out] at this; exact this
            have hnn : ((kk : Int) != (kk : Int)) = false := by simp
            obtain ⟨eb, HEB⟩ : ∃ eb : Bool, Hid (((kk : Int) == (s.size : Int)) = eb) := ⟨_, rfl⟩
            have heb := HEB.out
            have hbb : (eb != eb) = false := by simp
            rw [heb] at hend
            clear HE
            go_wp2
            go_quiet ((first | (go_at_call 18; exact Calls.quiet_of_same (hat _)) | (go_at_call 19; exact Calls.quiet_of (hend _))))
            go_wp2
            go_roundw
            case rel => exact ⟨i + 1, kk, by omega, by go_num, ⟨HE2.out.1.drewN _, HE2.out.2.1.drewN _, drewN_go HE2.out.2.2 _⟩⟩
            case measure => simp [intOf]; omega
          by_cases hz1 : m = 1
          · subst hz1
            obtain ⟨n, HN⟩ : ∃ n : Nat, Hid (runL tokB (s.data.toList.drop k) = n) := ⟨_, rfl⟩
            go_wp2_with fail
            refine (word_any bc s (by omega) k _ HK.out.1).mono ?_
            rintro e w2 ⟨t, rfl, _, HT, hc2, hg2⟩
            obtain ⟨hd2, hb2⟩ := two_grown HK.out.2.1 HK.out.2.2 hg2 HNe.out.1 (by have := HNe.out; omega) HZ.out
            rw [HN.out] at hc2
            have HK2 : Hid (Cur w2 bc s (k + n) ∧ Cur w2 bd s k ∧ Below w.heap.size w w2) := ⟨hc2, hd2, hb2⟩
            clear hc2 hg2 hd2 hb2
            go_wp2_with fail
            refine (refWord_any bd s (by omega) k _ HK2.out.2.1).mono ?_
            rintro e w3 ⟨t', rfl, hT', hc3, hg3⟩
            obtain ⟨hd3, hb3⟩ := two_grown HK2.out.1 HK2.out.2.2 hg3 (Ne.symm HNe.out.1) (by have := HNe.out; omega) HK2.out.2.2.size
            rw [HN.out] at hc3
            obtain rfl : t = t' := by rw [size_of_text HT.out, size_of_text hT']
            have HK3 : Hid (Cur w3 bc s (k + n) ∧ Cur w3 bd s (k + n) ∧ Below w.heap.size w w3) := ⟨hd3, hc3, hb3⟩
            have htt : (t.toList == t.toList) = true := by simp
            clear hc3 hg3 hd3 hb3 HK2 hT'
            have HE : Hid (Cur w3 bc s (k + n) ∧ Cur w3 bd s (k + n) ∧ Below w.heap.size w w3) := HK3.out
            have hat : ∀ nd, Calls Tryd.prog 18 #[.pointer (some ⟨bc, 0, none⟩)] (w3.drewN nd) fun e w' => e = .returned (.int .i64 ((k + n : Nat) : Int)) ∧ w' = w3.drewN nd := fun nd => at_any bc s (k + n) _ (HE.out.1.drewN nd)
            have hend : ∀ nd, Calls Tryd.prog 19 #[.pointer (some ⟨bc, 0, none⟩)] (w3.drewN nd) fun e w' => e = .returned (.bool (((k + n : Nat) : Int) == (s.size : Int))) ∧ ∃ m, w' = (w3.drewN nd).drewN m := fun nd => end_any bc s (k + n) _ (HE.out.1.drewN nd)
            obtain ⟨g1, g2, g3, g4⟩ := HE.out.2.1
            obtain ⟨kk, HKK⟩ : ∃ kk : Nat, Hid ((k + n) = kk) := ⟨_, rfl⟩
            rw [HKK.out] at hat hend g2 g4
            have HE2 : Hid (Cur w3 bc s kk ∧ Cur w3 bd s kk ∧ Below w.heap.size w w3) := by have := HE.out; rw [HKK.out] at this; exact this
            have hnn : ((kk : Int) != (kk : Int)) = false := by simp
            obtain ⟨eb, HEB⟩ : ∃ eb : Bool, Hid (((kk : Int) == (s.size : Int)) = eb) := ⟨_, rfl⟩
            have heb := HEB.out
            have hbb : (eb != eb) = false := by simp
            rw [heb] at hend
            clear HE
            go_wp2
            go_quiet ((first | (go_at_call 18; exact Calls.quiet_of_same (hat _)) | (go_at_call 19; exact Calls.quiet_of (hend _))))
            go_wp2
            go_roundw
            case rel => exact ⟨i + 1, kk, by omega, by go_num, ⟨HE2.out.1.drewN _, HE2.out.2.1.drewN _, drewN_go HE2.out.2.2 _⟩⟩
            case measure => simp [intOf]; omega
          by_cases hz2 : m = 2
          · subst hz2
            go_wp2_with fail
            refine (quoted_any bc s (by omega) k _ HK.out.1).mono ?_
            rintro e w2 (⟨t, n, hq, rfl, hc2, hg2⟩ | ⟨hq, rfl, hc2, hg2⟩)
            · obtain ⟨hd2, hb2⟩ := two_grown HK.out.2.1 HK.out.2.2 hg2 HNe.out.1 (by have := HNe.out; omega) HZ.out
              have HK2 : Hid (Cur w2 bc s (k + n) ∧ Cur w2 bd s k ∧ Below w.heap.size w w2) := ⟨hc2, hd2, hb2⟩
              have HQ : Hid (quotedL (s.data.toList.drop k) = some (t, n)) := hq
              obtain ⟨x, HXX⟩ : ∃ x : ByteArray, Hid (bs t = x) := ⟨_, rfl⟩
              rw [HXX.out]
              clear hc2 hg2 hd2 hb2 hq
              go_wp2_with fail
              refine (refQtd_any bd s (by omega) k _ HK2.out.2.1).mono ?_
              rintro e w3 (⟨t', n', hq, rfl, hc3, hg3⟩ | ⟨hq, rfl, hc3, hg3⟩)
              · rw [HQ.out] at hq
                cases hq
                obtain ⟨hd3, hb3⟩ := two_grown HK2.out.1 HK2.out.2.2 hg3 (Ne.symm HNe.out.1) (by have := HNe.out; omega) HK2.out.2.2.size
                rw [HXX.out]
                have HK3 : Hid (Cur w3 bc s (k + n) ∧ Cur w3 bd s (k + n) ∧ Below w.heap.size w w3) := ⟨hd3, hc3, hb3⟩
                have htt : (x.toList == x.toList) = true := by simp
                clear hc3 hg3 hd3 hb3 HK2
                have HE : Hid (Cur w3 bc s (k + n) ∧ Cur w3 bd s (k + n) ∧ Below w.heap.size w w3) := HK3.out
                have hat : ∀ nd, Calls Tryd.prog 18 #[.pointer (some ⟨bc, 0, none⟩)] (w3.drewN nd) fun e w' => e = .returned (.int .i64 ((k + n : Nat) : Int)) ∧ w' = w3.drewN nd := fun nd => at_any bc s (k + n) _ (HE.out.1.drewN nd)
                have hend : ∀ nd, Calls Tryd.prog 19 #[.pointer (some ⟨bc, 0, none⟩)] (w3.drewN nd) fun e w' => e = .returned (.bool (((k + n : Nat) : Int) == (s.size : Int))) ∧ ∃ m, w' = (w3.drewN nd).drewN m := fun nd => end_any bc s (k + n) _ (HE.out.1.drewN nd)
                obtain ⟨g1, g2, g3, g4⟩ := HE.out.2.1
                obtain ⟨kk, HKK⟩ : ∃ kk : Nat, Hid ((k + n) = kk) := ⟨_, rfl⟩
                rw [HKK.out] at hat hend g2 g4
                have HE2 : Hid (Cur w3 bc s kk ∧ Cur w3 bd s kk ∧ Below w.heap.size w w3) := by have := HE.out; rw [HKK.out] at this; exact this
                have hnn : ((kk : Int) != (kk : Int)) = false := by simp
                obtain ⟨eb, HEB⟩ : ∃ eb : Bool, Hid (((kk : Int) == (s.size : Int)) = eb) := ⟨_, rfl⟩
                have heb := HEB.out
                have hbb : (eb != eb) = false := by simp
                rw [heb] at hend
                clear HE
                go_wp2
                go_quiet ((first | (go_at_call 18; exact Calls.quiet_of_same (hat _)) | (go_at_call 19; exact Calls.quiet_of (hend _))))
                go_wp2
                go_roundw
                case rel => exact ⟨i + 1, kk, by omega, by go_num, ⟨HE2.out.1.drewN _, HE2.out.2.1.drewN _, drewN_go HE2.out.2.2 _⟩⟩
                case measure => simp [intOf]; omega
              · rw [HQ.out] at hq
                cases hq
            · obtain ⟨hd2, hb2⟩ := two_grown HK.out.2.1 HK.out.2.2 hg2 HNe.out.1 (by have := HNe.out; omega) HZ.out
              have HK2 : Hid (Cur w2 bc s k ∧ Cur w2 bd s k ∧ Below w.heap.size w w2) := ⟨hc2, hd2, hb2⟩
              have HQ : Hid (quotedL (s.data.toList.drop k) = none) := hq
              clear hc2 hg2 hd2 hb2 hq
              go_wp2_with fail
              refine (refQtd_any bd s (by omega) k _ HK2.out.2.1).mono ?_
              rintro e w3 (⟨t', n', hq, rfl, hc3, hg3⟩ | ⟨hq, rfl, hc3, hg3⟩)
              · rw [HQ.out] at hq
                cases hq
              · obtain ⟨hd3, hb3⟩ := two_grown HK2.out.1 HK2.out.2.2 hg3 (Ne.symm HNe.out.1) (by have := HNe.out; omega) HK2.out.2.2.size
                have HK3 : Hid (Cur w3 bc s k ∧ Cur w3 bd s k ∧ Below w.heap.size w w3) := ⟨hd3, hc3, hb3⟩
                clear hc3 hg3 hd3 hb3 HK2 hq
                have HE : Hid (Cur w3 bc s (k) ∧ Cur w3 bd s (k) ∧ Below w.heap.size w w3) := HK3.out
                have hat : ∀ nd, Calls Tryd.prog 18 #[.pointer (some ⟨bc, 0, none⟩)] (w3.drewN nd) fun e w' => e = .returned (.int .i64 ((k : Nat) : Int)) ∧ w' = w3.drewN nd := fun nd => at_any bc s (k) _ (HE.out.1.drewN nd)
                have hend : ∀ nd, Calls Tryd.prog 19 #[.pointer (some ⟨bc, 0, none⟩)] (w3.drewN nd) fun e w' => e = .returned (.bool (((k : Nat) : Int) == (s.size : Int))) ∧ ∃ m, w' = (w3.drewN nd).drewN m := fun nd => end_any bc s (k) _ (HE.out.1.drewN nd)
                obtain ⟨g1, g2, g3, g4⟩ := HE.out.2.1
                obtain ⟨kk, HKK⟩ : ∃ kk : Nat, Hid ((k) = kk) := ⟨_, rfl⟩
                rw [HKK.out] at hat hend g2 g4
                have HE2 : Hid (Cur w3 bc s kk ∧ Cur w3 bd s kk ∧ Below w.heap.size w w3) := by have := HE.out; rw [HKK.out] at this; exact this
                have hnn : ((kk : Int) != (kk : Int)) = false := by simp
                obtain ⟨eb, HEB⟩ : ∃ eb : Bool, Hid (((kk : Int) == (s.size : Int)) = eb) := ⟨_, rfl⟩
                have heb := HEB.out
                have hbb : (eb != eb) = false := by simp
                rw [heb] at hend
                clear HE
                go_wp2
                go_quiet ((first | (go_at_call 18; exact Calls.quiet_of_same (hat _)) | (go_at_call 19; exact Calls.quiet_of (hend _))))
                go_wp2
                go_roundw
                case rel => exact ⟨i + 1, kk, by omega, by go_num, ⟨HE2.out.1.drewN _, HE2.out.2.1.drewN _, drewN_go HE2.out.2.2 _⟩⟩
                case measure => simp [intOf]; omega
          obtain ⟨c, hc⟩ := low8 m
          have hcl : (c.toNat : Int) < 256 := by have := c.toNat_lt; omega
          have z0 : (m == 0) = false := beq_eq_false_iff_ne.2 hz0
          have z1 : (m == 1) = false := beq_eq_false_iff_ne.2 hz1
          have z2 : (m == 2) = false := beq_eq_false_iff_ne.2 hz2
          obtain ⟨q, HQ⟩ : ∃ q : Bool, Hid (standsB s k c = q) := ⟨_, rfl⟩
          have hqq : (q == q) = true := by simp
          clear hz0 hz1 hz2
          go_wp2_with fail
          refine (mark_as bc s (by omega) k c _ HK.out.1).mono ?_
          rintro e w2 ⟨rfl, hc2, hg2⟩
          obtain ⟨hd2, hb2⟩ := two_grown HK.out.2.1 HK.out.2.2 hg2 HNe.out.1 (by have := HNe.out; omega) HZ.out
          rw [HQ.out] at hc2 ⊢
          obtain ⟨k2, HK2n⟩ : ∃ k2 : Nat, Hid ((if q = true then k + 1 else k) = k2) := ⟨_, rfl⟩
          rw [HK2n.out] at hc2
          have HK2 : Hid (Cur w2 bc s k2 ∧ Cur w2 bd s k ∧ Below w.heap.size w w2) := ⟨hc2, hd2, hb2⟩
          clear hc2 hg2 hd2 hb2
          go_wp2_with fail
          refine (refMark_any bd s (by omega) k c _ HK2.out.2.1).mono ?_
          rintro e w3 ⟨rfl, hc3, hg3⟩
          obtain ⟨hd3, hb3⟩ := two_grown HK2.out.1 HK2.out.2.2 hg3 (Ne.symm HNe.out.1) (by have := HNe.out; omega) HK2.out.2.2.size
          rw [HQ.out] at hc3 ⊢
          rw [HK2n.out] at hc3
          have HK3 : Hid (Cur w3 bc s k2 ∧ Cur w3 bd s k2 ∧ Below w.heap.size w w3) := ⟨hd3, hc3, hb3⟩
          clear hc3 hg3 hd3 hb3 HK2
          have HE : Hid (Cur w3 bc s (k2) ∧ Cur w3 bd s (k2) ∧ Below w.heap.size w w3) := HK3.out
          have hat : ∀ nd, Calls Tryd.prog 18 #[.pointer (some ⟨bc, 0, none⟩)] (w3.drewN nd) fun e w' => e = .returned (.int .i64 ((k2 : Nat) : Int)) ∧ w' = w3.drewN nd := fun nd => at_any bc s (k2) _ (HE.out.1.drewN nd)
          have hend : ∀ nd, Calls Tryd.prog 19 #[.pointer (some ⟨bc, 0, none⟩)] (w3.drewN nd) fun e w' => e = .returned (.bool (((k2 : Nat) : Int) == (s.size : Int))) ∧ ∃ m, w' = (w3.drewN nd).drewN m := fun nd => end_any bc s (k2) _ (HE.out.1.drewN nd)
          obtain ⟨g1, g2, g3, g4⟩ := HE.out.2.1
          obtain ⟨kk, HKK⟩ : ∃ kk : Nat, Hid ((k2) = kk) := ⟨_, rfl⟩
          rw [HKK.out] at hat hend g2 g4
          have HE2 : Hid (Cur w3 bc s kk ∧ Cur w3 bd s kk ∧ Below w.heap.size w w3) := by have := HE.out; rw [HKK.out] at this; exact this
          have hnn : ((kk : Int) != (kk : Int)) = false := by simp
          obtain ⟨eb, HEB⟩ : ∃ eb : Bool, Hid (((kk : Int) == (s.size : Int)) = eb) := ⟨_, rfl⟩
          have heb := HEB.out
          have hbb : (eb != eb) = false := by simp
          rw [heb] at hend
          clear HE
          go_wp2
          go_quiet ((first | (go_at_call 18; exact Calls.quiet_of_same (hat _)) | (go_at_call 19; exact Calls.quiet_of (hend _))))
          go_wp2
          go_roundw
          case rel => exact ⟨i + 1, kk, by omega, by go_num, ⟨HE2.out.1.drewN _, HE2.out.2.1.drewN _, drewN_go HE2.out.2.2 _⟩⟩
          case measure => simp [intOf]; omega
        · go_wp2
          go_ret
          exact ⟨rfl, HK.out.2.2⟩
end Go.Proofs.YtapgbckpiffgnaaDoor
