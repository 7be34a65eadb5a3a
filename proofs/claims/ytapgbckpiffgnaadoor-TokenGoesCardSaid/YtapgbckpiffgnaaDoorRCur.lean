/- The document's cursor: Go, Blanks, Mark, Word. -/
import Derived.Test.YtapgbckpiffgnaaDoorCurGo
import Derived.Test.YtapgbckpiffgnaaDoorQtd
import Derived.Test.YtapgbckpiffgnaaDoorRefQt
import Derived.Test.YtapgbckpiffgnaaDoorChar
import Derived.Test.YtapgbckpiffgnaaDoorShTrim
import Derived.Deep.LoopGhost
namespace Go.Proofs.YtapgbckpiffgnaaDoor
open Go.RowKit Go.Shelf

theorem set_any {w : World} {b : Nat} {s : ByteArray} {k : Nat} (h : Cur w b s k) (v : Int) : (w.setCell ⟨b, 1, none⟩ (.int .i64 v)).cell? ⟨b, 0, none⟩ = some (.string s) ∧ (w.setCell ⟨b, 1, none⟩ (.int .i64 v)).cell? ⟨b, 1, none⟩ = some (.int .i64 v) ∧ (w.setCell ⟨b, 1, none⟩ (.int .i64 v)).frozen? ⟨b, 1, none⟩ = false := by
  refine ⟨?_, World.cell?_setCell_same _ _ _ h.place, ?_⟩
  · rw [World.cell?_setCell_other _ _ _ _ (by intro e; injection e with _ e2; omega)]
    exact h.text
  · have := h.free
    simpa using this
theorem cur_set_twice {w : World} {b : Nat} {s : ByteArray} {k : Nat} (h : Cur w b s k) (v : Int) (m : Nat) (hm : m ≤ s.size) (u : Int) (hu : u = (m : Int)) : Cur ((w.setCell ⟨b, 1, none⟩ (.int .i64 v)).setCell ⟨b, 1, none⟩ (.int .i64 u)) b s m := by
  subst hu
  obtain ⟨h1, h2, h3⟩ := set_any h v
  refine ⟨?_, World.cell?_setCell_same _ _ _ h2, ?_, hm⟩
  · rw [World.cell?_setCell_other _ _ _ _ (by intro e; injection e with _ e2; omega)]
    exact h1
  · simpa using h3
set_option maxHeartbeats 1000000 in
theorem refGo_any (b : Nat) (s : ByteArray) (hs : s.size ≤ 5000) (k : Nat) (m : Int) (w : World) (hc : Cur w b s k) :
    Calls Tryd.prog 9 #[.pointer (some ⟨b, 0, none⟩), .int .i64 m] w fun e w' => e = .returned (.tuple #[]) ∧ Cur w' b s (clampK s.size m) ∧ w.grownBy w' (some b) := by
  have HC : Hid (Cur w b s k) := hc
  obtain ⟨f1, f2, f3⟩ := set_any hc m
  obtain ⟨h1, h2, h3, h4⟩ := hc
  by_cases hneg : m < 0
  · have hle : ¬ (s.size : Int) < m := by omega
    obtain ⟨g1, g2, g3⟩ : ((w.setCell ⟨b, 1, none⟩ (.int .i64 m)).setCell ⟨b, 1, none⟩ (.int .i64 0)).cell? ⟨b, 0, none⟩ = some (.string s) ∧ True ∧ True := ⟨by rw [World.cell?_setCell_other _ _ _ _ (by intro e; injection e with _ e2; omega)]; exact f1, trivial, trivial⟩
    go_enter Tryd.func9, Tryd.ntmps9
    go_wp2
    refine bodyPost_end (v := .tuple #[]) (by simp [results, Tryd.f9]) rfl ⟨rfl, cur_set_twice HC.out m _ (clampK_le _ _) 0 (by unfold clampK; omega), grown_trans (grown_set _ _ _ _) (grown_set _ _ _ _)⟩
  · by_cases hbig : (s.size : Int) < m
    · go_enter Tryd.func9, Tryd.ntmps9
      go_wp2
      refine bodyPost_end (v := .tuple #[]) (by simp [results, Tryd.f9]) rfl ⟨rfl, cur_set_twice HC.out m _ (clampK_le _ _) _ (by unfold clampK; omega), grown_trans (grown_set _ _ _ _) (grown_set _ _ _ _)⟩
    · go_enter Tryd.func9, Tryd.ntmps9
      go_wp2
      refine bodyPost_end (v := .tuple #[]) (by simp [results, Tryd.f9]) rfl ⟨rfl, HC.out.set _ (clampK_le _ _) _ (by unfold clampK; omega), grown_set _ _ _ _⟩
theorem trim_blank (l : List UInt8) : Lib.trimLeftS l [32, 9] = l.dropWhile blankB := by
  unfold Lib.trimLeftS
  congr 1
  funext c
  unfold blankB
  simp
  rfl
theorem drop_len (f : UInt8 → Bool) (l : List UInt8) : (l.dropWhile f).length + runL f l = l.length := by
  rw [← drop_runL, List.length_drop]
  have := runL_le f l
  omega
set_option maxRecDepth 100000 in
set_option maxHeartbeats 2000000 in
theorem refBlanks_any (b : Nat) (s : ByteArray) (hs : s.size ≤ 5000) (k : Nat) (w : World) (hc : Cur w b s k) :
    Calls Tryd.prog 11 #[.pointer (some ⟨b, 0, none⟩)] w fun e w' => e = .returned (.bool (decide (0 < runL blankB (s.data.toList.drop k)))) ∧ Cur w' b s (k + runL blankB (s.data.toList.drop k)) ∧ w.grownBy w' (some b) := by
  have HC : Hid (Cur w b s k) := hc
  obtain ⟨r, HR⟩ : ∃ r : ByteArray, Hid (s.extract k s.size = r) := ⟨_, rfl⟩
  have hr : r.size = s.size - k := by rw [← HR.out, rest_size]
  have HD : Hid (r.data.toList = s.data.toList.drop k) := by show _ = _; rw [← HR.out, from_data]
  obtain ⟨n, HN⟩ : ∃ n : Nat, Hid (runL blankB (s.data.toList.drop k) = n) := ⟨_, rfl⟩
  have hn : k + n ≤ s.size := by rw [← HN.out]; exact run_rest_le _ s k hc.le
  obtain ⟨x, HX⟩ : ∃ x : ByteArray, Hid ((⟨(Lib.trimLeftS r.data.toList (⟨#[32, 9]⟩ : ByteArray).data.toList).toArray⟩ : ByteArray) = x) := ⟨_, rfl⟩
  have hxz : x.size + n = r.size := by
    rw [← HX.out, ← HN.out]
    show (Lib.trimLeftS r.data.toList [32, 9]).toArray.size + _ = _
    rw [trim_blank, List.size_toArray, HD.out, drop_len, ← HD.out, len_data]
  have htr : ∀ w, Calls Tryd.prog 31 #[.string r, .string ⟨#[32, 9]⟩] w fun e w' => e = .returned (.string x) ∧ Below w.heap.size w w' := fun w => by
    rw [← HX.out]
    exact Any.strings_TrimLeft_laid lays161 (by kernel_rfl) r ⟨#[32, 9]⟩ w (by decide) (ascii_of_all (by decide))
  obtain ⟨h1, h2, h3, h4⟩ := hc
  have hk0 : (0 : Int) ≤ (k : Int) := by omega
  have hkS : (k : Int) ≤ (s.size : Int) := by omega
  have HSub : Hid (IntKind.i64.wrap (((s.size - k : Nat) : Int) - (x.size : Int)) = (n : Int)) := by
    show _ = _
    have e : ((s.size - k : Nat) : Int) - (x.size : Int) = (n : Int) := by omega
    rw [e]
    unfold IntKind.wrap
    simp [IntKind.bits, IntKind.signed]
    omega
  rw [HN.out]
  go_enter Tryd.func11, Tryd.ntmps11
  go_wp2
  have hQ : w.drew.cell? ⟨b, 0, none⟩ = some (.string s) ∧ w.drew.cell? ⟨b, 1, none⟩ = some (.int .i64 (k : Int)) ∧ Hid (Cur w.drew b s k ∧ w.grownBy w.drew (some b)) :=
    ⟨h1, h2, HC.out.drew, ⟨rfl, rfl, rfl, Nat.le_refl _, fun _ _ _ => rfl⟩⟩
  go_region_held3 (fun W => W.cell? ⟨b, 0, none⟩ = some (.string s) ∧ W.cell? ⟨b, 1, none⟩ = some (.int .i64 (k : Int)) ∧ Hid (Cur W b s k ∧ w.grownBy W (some b))) (first | assumption | exact hQ) (
    (go_at_call 31; rw [HR.out]; refine (htr _).mono ?_; rintro e w3 ⟨rfl, hb3⟩; have hQ3 := keepC (by assumption) hb3))
  rw [HSub.out]
  obtain ⟨q1, q2, q3⟩ := hQ3
  have q4 := q3.out.1.free
  go_wp2
  go_ret
  exact ⟨ret_bool (by by_cases h : 0 < n <;> simp [h]), q3.out.1.set _ hn _ (by push_cast; rfl), grown_trans q3.out.2 (grown_set _ _ _ _)⟩
theorem hasPrefix_at (s : ByteArray) (k : Nat) (c : UInt8) : Lib.hasPrefix (s.data.toList.drop k) [c] = true ↔ ∃ h : k < s.size, s[k] = c := by
  by_cases h : k < s.size
  · rw [drop_at s k h _ rfl]
    constructor
    · intro e
      refine ⟨h, ?_⟩
      unfold Lib.hasPrefix at e
      simp [List.isPrefixOf] at e
      exact e.symm
    · rintro ⟨_, e⟩
      unfold Lib.hasPrefix
      simp [List.isPrefixOf]
      exact e.symm
  · rw [List.drop_of_length_le (by rw [len_data]; omega)]
    constructor
    · intro e
      cases e
    · rintro ⟨h2, _⟩
      exact absurd h2 h
/-- Whether a byte stands there. -/
def standsB (s : ByteArray) (k : Nat) (c : UInt8) : Bool := Lib.hasPrefix (s.data.toList.drop k) [c]
set_option maxRecDepth 100000 in
set_option maxHeartbeats 2000000 in
theorem refMark_any (b : Nat) (s : ByteArray) (hs : s.size ≤ 5000) (k : Nat) (c : UInt8) (w : World) (hc : Cur w b s k) :
    Calls Tryd.prog 17 #[.pointer (some ⟨b, 0, none⟩), .int .u8 (c.toNat : Int)] w fun e w' => e = .returned (.bool (standsB s k c)) ∧ Cur w' b s (if standsB s k c then k + 1 else k) ∧ w.grownBy w' (some b) := by
  have HC : Hid (Cur w b s k) := hc
  have hcl : (c.toNat : Int) < 256 := by have := c.toNat_lt; omega
  obtain ⟨r, HR⟩ : ∃ r : ByteArray, Hid (s.extract k s.size = r) := ⟨_, rfl⟩
  have HD : Hid (r.data.toList = s.data.toList.drop k) := by show _ = _; rw [← HR.out, from_data]
  obtain ⟨q, HQ⟩ : ∃ q : Bool, Hid (standsB s k c = q) := ⟨_, rfl⟩
  have hpre : ∀ (t : ByteArray), t = bs [c] → ∀ w, Calls Tryd.prog 37 #[.string r, .string t] w fun e w' => e = .returned (.bool q) ∧ w' = w := fun t ht w => by
    rw [← HQ.out, ht]
    unfold standsB
    rw [← HD.out]
    exact Any.strings_HasPrefix lays99 r (bs [c]) w
  have hchar : ∀ w, Calls Tryd.prog 38 #[.int .i64 (c.toNat : Int)] w fun e w' => e = .returned (.string (bs [c])) ∧ Below w.heap.size w w' := fun w => by
    refine (char_any (c.toNat : Int) (by omega) hcl w).mono ?_
    rintro e w' ⟨rfl, hb⟩
    refine ⟨?_, hb⟩
    congr 4
    simp
  have hlt1 : q = true → k < s.size := by
    rintro rfl
    exact ((hasPrefix_at s k c).1 HQ.out).1
  have HLt : Hid (q = true → k < s.size) := hlt1
  obtain ⟨h1, h2, h3, h4⟩ := hc
  have hk0 : (0 : Int) ≤ (k : Int) := by omega
  have hkS : (k : Int) ≤ (s.size : Int) := by omega
  obtain ⟨t, HT⟩ : ∃ t : ByteArray, Hid (bs [c] = t) := ⟨_, rfl⟩
  rw [HT.out] at hchar
  have hpre2 := hpre t HT.out.symm
  have hwr : IntKind.i64.wrap (c.toNat : Int) = (c.toNat : Int) := by
    unfold IntKind.wrap
    simp [IntKind.bits, IntKind.signed]
    omega
  clear hpre hlt1
  rw [HQ.out]
  go_enter Tryd.func17, Tryd.ntmps17
  go_wp2
  have hQ : w.drew.cell? ⟨b, 0, none⟩ = some (.string s) ∧ w.drew.cell? ⟨b, 1, none⟩ = some (.int .i64 (k : Int)) ∧ Hid (Cur w.drew b s k ∧ w.grownBy w.drew (some b)) :=
    ⟨h1, h2, HC.out.drew, ⟨rfl, rfl, rfl, Nat.le_refl _, fun _ _ _ => rfl⟩⟩
  go_region_held3 (fun W => W.cell? ⟨b, 0, none⟩ = some (.string s) ∧ W.cell? ⟨b, 1, none⟩ = some (.int .i64 (k : Int)) ∧ Hid (Cur W b s k ∧ w.grownBy W (some b))) (first | assumption | exact hQ) (
    (first | (go_at_call 38; refine (hchar _).mono ?_; rintro e w3 ⟨rfl, hb3⟩; have hQ3 := keepC (by assumption) hb3) | (go_at_call 37; rw [HR.out]; refine (hpre2 _).mono ?_; rintro e w4 ⟨rfl, hw⟩; obtain rfl := hw.symm)))
  obtain ⟨q1, q2, q3⟩ := hQ3
  have q4 := q3.out.1.free
  cases q
  · go_wp2
    go_ret
    exact ⟨rfl, q3.out.1, q3.out.2⟩
  · have hlt := HLt.out rfl
    go_wp2
    go_ret
    exact ⟨rfl, q3.out.1.set _ (by omega) _ (by push_cast; rfl), grown_trans q3.out.2 (grown_set _ _ _ _)⟩
set_option maxRecDepth 100000 in
set_option maxHeartbeats 2000000 in
theorem refWord_any (b : Nat) (s : ByteArray) (hs : s.size ≤ 5000) (k : Nat) (w : World) (hc : Cur w b s k) :
    Calls Tryd.prog 13 #[.pointer (some ⟨b, 0, none⟩)] w fun e w' => ∃ t : ByteArray, e = .returned (.string t) ∧ t.data.toList = (s.data.toList.drop k).takeWhile tokB ∧ Cur w' b s (k + runL tokB (s.data.toList.drop k)) ∧ w.grownBy w' (some b) := by
  have HC : Hid (Cur w b s k) := hc
  have hk := hc.le
  clear hc
  go_enter Tryd.func13, Tryd.ntmps13
  go_wp2
  go_loopg [3] (s.size - k) (fun gh v wr => ∃ (m : Nat) (o : ByteArray), s.size - (k + m) = gh ∧ k + m ≤ s.size ∧ v = .string o ∧ o.size = m ∧ Hid (o.data.toList = (s.data.toList.drop k).take m ∧ ((s.data.toList.drop k).take m).all tokB = true) ∧ Hid (Cur wr b s (k + m) ∧ w.grownBy wr (some b)))
  case atStart => exact ⟨0, _, by omega, hk, rfl, rfl, ⟨rfl, rfl⟩, ⟨HC, World.grownBy.refl _ _⟩⟩
  case round =>
    obtain ⟨m, o, hgk, hm, rfl, ho, HO, HW⟩ := hrel
    have HGK : Hid (s.size - (k + m) = gk) := hgk
    obtain ⟨p, hp⟩ : ∃ p : Nat, k + m = p := ⟨_, rfl⟩
    have HP : Hid (k + m = p) := hp
    have HWp : Hid (Cur wr b s p ∧ w.grownBy wr (some b)) := by have := HW.out; rw [hp] at this; exact this
    have hp1 : p ≤ s.size := by omega
    obtain ⟨h1, h2, h3, h4⟩ := HWp.out.1
    have hp0 : (0 : Int) ≤ (p : Int) := by omega
    clear hgk hp HW
    by_cases hlt : p < s.size
    · obtain ⟨c, hcd⟩ : ∃ c : UInt8, s[p] = c := ⟨_, rfl⟩
      have hcl : (c.toNat : Int) < 256 := by have := c.toNat_lt; omega
      have hd : decide ((p : Int) < (s.size : Int)) = true := decide_eq_true (by omega)
      have hpS : (p : Int) < (s.size : Int) := by omega
      have hdr : (s.data.toList.drop k)[m]? = some c := by
        rw [List.getElem?_drop, HP.out, ← hcd]
        exact List.getElem?_eq_getElem (l := s.data.toList) (by rw [len_data]; exact hlt)
      have HDR : Hid ((s.data.toList.drop k)[m]? = some c) := hdr
      clear hdr
      have hby : ∀ w, Calls Tryd.prog 34 #[.int .u8 (c.toNat : Int)] w fun e w' => e = .returned (.bool (tokB c)) ∧ w' = w := fun w => refByte_any c w
      cases hf : tokB c
      · rw [hf] at hby
        have HL : Hid (runL tokB (s.data.toList.drop k) = m) := by
          obtain ⟨hl, e⟩ := List.getElem?_eq_some_iff.1 HDR.out
          exact runL_stop tokB _ m hl HO.out.2 (by rw [e]; exact hf)
        go_wp2
        go_quiet ((go_at_call 34; exact Calls.quiet_of_same (hby _)))
        go_wp2
        go_ret
        refine ⟨o, rfl, ?_, ?_, ?_⟩
        · rw [HO.out.1, ← take_runL, HL.out]
        · rw [HL.out, HP.out]; exact HWp.out.1.drewN _
        · exact grown_trans HWp.out.2 (grown_drewN _ _ _)
      · rw [hf] at hby
        obtain ⟨p2, hp2⟩ : ∃ p2 : Nat, p + 1 = p2 := ⟨_, rfl⟩
        have HP2 : Hid (p + 1 = p2) := hp2
        have hwr : IntKind.i64.wrap ((p : Int) + 1) = (p2 : Int) := by
          unfold IntKind.wrap
          simp [IntKind.bits, IntKind.signed]
          omega
        have hp2S : (p2 : Int) ≤ (s.size : Int) := by omega
        have hpp2 : (p : Int) ≤ (p2 : Int) := by omega
        obtain ⟨x, HX⟩ : ∃ x : ByteArray, Hid (s.extract p p2 = x) := ⟨_, rfl⟩
        have HXd : Hid (x.data.toList = [c]) := by
          show _ = _
          rw [← HX.out, extract_data, drop_at s p hlt c hcd, ← HP2.out, Nat.add_sub_cancel_left]
          rfl
        have hxz : x.size = 1 := by rw [← len_data, HXd.out]; rfl
        have hadd := fun W => run_string_add_sum (P := Tryd.prog) W o x (by omega)
        have HT : Hid ((s.data.toList.drop k).take (m + 1) = (s.data.toList.drop k).take m ++ [c]) := by
          obtain ⟨hl, e⟩ := List.getElem?_eq_some_iff.1 HDR.out
          show _ = _
          rw [List.take_succ_eq_append_getElem hl, e]
        clear hp2
        go_wp2
        go_quiet ((go_at_call 34; exact Calls.quiet_of_same (hby _)))
        go_wp2
        go_quiet (fail)
        rw [HX.out]
        go_wp2
        go_roundg (s.size - (k + (m + 1)))
        case measure => have := HGK.out; have := HP.out; omega
        case rel =>
          refine ⟨m + 1, o ++ x, rfl, by have := HP.out; omega, rfl, by rw [ByteArray.size_append, ho, hxz], ⟨?_, ?_⟩, ?_, ?_⟩
          · rw [HT.out, ← HO.out.1, ← HXd.out]
            simp
          · rw [HT.out, List.all_append, HO.out.2]
            simp [hf]
          · rw [show k + (m + 1) = p2 by have := HP.out; have := HP2.out; omega]
            refine Cur.set (k := p) ?_ p2 (by omega) _ (by have := HP2.out; omega)
            exact HWp.out.1.drewN _
          · exact grown_trans (grown_trans HWp.out.2 (grown_drewN _ _ _)) (grown_set _ _ _ _)
    · obtain rfl : p = s.size := by omega
      have hd : decide ((s.size : Int) < (s.size : Int)) = false := decide_eq_false (by omega)
      have HL : Hid (runL tokB (s.data.toList.drop k) = m) := by
        have h5 : (s.data.toList.drop k).length = m := by rw [List.length_drop, len_data]; have := HP.out; omega
        have h6 := HO.out.2
        rw [List.take_of_length_le (by omega)] at h6
        show _ = _
        rw [(runL_all tokB _).2 h6, h5]
      go_wp2
      go_quiet (fail)
      go_wp2
      go_ret
      refine ⟨o, rfl, ?_, ?_, ?_⟩
      · rw [HO.out.1, ← take_runL, HL.out]
      · rw [HL.out, HP.out]; exact HWp.out.1.drewN _
      · exact grown_trans HWp.out.2 (grown_drewN _ _ _)
end Go.Proofs.YtapgbckpiffgnaaDoor
