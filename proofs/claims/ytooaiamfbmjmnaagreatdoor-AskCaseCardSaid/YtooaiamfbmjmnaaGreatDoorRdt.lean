/- The reader's Token, by the program. -/
import Derived.Test.YtooaiamfbmjmnaaGreatDoorRdn
import Derived.Test.YtooaiamfbmjmnaaGreatDoorShTrim
namespace Go.Proofs.YtooaiamfbmjmnaaGreatDoor
open Go.RowKit Go.Shelf

abbrev tkset : ByteArray := ⟨([97, 98, 99, 100, 101, 102, 103, 104, 105, 106, 107, 108, 109, 110, 111, 112, 113, 114, 115, 116, 117, 118, 119, 120, 121, 122, 65, 66, 67, 68, 69, 70, 71, 72].append [73, 74, 75, 76, 77, 78, 79, 80, 81, 82, 83, 84, 85, 86, 87, 88, 89, 90, 48, 49, 50, 51, 52, 53, 54, 55, 56, 57, 45, 46, 95, 126, 43, 47] : List UInt8).toArray⟩
theorem tk_all : ∀ c : UInt8, tkset.data.toList.contains c = tkB c := by
  intro c
  have : ∀ n : Fin 256, tkset.data.toList.contains (UInt8.ofNat n.1) = tkB (UInt8.ofNat n.1) := by decide +kernel
  have h := this ⟨c.toNat, c.toNat_lt⟩
  simpa using h
theorem trim_tk (l : List UInt8) : Lib.trimLeftS l tkset.data.toList = l.dropWhile tkB := by
  unfold Lib.trimLeftS
  congr 1
  funext c
  exact tk_all c
theorem trim_eq (l : List UInt8) : Lib.trimLeftS l [61] = l.dropWhile eqB := by
  unfold Lib.trimLeftS
  congr 1
  funext c
  unfold eqB
  simp
  rfl
theorem trimTk_any (r : ByteArray) (w : World) : Calls Tryz.prog 82 #[.string r, .string tkset] w fun e w' => e = .returned (.string (bs (r.data.toList.dropWhile tkB))) ∧ Below w.heap.size w w' := by
  have h := Any.strings_TrimLeft_laid lays161 (by kernel_rfl) r tkset w (by decide) (ascii_of_all (by decide +kernel))
  rw [trim_tk] at h
  exact h
theorem trimEq_any (r : ByteArray) (w : World) : Calls Tryz.prog 82 #[.string r, .string ⟨#[61]⟩] w fun e w' => e = .returned (.string (bs (r.data.toList.dropWhile eqB))) ∧ Below w.heap.size w w' := by
  have h := Any.strings_TrimLeft_laid lays161 (by kernel_rfl) r ⟨#[61]⟩ w (by decide) (ascii_of_all (by decide))
  have e : (⟨#[61]⟩ : ByteArray).data.toList = [61] := rfl
  rw [e, trim_eq] at h
  exact h
/-- What the reader's token answers. -/
def TkAns (b : Nat) (s : ByteArray) (r : List UInt8) (e : Ending) (w' : World) : Prop :=
  (∃ (t : ByteArray) (u : List UInt8), tokenL r = some (t, u) ∧ t.size ≠ 0 ∧ t.size ≤ 3000 ∧ e = .returned (.string t) ∧ CurR w' b s u) ∨
  (tokenL r = none ∧ e = .returned (.string ⟨#[]⟩) ∧ CurR w' b s r)
set_option maxRecDepth 100000 in
set_option maxHeartbeats 2000000 in
theorem token_any (b : Nat) (s : ByteArray) (hs : s.size ≤ 3000) (r : List UInt8) (w : World) (hc : CurR w b s r) :
    Calls Tryz.prog 92 #[.agg #[.pointer (some ⟨b, 0, none⟩), .string s]] w fun e w' => TkAns b s r e w' ∧ w.grownBy w' (some b) := by
  have hbl := hc.lt
  have hrl := hc.len
  have HSF : Hid (r <:+ s.data.toList) := hc.2
  have hrest := hc.rest
  have HC1 : Hid (CurR (w.alloc (.cells #[.pointer (some ⟨b, 0, none⟩), .string s] 79)) b s r) := hc.below ((Below.refl _ _).alloc (Nat.le_refl _) _)
  have HG1 : Hid (w.grownBy (w.alloc (.cells #[.pointer (some ⟨b, 0, none⟩), .string s] 79)) (some b)) := grown_alloc _ _ _
  have hne : some w.heap.size ≠ some b := by intro e; injection e with e; omega
  obtain ⟨k, HK⟩ : ∃ k, Hid (s.size - r.length = k) := ⟨_, rfl⟩
  have hk : k ≤ s.size := by rw [← HK.out]; omega
  have hkz : k + r.length = s.size := by rw [← HK.out]; omega
  obtain ⟨x, HX⟩ : ∃ x : ByteArray, Hid (s.extract k s.size = x) := ⟨_, rfl⟩
  have HXD : Hid (x.data.toList = r) := by
    show _ = _
    rw [← HX.out, from_data, ← HK.out]
    exact hrest
  have hxz : x.size = r.length := by rw [← len_data, HXD.out]
  obtain ⟨y, HY⟩ : ∃ y : ByteArray, Hid (bs (r.dropWhile tkB) = y) := ⟨_, rfl⟩
  obtain ⟨z, HZ⟩ : ∃ z : ByteArray, Hid (bs ((r.dropWhile tkB).dropWhile eqB) = z) := ⟨_, rfl⟩
  have hyz : y.size = (r.dropWhile tkB).length := by rw [← HY.out, bs_size]
  have hzz : z.size = ((r.dropWhile tkB).dropWhile eqB).length := by rw [← HZ.out, bs_size]
  have hle1 := dw_len tkB r
  have hle2 := dw_len eqB (r.dropWhile tkB)
  have htk : ∀ w, Calls Tryz.prog 82 #[.string x, .string tkset] w fun e w' => e = .returned (.string y) ∧ Below w.heap.size w w' := fun w => by
    have h := trimTk_any x w
    rw [HXD.out, HY.out] at h
    exact h
  have heq : ∀ w, Calls Tryz.prog 82 #[.string y, .string ⟨#[61]⟩] w fun e w' => e = .returned (.string z) ∧ Below w.heap.size w w' := fun w => by
    have h := trimEq_any y w
    rw [← HY.out, bs_data, HZ.out, HY.out] at h
    exact h
  have hat := rd_at b s r _ HC1.out
  rw [HK.out] at hat
  have HLE : Hid (y.size = (r.dropWhile tkB).length ∧ z.size = ((r.dropWhile tkB).dropWhile eqB).length ∧ x.size = r.length ∧ k + r.length = s.size) := ⟨hyz, hzz, hxz, hkz⟩
  have hyx : y.size ≤ x.size := by omega
  have hzy : z.size ≤ y.size := by omega
  have hkS : (k : Int) ≤ (s.size : Int) := by omega
  have hxs : x.size ≤ 3000 := by omega
  clear hc hrest hyz hzz hxz hkz hle1 hle2 hrl
  go_enter Tryz.func92, Tryz.ntmps92
  go_wp2_with (go_at_call 88; refine hat.mono ?_; rintro e w1 ⟨rfl, hw1⟩; obtain rfl := hw1.symm; clear hw1 hat)
  rw [HX.out]
  refine (htk _).mono ?_
  rintro e w2 ⟨rfl, hb2⟩
  have HC2 : Hid (CurR w2 b s r ∧ (w.alloc (.cells #[.pointer (some ⟨b, 0, none⟩), .string s] 79)).grownBy w2 (some b)) := ⟨HC1.out.below hb2, grown_below hb2 _⟩
  clear hb2 HC1 htk
  by_cases heqz : y.size = x.size
  · have HN : Hid (tokenL r = none) := by
      show _ = _
      unfold tokenL
      rw [if_neg]
      rintro ⟨h1, _⟩
      have := HLE.out
      omega
    have heq' : ((y.size : Int) == (x.size : Int)) = true := by rw [heqz]; simp
    go_wp2
    go_ret
    exact ⟨.inr ⟨HN, rfl, HC2.out.1⟩, grown_trans HG1.out HC2.out.2⟩
  · have heq' : ((y.size : Int) == (x.size : Int)) = false := beq_eq_false_iff_ne.2 (by omega)
    have HLT : Hid ((r.dropWhile tkB).length < r.length) := by
      show _ < _
      have := HLE.out
      omega
    clear heqz
    go_wp2_with (go_at_call 82; refine (heq _).mono ?_; rintro e w3 ⟨rfl, hb3⟩; have HC3 : Hid (CurR w3 b s r ∧ (w.alloc (.cells #[.pointer (some ⟨b, 0, none⟩), .string s] 79)).grownBy w3 (some b)) := ⟨HC2.out.1.below hb3, grown_trans HC2.out.2 (grown_below hb3 _)⟩; obtain ⟨hx0, hx1⟩ := box_reader HC3.out.2 hne; clear hb3)
    have HSF2 : Hid ((r.dropWhile tkB).dropWhile eqB <:+ s.data.toList) := ((dw_suff _ _).trans (dw_suff _ _)).trans HSF.out
    refine (rd_go b s r _ HSF2.out _ (by have := HLE.out; omega) _ HC3.out.1).mono ?_
    rintro e w4 ⟨rfl, hc4, hg4⟩
    have HC4 : Hid (CurR w4 b s ((r.dropWhile tkB).dropWhile eqB) ∧ (w.alloc (.cells #[.pointer (some ⟨b, 0, none⟩), .string s] 79)).grownBy w4 (some b)) := ⟨hc4, grown_trans HC3.out.2 hg4⟩
    obtain ⟨hy0, hy1⟩ := box_reader HC4.out.2 hne
    clear hc4 hg4 HC3 hx0 hx1 HC2
    go_wp2_with fail
    refine (rd_blanks b s hs _ _ HC4.out.1).mono ?_
    rintro e w5 ⟨rfl, hc5, hg5⟩
    have HC5 : Hid (CurR w5 b s (((r.dropWhile tkB).dropWhile eqB).dropWhile blankB) ∧ (w.alloc (.cells #[.pointer (some ⟨b, 0, none⟩), .string s] 79)).grownBy w5 (some b)) := ⟨hc5, grown_trans HC4.out.2 hg5⟩
    obtain ⟨hx0, hx1⟩ := box_reader HC5.out.2 hne
    clear hc5 hg5 HC4 hy0 hy1
    go_wp2_with fail
    refine (over_at b s _ _ HC5.out.1).mono ?_
    rintro e w6 ⟨rfl, hc6, hg6⟩
    have HC6 : Hid (CurR w6 b s (((r.dropWhile tkB).dropWhile eqB).dropWhile blankB) ∧ (w.alloc (.cells #[.pointer (some ⟨b, 0, none⟩), .string s] 79)).grownBy w6 (some b)) := ⟨hc6, grown_trans HC5.out.2 hg6⟩
    obtain ⟨hy0, hy1⟩ := box_reader HC6.out.2 hne
    clear hc6 hg6 HC5 hx0 hx1
    cases hst : stopsL (((r.dropWhile tkB).dropWhile eqB).dropWhile blankB)
    · have HN : Hid (tokenL r = none) := by
        show _ = _
        unfold tokenL
        rw [if_neg]
        rintro ⟨_, h1⟩
        rw [hst] at h1
        cases h1
      go_wp2_with fail
      refine (rd_go b s _ r HSF.out _ (by have := HLE.out; omega) _ HC6.out.1).mono ?_
      rintro e w7 ⟨rfl, hc7, hg7⟩
      have HC7 : Hid (CurR w7 b s r ∧ w.grownBy w7 (some b)) := ⟨hc7, grown_trans HG1.out (grown_trans HC6.out.2 hg7)⟩
      clear hc7 hg7
      go_wp2
      go_ret
      exact ⟨.inr ⟨HN, rfl, HC7.out.1⟩, HC7.out.2⟩
    · obtain ⟨m, hm⟩ : ∃ m : Nat, m = x.size - z.size := ⟨_, rfl⟩
      have HM : Hid (m = x.size - z.size) := hm
      have hmi : (x.size : Int) - (z.size : Int) = (m : Int) := by omega
      rw [hmi]
      obtain ⟨t, HT⟩ : ∃ t : ByteArray, Hid (x.extract 0 m = t) := ⟨_, rfl⟩
      have htz : t.size = m := by
        rw [← HT.out]
        simp
        omega
      have HN : Hid (tokenL r = some (t, ((r.dropWhile tkB).dropWhile eqB).dropWhile blankB)) := by
        show _ = _
        unfold tokenL
        rw [if_pos ⟨HLT.out, hst⟩]
        have : bs (r.take (r.length - ((r.dropWhile tkB).dropWhile eqB).length)) = t := by
          rw [← HT.out]
          refine (bs_of ?_).symm
          rw [upto_data, HXD.out, HM.out]
          have := HLE.out
          congr 1
          omega
        rw [this]
      have HT0 : Hid (t.size ≠ 0 ∧ t.size ≤ 3000) := by
        have := HLE.out
        have := HLT.out
        have := dw_len eqB (r.dropWhile tkB)
        exact ⟨by omega, by omega⟩
      have hmx : (m : Int) ≤ (x.size : Int) := by omega
      have ht3 : t.size ≤ 3000 := HT0.out.2
      clear hm htz hmi
      go_wp2_with fail
      rw [HT.out]
      refine (clone_any t ht3 _).mono ?_
      rintro e w7 ⟨rfl, hb7⟩
      have HC7 : Hid (CurR w7 b s (((r.dropWhile tkB).dropWhile eqB).dropWhile blankB) ∧ w.grownBy w7 (some b)) := ⟨HC6.out.1.below hb7, grown_trans HG1.out (grown_trans HC6.out.2 (grown_below hb7 _))⟩
      clear hb7
      go_wp2
      go_ret
      exact ⟨.inl ⟨t, _, HN, HT0.out.1, HT0.out.2, rfl, HC7.out.1⟩, HC7.out.2⟩
end Go.Proofs.YtooaiamfbmjmnaaGreatDoor
