/- The bytes of letters by the program: just what Base64 writes is read, and read as what it was. -/
import Derived.Test.YtbhnaekkjpcafabDoorIx
import Derived.Test.YtbhnaekkjpcafabDoorDec
namespace Go.Proofs.YtbhnaekkjpcafabDoor
open Go.RowKit

theorem ix_lets (c : UInt8) (n : Int) (hn : n = c.toNat) (w : World) :
    Calls Tryd.prog 31 #[.string { data := #[65, 66, 67, 68, 69, 70, 71, 72, 73, 74, 75, 76, 77, 78, 79, 80, 81, 82, 83, 84, 85, 86, 87, 88, 89, 90, 97, 98, 99, 100, 101, 102, 103, 104, 105, 106, 107, 108, 109, 110, 111, 112, 113, 114, 115, 116, 117, 118, 119, 120, 121, 122, 48, 49, 50, 51, 52, 53, 54, 55, 56, 57, 43, 47] }, .int .u8 n] w fun e w' => e = .returned (.int .i64 (ixL c)) ∧ w' = w := ix_of _ c n hn w
theorem trim_o (s : ByteArray) (w : World) (hs : s.size ≤ 1000) :
    Calls Tryd.prog 32 #[.string s, .string { data := #[61] }] w fun e w' => ∃ t : ByteArray, e = .returned (.string t) ∧ t.size ≤ s.size ∧ Hid (t.data.toList = trim1 s.data.toList) ∧ w' = w := by
  refine (trim_any s { data := #[61] } w (by omega)).mono ?_
  rintro e w' ⟨rfl, rfl⟩
  refine ⟨_, rfl, ?_, ?_, rfl⟩
  · rw [bs_size, Lib.size_eq]
    exact Lib.trimSuffix_le _ _
  · show (bs _).data.toList = _
    rw [bs_data]
    rfl

/-- What is held between two letters: the bytes so far, the bits that are left, and how many. -/
def Inv (l o : List UInt8) (x y : Int) : Prop := ∃ h b : Nat, x = b ∧ y = h ∧ decA ([], 0, 0) l = (o, h, b) ∧ (h = 0 ∧ b = 0 ∨ h = 2 ∧ b < 4 ∨ h = 4 ∧ b < 16 ∨ h = 6 ∧ b < 64) ∧ ∀ c ∈ l, c ∈ lets
theorem Inv.start : Inv [] [] 0 0 := ⟨0, 0, rfl, rfl, rfl, .inl ⟨rfl, rfl⟩, by simp⟩
theorem Inv.cases {l o : List UInt8} {x y : Int} (h : Inv l o x y) : (x = 0 ∧ y = 0) ∨ (∃ b : Nat, x = b ∧ y = 2 ∧ b < 4) ∨ (∃ b : Nat, x = b ∧ y = 4 ∧ b < 16) ∨ ∃ b : Nat, x = b ∧ y = 6 ∧ b < 64 := by
  obtain ⟨h, b, rfl, rfl, _, hh, _⟩ := h
  rcases hh with ⟨rfl, rfl⟩ | ⟨rfl, hb⟩ | ⟨rfl, hb⟩ | ⟨rfl, hb⟩
  · exact .inl ⟨rfl, rfl⟩
  · exact .inr (.inl ⟨b, rfl, rfl, hb⟩)
  · exact .inr (.inr (.inl ⟨b, rfl, rfl, hb⟩))
  · exact .inr (.inr (.inr ⟨b, rfl, rfl, hb⟩))
theorem Inv.at {l o : List UInt8} {b h : Nat} (hi : Inv l o b h) : decA ([], 0, 0) l = (o, h, b) ∧ ∀ c ∈ l, c ∈ lets := by
  obtain ⟨h', b', e1, e2, e3, _, e4⟩ := hi
  have : b = b' := by omega
  have : h = h' := by omega
  subst_vars
  exact ⟨e3, e4⟩
theorem or_zero (l : Nat) (h : l < 64) : bits .or .i64 0 (l : Int) = l := by
  have := or_join 0 l 6 (by omega) (by omega) (by omega) (by omega)
  simpa using this
theorem or64d (b l : Nat) (hb : b < 64) (h : l < 64) : bits .or .i64 ((b : Int) * 64) (l : Int) = ((b * 64 + l : Nat) : Int) := by
  have := or_join (b * 64) l 6 (by omega) (by omega) (by omega) (by omega)
  rw [← this]; simp
theorem mem_snoc {l : List UInt8} {c : UInt8} (h : ∀ c ∈ l, c ∈ lets) (hc : c ∈ lets) : ∀ x ∈ l ++ [c], x ∈ lets := by
  intro x hx
  rcases List.mem_append.1 hx with hx | hx
  · exact h x hx
  · simp at hx; rw [hx]; exact hc
theorem Inv.step0 {l o : List UInt8} {c : UInt8} {n : Nat} (hi : Inv l o 0 0) (h1 : ixL c = n) (h2 : n < 64) (h3 : c ∈ lets) : Inv (l ++ [c]) o n 6 := by
  obtain ⟨e, hm⟩ := Inv.at (b := 0) (h := 0) hi
  refine ⟨6, n, rfl, rfl, ?_, .inr (.inr (.inr ⟨rfl, h2⟩)), mem_snoc hm h3⟩
  rw [decA_snoc, e, h1, stp0]
  rfl
theorem Inv.step2 {l o : List UInt8} {c : UInt8} {n b : Nat} (hi : Inv l o b 2) (h1 : ixL c = n) (h2 : n < 64) (h3 : c ∈ lets) (hb : b < 4 := by assumption) :
    ∃ d : UInt8, bits .or .i64 ((b : Int) * 64) (n : Int) = (d.toNat : Int) ∧ bits .and .i64 (d.toNat : Int) 0 = 0 ∧ Inv (l ++ [c]) (o ++ [d]) 0 0 := by
  obtain ⟨e, hm⟩ := Inv.at (b := b) (h := 2) hi
  refine ⟨UInt8.ofNat (b * 64 + n), ?_, ?_, 0, 0, rfl, rfl, ?_, .inl ⟨rfl, rfl⟩, mem_snoc hm h3⟩
  · rw [or64d b n (by omega) h2, toNat_of _ (by omega)]
  · have := and_mask (UInt8.ofNat (b * 64 + n)).toNat 0 (by rw [toNat_of _ (by omega)]; omega) (by omega)
    rw [Nat.pow_zero, Nat.mod_one] at this
    exact this
  · rw [decA_snoc, e, h1, stp2]
    rfl
theorem Inv.step4 {l o : List UInt8} {c : UInt8} {n b : Nat} (hi : Inv l o b 4) (h1 : ixL c = n) (h2 : n < 64) (h3 : c ∈ lets) (hb : b < 16 := by assumption) :
    ∃ (d : UInt8) (z : Int) (b2 : Nat), bits .or .i64 ((b : Int) * 64) (n : Int) = z ∧ 0 ≤ z ∧ z < 1024 ∧ z / 4 = (d.toNat : Int) ∧ bits .and .i64 z 3 = (b2 : Int) ∧ Inv (l ++ [c]) (o ++ [d]) b2 2 := by
  obtain ⟨e, hm⟩ := Inv.at (b := b) (h := 4) hi
  refine ⟨UInt8.ofNat ((b * 64 + n) / 4), ((b * 64 + n : Nat) : Int), (b * 64 + n) % 4, or64d b n (by omega) h2, by omega, by omega, ?_, and_mask _ 2 (by omega) (by omega), 2, _, rfl, rfl, ?_, .inr (.inl ⟨rfl, by omega⟩), mem_snoc hm h3⟩
  · rw [toNat_of _ (by omega)]; omega
  · rw [decA_snoc, e, h1, stp4]
    rfl
theorem Inv.step6 {l o : List UInt8} {c : UInt8} {n b : Nat} (hi : Inv l o b 6) (h1 : ixL c = n) (h2 : n < 64) (h3 : c ∈ lets) (hb : b < 64 := by assumption) :
    ∃ (d : UInt8) (z : Int) (b2 : Nat), bits .or .i64 ((b : Int) * 64) (n : Int) = z ∧ 0 ≤ z ∧ z < 4096 ∧ z / 16 = (d.toNat : Int) ∧ bits .and .i64 z 15 = (b2 : Int) ∧ Inv (l ++ [c]) (o ++ [d]) b2 4 := by
  obtain ⟨e, hm⟩ := Inv.at (b := b) (h := 6) hi
  refine ⟨UInt8.ofNat ((b * 64 + n) / 16), ((b * 64 + n : Nat) : Int), (b * 64 + n) % 16, or64d b n (by omega) h2, by omega, by omega, ?_, and_mask _ 4 (by omega) (by omega), 4, _, rfl, rfl, ?_, .inr (.inr (.inl ⟨rfl, by omega⟩)), mem_snoc hm h3⟩
  · rw [toNat_of _ (by omega)]; omega
  · rw [decA_snoc, e, h1, stp6]
    rfl
theorem Inv.good {t s o : List UInt8} {y : Int} (hi : Inv t o 0 y) (h4 : s.length % 4 = 0) (ht : t = trim1 (trim1 s)) : enc o = s := by
  obtain ⟨h, b, e1, _, e, _, hm⟩ := hi
  have : b = 0 := by omega
  subst this
  subst ht
  exact all_read s o h h4 hm e
theorem Inv.bad {t s o : List UInt8} {x y : Int} (hi : Inv t o x y) (hx : ¬ x = 0) (ht : t = trim1 (trim1 s)) : ∀ o, enc o ≠ s := by
  obtain ⟨h, b, e1, _, e, _, hm⟩ := hi
  subst ht
  exact bits_left s o h b e (by omega)

set_option maxRecDepth 100000 in
set_option maxHeartbeats 1600000 in
theorem unbase_any (s : ByteArray) (w : World) (hs : s.size ≤ 1000) :
    Calls Tryd.prog 17 #[.string s] w fun e w' => Below w.heap.size w w' ∧ ((∃ o : List UInt8, e = .returned (.tuple #[.string (bs o), .nilIface]) ∧ enc o = s.data.toList) ∨ (e = .returned (.tuple #[.string (bs []), .iface 49 (.int .i64 3)]) ∧ ∀ o, enc o ≠ s.data.toList)) := by
  obtain ⟨i0, hi0, hz0, hz1, hz2⟩ := info_parts info5
  by_cases h4 : s.size % 4 = 0
  · obtain ⟨m, hm⟩ : ∃ m, m * 4 = s.size := ⟨s.size / 4, by omega⟩
    have hm1 : (s.size : Int) = m * 4 := by omega
    have HM : Hid (m * 4 = s.size) := hm
    have hm5 : m ≤ 250 := by omega
    clear hm h4
    go_enter Tryd.func17, Tryd.ntmps17
    go_wp2_with fail
    refine (trim_o _ _ hs).mono ?_
    rintro e w' ⟨t1, rfl, hs1, HT1, hw⟩
    subst hw
    go_wp2_with fail
    refine (trim_o _ _ (by omega)).mono ?_
    rintro e w' ⟨t, rfl, hs2, HT2, hw⟩
    subst hw
    have HT : Hid (t.data.toList = trim1 (trim1 s.data.toList)) := by show _ = _; rw [HT2.out, HT1.out]
    have ht : t.size ≤ 1000 := by omega
    clear HT1 HT2 hs1 hs2
    go_wp2_with (at_make; refine wpList_make_own _ rfl _ _ 46 rfl w'.heap.size 5 i0 (.int .u8 0) 1 Tryd.underlying46 hi0 hz0 hz1 .i64 .i64 _ (m * 3) rfl rfl (by omega) (by rw [hz2]; omega) (by unfold maxLen; omega) (Nat.le_refl _) ?_; intro w1 hown1 hgrow1)
    have hb1 : Below w'.heap.size w' w1 := (Below.refl _ _).grown hgrow1 (Nat.le_refl _) (by simp)
    have HO1 : Hid (Own w1 w'.heap.size (.slice (some ⟨w'.heap.size, 0, none⟩) 0 (m * 3)) []) := hown1
    clear hown1 hgrow1
    go_loopw [5, 6, 7, 25] (fun v bt hd i wr => ∃ (k n g cap : Nat) (o : List UInt8) (x y : Int), k ≤ t.size ∧ i = .int .i64 k ∧ v = .slice (some ⟨g, 0, none⟩) n cap ∧ bt = .int .i64 x ∧ hd = .int .i64 y ∧ Hid (Own wr w'.heap.size v o ∧ o.length = n ∧ n ≤ k ∧ Inv (t.data.toList.take k) o x y) ∧ Below w'.heap.size w' wr) (fun _ _ _ i _ => t.size - (intOf i).toNat)
    case atStart => exact ⟨0, 0, _, _, [], 0, 0, Nat.zero_le _, rfl, rfl, rfl, rfl, ⟨HO1, rfl, Nat.zero_le _, Inv.start⟩, hb1⟩
    case round =>
      obtain ⟨k, n, g, cap, o, x, y, hk, rfl, rfl, rfl, rfl, HI, hb⟩ := hrel
      clear HO1 hb1
      by_cases hlt : k < t.size
      · have hwz : w'.heap.size ≤ wr.heap.size := hb.size
        have hnk : n ≤ 1000 := by have := HI.out.2.2.1; omega
        obtain ⟨c, hc⟩ : ∃ c : UInt8, t[k] = c := ⟨_, rfl⟩
        have HS : Hid (t.data.toList.take (k + 1) = t.data.toList.take k ++ [c]) := by rw [← hc]; exact take_snoc t k hlt
        have HC : Hid (c ∉ lets → ∀ o, enc o ≠ s.data.toList) := fun h => no_letter _ c (by rw [← HT.out, ← hc]; exact List.getElem_mem _) h
        rcases ixL_cases c with ⟨h1, n1⟩ | ⟨l, b1, h1, e1⟩
        · have HN : Hid (∀ o, enc o ≠ s.data.toList) := HC.out n1
          clear n1 HC
          go_wp2_with (go_at_call 31; refine (ix_lets c _ rfl _).mono ?_; rintro e w' ⟨rfl, rfl⟩)
          go_ret2
          exact ⟨hb, .inr ⟨rfl, HN⟩⟩
        · have HL : Hid (ixL c = l ∧ l < 64 ∧ c ∈ lets) := ⟨h1, b1, by rw [← e1]; exact let_mem l b1⟩
          have HW : Hid (wr.ownsRow w'.heap.size 5 1 (.slice (some ⟨g, 0, none⟩) n cap) n (o.map fun c => Value.int .u8 (c.toNat : Int))) := HI.out.1.rows HI.out.2.1
          have HO : Hid (Own wr w'.heap.size (.slice (some ⟨g, 0, none⟩) n cap) o) := HI.out.1
          have HLen : Hid (o.length = n ∧ n ≤ k) := ⟨HI.out.2.1, HI.out.2.2.1⟩
          have hin := HI.out.2.2.2
          clear HI e1 HC
          rcases hin.cases with ⟨rfl, rfl⟩ | ⟨b, rfl, rfl, hbl⟩ | ⟨b, rfl, rfl, hbl⟩ | ⟨b, rfl, rfl, hbl⟩
          · have hor : bits .or .i64 0 (l : Int) = l := or_zero l b1
            have HI2 : Hid (Inv (t.data.toList.take (k + 1)) o (l : Int) 6) := by rw [HS.out]; exact hin.step0 HL.out.1 HL.out.2.1 HL.out.2.2
            clear hin
            go_wp2_with (go_at_call 31; refine (ix_lets c _ rfl _).mono ?_; rintro e w' ⟨rfl, rfl⟩)
            go_roundw
            case rel => exact ⟨k + 1, n, g, cap, o, (l : Int), 6, by omega, by go_num, rfl, rfl, rfl, ⟨HO, HLen.out.1, by have := HLen.out.2; omega, HI2⟩, hb⟩
            case measure => simp [intOf]; omega
          · obtain ⟨d, hor, hand, HI3⟩ := hin.step2 HL.out.1 HL.out.2.1 HL.out.2.2
            have HI2 : Hid (Inv (t.data.toList.take (k + 1)) (o ++ [d]) 0 0) := by rw [HS.out]; exact HI3
            clear hin HI3
            have hdl : (d.toNat : Int) < 256 := by have := d.toNat_lt; omega
            go_wp2_with (first | (go_at_call 31; refine (ix_lets c _ rfl _).mono ?_; rintro e w' ⟨rfl, rfl⟩) | (at_builtin; refine wpList_append_lies _ rfl (.tmp 45) (.tmp 50) 46 rfl _ 5 i0 (.int .u8 0) 1 1 Tryd.underlying46 hi0 hz0 hz1 hz2 rfl (by omega) (.slice (some ⟨g, 0, none⟩) n cap) n _ rfl (HW.out.alloc _) ⟨_, 0, none⟩ 1 1 [.int .u8 (d.toNat : Int)] rfl rfl (World.news_of_block (cs := #[.int .u8 (d.toNat : Int)]) (t := 5) (fr := (0, 0)) (heap_alloc_new _ _)) (by simp [Value.oneCell']) (by omega) (by unfold maxLen; omega) (by omega) (by simp; omega) _ rfl ?_; intro gg cap1 w2 hown1 hgrow hat hlt1; have HN := (show Hid (Own w2 _ (.slice (some ⟨gg, 0, none⟩) (n + 1) cap1) (o ++ [d])) from Own.more (ds := [d]) hown1 HLen.out.1 rfl); have hb2 := HO.out.below hb hwz hgrow; clear hown1 hgrow hat hlt1))
            go_roundw
            case rel => exact ⟨k + 1, n + 1, gg, cap1, o ++ [d], 0, 0, by omega, by go_num, rfl, rfl, rfl, ⟨HN, by simp [HLen.out.1], by have := HLen.out.2; omega, HI2⟩, hb2⟩
            case measure => simp [intOf]; omega
          · obtain ⟨d, z, b2, hor, hzl0, hzl1, hshr, hand, HI3⟩ := hin.step4 HL.out.1 HL.out.2.1 HL.out.2.2
            have HI2 : Hid (Inv (t.data.toList.take (k + 1)) (o ++ [d]) (b2 : Int) 2) := by rw [HS.out]; exact HI3
            clear hin HI3
            have hdl : (d.toNat : Int) < 256 := by have := d.toNat_lt; omega
            go_wp2_with (first | (go_at_call 31; refine (ix_lets c _ rfl _).mono ?_; rintro e w' ⟨rfl, rfl⟩) | (at_builtin; refine wpList_append_lies _ rfl (.tmp 45) (.tmp 50) 46 rfl _ 5 i0 (.int .u8 0) 1 1 Tryd.underlying46 hi0 hz0 hz1 hz2 rfl (by omega) (.slice (some ⟨g, 0, none⟩) n cap) n _ rfl (HW.out.alloc _) ⟨_, 0, none⟩ 1 1 [.int .u8 (d.toNat : Int)] rfl rfl (World.news_of_block (cs := #[.int .u8 (d.toNat : Int)]) (t := 5) (fr := (0, 0)) (heap_alloc_new _ _)) (by simp [Value.oneCell']) (by omega) (by unfold maxLen; omega) (by omega) (by simp; omega) _ rfl ?_; intro gg cap1 w2 hown1 hgrow hat hlt1; have HN := (show Hid (Own w2 _ (.slice (some ⟨gg, 0, none⟩) (n + 1) cap1) (o ++ [d])) from Own.more (ds := [d]) hown1 HLen.out.1 rfl); have hb2 := HO.out.below hb hwz hgrow; clear hown1 hgrow hat hlt1))
            go_roundw
            case rel => exact ⟨k + 1, n + 1, gg, cap1, o ++ [d], (b2 : Int), 2, by omega, by go_num, rfl, rfl, rfl, ⟨HN, by simp [HLen.out.1], by have := HLen.out.2; omega, HI2⟩, hb2⟩
            case measure => simp [intOf]; omega
          · obtain ⟨d, z, b2, hor, hzl0, hzl1, hshr, hand, HI3⟩ := hin.step6 HL.out.1 HL.out.2.1 HL.out.2.2
            have HI2 : Hid (Inv (t.data.toList.take (k + 1)) (o ++ [d]) (b2 : Int) 4) := by rw [HS.out]; exact HI3
            clear hin HI3
            have hdl : (d.toNat : Int) < 256 := by have := d.toNat_lt; omega
            go_wp2_with (first | (go_at_call 31; refine (ix_lets c _ rfl _).mono ?_; rintro e w' ⟨rfl, rfl⟩) | (at_builtin; refine wpList_append_lies _ rfl (.tmp 45) (.tmp 50) 46 rfl _ 5 i0 (.int .u8 0) 1 1 Tryd.underlying46 hi0 hz0 hz1 hz2 rfl (by omega) (.slice (some ⟨g, 0, none⟩) n cap) n _ rfl (HW.out.alloc _) ⟨_, 0, none⟩ 1 1 [.int .u8 (d.toNat : Int)] rfl rfl (World.news_of_block (cs := #[.int .u8 (d.toNat : Int)]) (t := 5) (fr := (0, 0)) (heap_alloc_new _ _)) (by simp [Value.oneCell']) (by omega) (by unfold maxLen; omega) (by omega) (by simp; omega) _ rfl ?_; intro gg cap1 w2 hown1 hgrow hat hlt1; have HN := (show Hid (Own w2 _ (.slice (some ⟨gg, 0, none⟩) (n + 1) cap1) (o ++ [d])) from Own.more (ds := [d]) hown1 HLen.out.1 rfl); have hb2 := HO.out.below hb hwz hgrow; clear hown1 hgrow hat hlt1))
            go_roundw
            case rel => exact ⟨k + 1, n + 1, gg, cap1, o ++ [d], (b2 : Int), 4, by omega, by go_num, rfl, rfl, rfl, ⟨HN, by simp [HLen.out.1], by have := HLen.out.2; omega, HI2⟩, hb2⟩
            case measure => simp [intOf]; omega
      · have hke : k = t.size := by omega
        have hin := HI.out.2.2.2
        rw [List.take_of_length_le (by simp; omega)] at hin
        have hO := HI.out.1
        have hback := hO.back HI.out.2.1
        clear hO
        by_cases hx : x = 0
        · subst hx
          have HE : Hid (enc o = s.data.toList) := hin.good (by have := HM.out; simp; omega) HT.out
          clear hin HI hke
          go_wp2
          go_ret2
          exact ⟨hb, .inl ⟨o, rfl, HE⟩⟩
        · have HN : Hid (∀ o, enc o ≠ s.data.toList) := hin.bad hx HT.out
          have hx2 : (x == 0) = false := by simpa using hx
          clear hin HI hke hback
          go_wp2
          go_ret2
          exact ⟨hb, .inr ⟨rfl, HN⟩⟩
  · go_enter Tryd.func17, Tryd.ntmps17
    go_wp2
    go_ret2
    exact ⟨Below.refl _ _, .inr ⟨rfl, too_few _ (by simpa using h4)⟩⟩
end Go.Proofs.YtbhnaekkjpcafabDoor
