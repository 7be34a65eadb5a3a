/- The bytes of digits by the program: just what Hex writes is read, and read as what it was. -/
import Derived.Test.YtbhnaekkjpcafabDoorHex
import Derived.Test.YtbhnaekkjpcafabDoorIx
namespace Go.Proofs.YtbhnaekkjpcafabDoor
open Go.RowKit

theorem dig_mem (n : Nat) (h : n < 16) : dig n ∈ digs := by
  have : ∀ p : Fin 16, dig p ∈ digs := by decide
  exact this ⟨n, h⟩
theorem dig_inj (a b : Nat) (ha : a < 16) (hb : b < 16) (h : dig a = dig b) : a = b := by
  have : ∀ p q : Fin 16, dig p = dig q → p = q := by decide
  have := this ⟨a, ha⟩ ⟨b, hb⟩ h
  injection this
theorem hexL_mem (l : List UInt8) : ∀ c ∈ hexL l, c ∈ digs := by
  induction l with
  | nil => intro c hc; cases hc
  | cons a r ih =>
    intro c hc
    simp only [hexL, List.mem_cons] at hc
    have := a.toNat_lt
    rcases hc with rfl | rfl | hc
    · exact dig_mem _ (by omega)
    · exact dig_mem _ (by omega)
    · exact ih c hc
theorem hexL_inj : ∀ (a b : List UInt8), hexL a = hexL b → a = b
  | [], [], _ => rfl
  | [], c :: r, h => by simp [hexL] at h
  | c :: r, [], h => by simp [hexL] at h
  | c :: r, d :: t, h => by
    simp only [hexL, List.cons.injEq] at h
    have h1 := c.toNat_lt
    have h2 := d.toNat_lt
    have e1 := dig_inj _ _ (by omega) (by omega) h.1
    have e2 := dig_inj _ _ (by omega) (by omega) h.2.1
    have e3 : c = d := UInt8.toNat_inj.1 (by omega)
    rw [e3, hexL_inj r t h.2.2]

theorem or16 (a b : Nat) (ha : a < 16) (hb : b < 16) : bits .or .i64 ((a : Int) * 16) (b : Int) = (a : Int) * 16 + b := by
  have : ∀ p q : Fin 16, bits .or .i64 ((p.val : Int) * 16) (q.val : Int) = (p.val : Int) * 16 + q.val := by decide
  exact this ⟨a, ha⟩ ⟨b, hb⟩

def ixD (c : UInt8) : Int := ixOf digs c
theorem ix_digs (c : UInt8) (n : Int) (hn : n = c.toNat) (w : World) :
    Calls Tryd.prog 31 #[.string { data := #[48, 49, 50, 51, 52, 53, 54, 55, 56, 57, 97, 98, 99, 100, 101, 102] }, .int .u8 n] w fun e w' => e = .returned (.int .i64 (ixD c)) ∧ w' = w := ix_of _ c n hn w
theorem ixD_cases (c : UInt8) : (ixD c = -1 ∧ c ∉ digs) ∨ ∃ n : Nat, n < 16 ∧ ixD c = n ∧ dig n = c := ixOf_cases digs c
theorem byte_of (a b : Nat) (ha : a < 16) (hb : b < 16) : ∃ d : UInt8, bits .or .i64 ((a : Int) * 16) (b : Int) = (d.toNat : Int) ∧ dig (d.toNat / 16) = dig a ∧ dig (d.toNat % 16) = dig b := by
  refine ⟨UInt8.ofNat (a * 16 + b), ?_⟩
  have e : (UInt8.ofNat (a * 16 + b)).toNat = a * 16 + b := by simp only [UInt8.toNat_ofNat']; omega
  rw [e, show (a * 16 + b) / 16 = a by omega, show (a * 16 + b) % 16 = b by omega, or16 a b ha hb]
  exact ⟨by omega, rfl, rfl⟩
theorem hexL_not (s : List UInt8) (c : UInt8) (n : Nat) (h : n < s.length) (hc : s[n] = c) (hn : c ∉ digs) : ∀ o, hexL o ≠ s := by
  intro o ho
  subst ho
  exact hn (hexL_mem o c (hc ▸ List.getElem_mem h))

set_option maxRecDepth 100000 in
set_option maxHeartbeats 1600000 in
theorem unhex_any (s : ByteArray) (w : World) (hs : s.size ≤ 1000) :
    Calls Tryd.prog 16 #[.string s] w fun e w' => Below w.heap.size w w' ∧ ((∃ o : List UInt8, e = .returned (.tuple #[.string (bs o), .nilIface]) ∧ hexL o = s.data.toList) ∨ (e = .returned (.tuple #[.string (bs []), .iface 49 (.int .i64 3)]) ∧ ∀ o, hexL o ≠ s.data.toList)) := by
  obtain ⟨i0, hi0, hz0, hz1, hz2⟩ := info_parts info5
  by_cases hodd : s.size % 2 = 0
  · obtain ⟨m, hm⟩ : ∃ m, m * 2 = s.size := ⟨s.size / 2, by omega⟩
    have hm1 : (s.size : Int) = m * 2 := by omega
    have HM : Hid (m * 2 = s.size) := hm
    have hm5 : m ≤ 500 := by omega
    clear hm hodd
    go_enter Tryd.func16, Tryd.ntmps16
    go_wp2_with (at_make; refine wpList_make_own _ rfl _ _ 46 rfl w.heap.size 5 i0 (.int .u8 0) 1 Tryd.underlying46 hi0 hz0 hz1 .i64 .i64 _ m rfl rfl rfl (by rw [hz2]; omega) (by unfold maxLen; omega) (Nat.le_refl _) ?_; intro w1 hown1 hgrow1)
    have hb1 : Below w.heap.size w w1 := (Below.refl _ _).grown hgrow1 (Nat.le_refl _) (by simp)
    have HO1 : Hid (Own w1 w.heap.size (.slice (some ⟨w.heap.size, 0, none⟩) 0 m) []) := hown1
    clear hown1 hgrow1
    go_loopw [4, 20] (fun v i wr => ∃ (k g cap : Nat) (o : List UInt8), k ≤ m ∧ i = .int .i64 k ∧ v = .slice (some ⟨g, 0, none⟩) k cap ∧ Hid (Own wr w.heap.size v o ∧ o.length = k ∧ hexL o = s.data.toList.take (2 * k)) ∧ Below w.heap.size w wr) (fun _ i _ => m - (intOf i).toNat)
    case atStart => exact ⟨0, _, _, [], Nat.zero_le _, rfl, rfl, ⟨HO1, rfl, rfl⟩, hb1⟩
    case round =>
      obtain ⟨k, g, cap, o, hk, rfl, rfl, HO, hb⟩ := hrel
      clear HO1 hb1
      by_cases hlt : k < m
      · obtain ⟨c1, hc1⟩ : ∃ c : UInt8, s[2 * k]'(by have := HM.out; omega) = c := ⟨_, rfl⟩
        obtain ⟨c2, hc2⟩ : ∃ c : UInt8, s[2 * k + 1]'(by have := HM.out; omega) = c := ⟨_, rfl⟩
        have HS : Hid (s.data.toList.take (2 * (k + 1)) = s.data.toList.take (2 * k) ++ [c1, c2]) := by
          have e1 := take_snoc s (2 * k) (by have := HM.out; omega)
          have e2 := take_snoc s (2 * k + 1) (by have := HM.out; omega)
          show s.data.toList.take (2 * k + 1 + 1) = _
          rw [e2, e1, hc1, hc2, List.append_assoc]; rfl
        have hwz : w.heap.size ≤ wr.heap.size := hb.size
        have hz : s.data.toList.length = s.size := by simp
        have H1 : Hid (c1 ∉ digs → ∀ o, hexL o ≠ s.data.toList) := fun h => hexL_not _ c1 (2 * k) (by have := HM.out; omega) hc1 h
        have H2 : Hid (c2 ∉ digs → ∀ o, hexL o ≠ s.data.toList) := fun h => hexL_not _ c2 (2 * k + 1) (by have := HM.out; omega) hc2 h
        clear hz
        rcases ixD_cases c1 with ⟨h1, n1⟩ | ⟨x1, b1, h1, e1⟩
        · have N1 := H1.out n1
          have HN : Hid (∀ o, hexL o ≠ s.data.toList) := N1
          clear N1 n1
          go_wp2_with (go_at_call 31; first | (refine (ix_digs c1 _ rfl _).mono ?_; rintro e w' ⟨rfl, rfl⟩) | (refine (ix_digs c2 _ rfl _).mono ?_; rintro e w' ⟨rfl, rfl⟩))
          go_ret2
          exact ⟨hb, .inr ⟨rfl, HN⟩⟩
        · rcases ixD_cases c2 with ⟨h2, n2⟩ | ⟨x2, b2, h2, e2⟩
          · have N1 := H2.out n2
            have HN : Hid (∀ o, hexL o ≠ s.data.toList) := N1
            clear N1 n2
            have E1 : Hid (dig x1 = c1) := e1
            clear e1
            go_wp2_with (go_at_call 31; first | (refine (ix_digs c1 _ rfl _).mono ?_; rintro e w' ⟨rfl, rfl⟩) | (refine (ix_digs c2 _ rfl _).mono ?_; rintro e w' ⟨rfl, rfl⟩))
            go_ret2
            exact ⟨hb, .inr ⟨rfl, HN⟩⟩
          · obtain ⟨d, hd, E3, E4⟩ := byte_of x1 x2 b1 b2
            have hdl : (d.toNat : Int) < 256 := by have := d.toNat_lt; omega
            have HE : Hid (hexL (o ++ [d]) = s.data.toList.take (2 * (k + 1))) := by
              show _ = _
              rw [hexL_append, HO.out.2.2, HS.out]
              show _ ++ [dig (d.toNat / 16), dig (d.toNat % 16)] = _
              rw [E3, E4, e1, e2]
            have HW : Hid (wr.ownsRow w.heap.size 5 1 (.slice (some ⟨g, 0, none⟩) k cap) k (o.map fun c => Value.int .u8 (c.toNat : Int))) := HO.out.1.rows HO.out.2.1
            have HO2 := HO.out.1
            have HO3 : Hid (Own wr w.heap.size (.slice (some ⟨g, 0, none⟩) k cap) o) := HO2
            have HL : Hid (o.length = k) := HO.out.2.1
            clear e1 e2 E3 E4 HO2 HO H1 H2 HS
            go_wp2_with (first | (go_at_call 31; first | (refine (ix_digs c1 _ rfl _).mono ?_; rintro e w' ⟨rfl, rfl⟩) | (refine (ix_digs c2 _ rfl _).mono ?_; rintro e w' ⟨rfl, rfl⟩)) | (at_builtin; refine wpList_append_lies _ rfl (.tmp 41) (.tmp 47) 46 rfl w.heap.size 5 i0 (.int .u8 0) 1 1 Tryd.underlying46 hi0 hz0 hz1 hz2 rfl (by omega) (.slice (some ⟨g, 0, none⟩) k cap) k _ rfl (HW.out.alloc _) ⟨_, 0, none⟩ 1 1 [.int .u8 (d.toNat : Int)] rfl rfl (World.news_of_block (cs := #[.int .u8 (d.toNat : Int)]) (t := 5) (fr := (0, 0)) (heap_alloc_new _ _)) (by simp [Value.oneCell']) (by omega) (by unfold maxLen; omega) (by omega) (by simp; omega) _ rfl ?_; intro gg cap1 w2 hown1 hgrow hat hlt1; have HN : Hid (Own w2 w.heap.size (.slice (some ⟨gg, 0, none⟩) (k + 1) cap1) (o ++ [d])) := Own.more (ds := [d]) hown1 HL.out rfl; have hb2 : Below w.heap.size w w2 := HO3.out.below hb hwz hgrow; clear hown1 hgrow hat hlt1))
            go_roundw
            case rel => exact ⟨k + 1, gg, cap1, o ++ [d], by omega, by go_num, rfl, ⟨HN, by simp [HL.out], HE⟩, hb2⟩
            case measure => simp [intOf]; omega
      · have hke : k = m := by omega
        have hO := HO.out.1
        have hback := hO.back HO.out.2.1
        have HE : Hid (hexL o = s.data.toList) := by
          have := HO.out.2.2
          rwa [List.take_of_length_le (by simp; have := HM.out; omega)] at this
        clear hO HO hke
        go_wp2
        go_ret2
        exact ⟨hb, .inl ⟨o, rfl, HE⟩⟩
  · go_enter Tryd.func16, Tryd.ntmps16
    go_wp2
    go_ret2
    refine ⟨Below.refl _ _, .inr ⟨rfl, fun o ho => hodd ?_⟩⟩
    have := congrArg List.length ho
    rw [hexL_length] at this
    simp at this
    omega
end Go.Proofs.YtbhnaekkjpcafabDoor
