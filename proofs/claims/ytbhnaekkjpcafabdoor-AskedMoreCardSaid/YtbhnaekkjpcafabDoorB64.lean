/- The letters of a text by the program: three bytes, or what is left, are four letters. -/
import Derived.Test.YtbhnaekkjpcafabDoorBase
import Derived.Lib.Strings
namespace Go.Proofs.YtbhnaekkjpcafabDoor
open Go.RowKit

def lets : List UInt8 := [65, 66, 67, 68, 69, 70, 71, 72, 73, 74, 75, 76, 77, 78, 79, 80, 81, 82, 83, 84, 85, 86, 87, 88, 89, 90, 97, 98, 99, 100, 101, 102, 103, 104, 105, 106, 107, 108, 109, 110, 111, 112, 113, 114, 115, 116, 117, 118, 119, 120, 121, 122, 48, 49, 50, 51, 52, 53, 54, 55, 56, 57, 43, 47]
def let64 (n : Nat) : UInt8 := lets.getD n 0
/-- The number that the first k bytes of a text are, noughts behind it. -/
def val : Nat → List UInt8 → Nat
  | 0, _ => 0
  | k + 1, l => val k l * 256 + (l.getD k 0).toNat
def grp (l : List UInt8) : List UInt8 :=
  [let64 (val 3 l / 262144 % 64), let64 (val 3 l / 4096 % 64), if 2 ≤ l.length then let64 (val 3 l / 64 % 64) else 61, if 3 ≤ l.length then let64 (val 3 l % 64) else 61]
def enc : List UInt8 → List UInt8
  | [] => []
  | [a] => grp [a]
  | [a, b] => grp [a, b]
  | a :: b :: c :: r => grp [a, b, c] ++ enc r

theorem val_lt (k : Nat) (l : List UInt8) : val k l < 256 ^ k := by
  induction k with
  | zero => simp [val]
  | succ k ih =>
    have := (l.getD k 0).toNat_lt
    unfold val
    rw [Nat.pow_succ]
    omega
theorem or_join (x y i : Nat) (hx : x % 2 ^ i = 0) (hx1 : x < 2 ^ 62) (hy : y < 2 ^ i) (hi : i ≤ 62) : bits .or .i64 (x : Int) (y : Int) = ((x + y : Nat) : Int) := by
  have hp : (2 : Nat) ^ i ≤ 2 ^ 62 := Nat.pow_le_pow_right (by decide) hi
  have hy2 : y < 2 ^ 62 := by omega
  rw [bits_join .i64 62 (by decide) (fun n h0 h1 => by rw [IntKind.wrap_i64]; omega) i x y (by omega) (by exact_mod_cast hx) (by exact_mod_cast hx1) (by omega) (by exact_mod_cast hy) (by exact_mod_cast hy2)]
  simp
theorem and_mask (x i : Nat) (hx : x < 2 ^ 62) (hi : i ≤ 62) : bits .and .i64 (x : Int) (2 ^ i - 1) = ((x % 2 ^ i : Nat) : Int) := by
  rw [bits_mask .i64 62 (by decide) (fun n h0 h1 => by rw [IntKind.wrap_i64]; omega) i hi x (by omega) (by exact_mod_cast hx)]
  simp
theorem lets_at (p : Nat) (h : p < 64) : ({ data := #[65, 66, 67, 68, 69, 70, 71, 72, 73, 74, 75, 76, 77, 78, 79, 80, 81, 82, 83, 84, 85, 86, 87, 88, 89, 90, 97, 98, 99, 100, 101, 102, 103, 104, 105, 106, 107, 108, 109, 110, 111, 112, 113, 114, 115, 116, 117, 118, 119, 120, 121, 122, 48, 49, 50, 51, 52, 53, 54, 55, 56, 57, 43, 47] } : ByteArray)[p]'h = let64 p := by
  have : ∀ p : Fin 64, ({ data := #[65, 66, 67, 68, 69, 70, 71, 72, 73, 74, 75, 76, 77, 78, 79, 80, 81, 82, 83, 84, 85, 86, 87, 88, 89, 90, 97, 98, 99, 100, 101, 102, 103, 104, 105, 106, 107, 108, 109, 110, 111, 112, 113, 114, 115, 116, 117, 118, 119, 120, 121, 122, 48, 49, 50, 51, 52, 53, 54, 55, 56, 57, 43, 47] } : ByteArray)[p.val]'p.isLt = let64 p := by decide
  exact this ⟨p, h⟩

theorem grp_pad (l : List UInt8) (k : Nat) (hk : k < 4) (h1 : 1 ≤ l.length) (h : l.length < k) : (grp l).take (k + 1) = (grp l).take k ++ [61] := by
  obtain rfl | rfl | rfl | rfl : k = 0 ∨ k = 1 ∨ k = 2 ∨ k = 3 := by omega
  · omega
  · omega
  · simp [grp, show ¬ 2 ≤ l.length by omega]
  · simp [grp, show ¬ 3 ≤ l.length by omega]
theorem grp_let (l : List UInt8) (N k : Nat) (hN : val 3 l = N) (hl : N < 16777216) (hk : k < 4) (h : k ≤ l.length) : ∃ q : Nat, q < 64 ∧ bits .and .i64 (((N / 2 ^ (18 - 6 * k) : Nat) : Int)) 63 = (q : Int) ∧ (grp l).take (k + 1) = (grp l).take k ++ [let64 q] := by
  subst hN
  have hm : ∀ x : Nat, x < 2 ^ 62 → bits .and .i64 (x : Int) 63 = ((x % 64 : Nat) : Int) := fun x hx => and_mask x 6 hx (by omega)
  have hd : val 3 l / 2 ^ (18 - 6 * k) ≤ val 3 l := Nat.div_le_self _ _
  refine ⟨val 3 l / 2 ^ (18 - 6 * k) % 64, Nat.mod_lt _ (by decide), hm _ (by omega), ?_⟩
  obtain rfl | rfl | rfl | rfl : k = 0 ∨ k = 1 ∨ k = 2 ∨ k = 3 := by omega
  · simp [grp]
  · simp [grp]
  · simp [grp, show 2 ≤ l.length by omega]
  · simp [grp, show 3 ≤ l.length by omega]

set_option maxRecDepth 100000 in
set_option maxHeartbeats 800000 in
theorem group_any (part : ByteArray) (l : List UInt8) (B g n cap : Nat) (w : World) (hO : Own w B (.slice (some ⟨g, 0, none⟩) n cap) l) (hn : l.length = n) (hn2 : n ≤ 100000) (h1 : 1 ≤ part.size) (_h3 : part.size ≤ 3) (hB : B ≤ w.heap.size) :
    Calls Tryd.prog 33 #[.slice (some ⟨g, 0, none⟩) n cap, .string part] w fun e w' => ∃ g' cap', e = .returned (.slice (some ⟨g', 0, none⟩) (n + 4) cap') ∧ Own w' B (.slice (some ⟨g', 0, none⟩) (n + 4) cap') (l ++ grp part.data.toList) ∧ Below B w w' := by
  obtain ⟨i0, hi0, hz0, hz1, hz2⟩ := info_parts info5
  have HO0 : Hid (Own w B (.slice (some ⟨g, 0, none⟩) n cap) l) := hO
  clear hO
  have HLn : Hid (l.length = n ∧ n ≤ 100000) := ⟨hn, hn2⟩
  clear hn hn2
  go_enter Tryd.func33, Tryd.ntmps33
  go_wp2
  go_loop [5, 8] (fun b i => ∃ (k : Nat) (x : Int), k ≤ 3 ∧ i = .int .i64 k ∧ b = .int .i64 x ∧ Hid (x = val k part.data.toList)) (fun _ i => 3 - (intOf i).toNat)
  case atStart => exact ⟨0, 0, Nat.zero_le _, rfl, rfl, rfl⟩
  case round =>
    obtain ⟨k, x, hk, rfl, rfl, HX⟩ := hrel
    by_cases hlt : k < 3
    · have hx0 : 0 ≤ x := by have := HX.out; omega
      have hx2 : x < 65536 := by
        have e := HX.out
        have := val_lt k part.data.toList
        have h4 : (256 : Nat) ^ k ≤ 256 ^ 2 := Nat.pow_le_pow_right (by decide) (by omega)
        omega
      by_cases hp : k < part.size
      · obtain ⟨c, hc⟩ : ∃ c : UInt8, part[k] = c := ⟨_, rfl⟩
        have hcl : (c.toNat : Int) < 256 := by have := c.toNat_lt; omega
        obtain ⟨y, hor⟩ : ∃ y : Int, bits .or .i64 (x * 256) (c.toNat : Int) = y := ⟨_, rfl⟩
        have HV : Hid (y = val (k + 1) part.data.toList) := by
          show y = ((val k _ * 256 + _ : Nat) : Int)
          have e : part.data.toList.getD k 0 = c := by
            rw [← hc]; simp [List.getD, hp]; rfl
          have e2 := HX.out
          have := or_join (x.toNat * 256) c.toNat 8 (by omega) (by omega) (by omega) (by omega)
          rw [e, ← hor, show x * 256 = ((x.toNat * 256 : Nat) : Int) by omega, this]
          omega
        go_wp2
        go_round
        case rel => exact ⟨k + 1, y, by omega, by go_num, rfl, HV⟩
        case measure => simp [intOf]; omega
      · have HV : Hid (x * 256 = val (k + 1) part.data.toList) := by
          show _ = ((val k _ * 256 + _ : Nat) : Int)
          have e : part.data.toList.getD k 0 = 0 := by
            simp [List.getD, hp]
          have e2 := HX.out
          have e3 : (0 : UInt8).toNat = 0 := rfl
          rw [e, e3]
          omega
        go_wp2
        go_round
        case rel => exact ⟨k + 1, _, by omega, by go_num, rfl, HV⟩
        case measure => simp [intOf]; omega
    · have hk3 : k = 3 := by omega
      subst hk3
      obtain ⟨N, hN⟩ : ∃ N : Nat, val 3 part.data.toList = N := ⟨_, rfl⟩
      have HN : Hid (val 3 part.data.toList = N) := hN
      have hxN : x = (N : Int) := by rw [← hN]; exact HX.out
      subst hxN
      have HNl : Hid (N < 16777216) := by have := val_lt 3 part.data.toList; rw [hN] at this; exact this
      clear hN HX hk hlt
      go_wp2
      go_loopw [0, 24] (fun v i wr => ∃ (k g1 cap1 : Nat), k ≤ 4 ∧ i = .int .i64 k ∧ v = .slice (some ⟨g1, 0, none⟩) (n + k) cap1 ∧ Hid (Own wr B v (l ++ (grp part.data.toList).take k)) ∧ Below B w wr) (fun _ i _ => 4 - (intOf i).toNat)
      case atStart => exact ⟨0, g, cap, Nat.zero_le _, rfl, rfl, by rw [List.take_zero, List.append_nil]; exact HO0, Below.refl _ _⟩
      case round =>
        obtain ⟨k, g1, cap1, hk, rfl, rfl, HO, hb⟩ := hrel
        clear HO0
        have hBz : B ≤ wr.heap.size := Nat.le_trans hB hb.size
        have hlen : (l ++ (grp part.data.toList).take k).length = n + k := by
          rw [List.length_append, HLn.out.1, List.length_take]
          have : (grp part.data.toList).length = 4 := rfl
          omega
        have HW : Hid (wr.ownsRow B 5 1 (.slice (some ⟨g1, 0, none⟩) (n + k) cap1) (n + k) ((l ++ (grp part.data.toList).take k).map fun c => Value.int .u8 (c.toNat : Int))) := HO.out.rows hlen
        have HLen : Hid ((l ++ (grp part.data.toList).take k).length = n + k) := hlen
        have HM : Hid (n + k + 1 ≤ maxLen ∧ (n + k + 1) * 1 ≤ 140737488355328) := by
          have := HLn.out.2
          show _ ∧ _
          unfold maxLen
          omega
        clear hlen
        by_cases hlt : k < 4
        · by_cases hpad : (part.size : Int) < (k : Int)
          · have HG : Hid ((grp part.data.toList).take (k + 1) = (grp part.data.toList).take k ++ [61]) := grp_pad _ k hlt (by simpa using h1) (by simp; omega)
            go_wp2_with (at_builtin; refine wpList_append_lies _ rfl (.tmp 31) (.tmp 32) 46 rfl B 5 i0 (.int .u8 0) 1 1 Tryd.underlying46 hi0 hz0 hz1 hz2 rfl (by omega) (.slice (some ⟨g1, 0, none⟩) (n + k) cap1) (n + k) _ rfl (HW.out.alloc _) ⟨_, 0, none⟩ 1 1 [.int .u8 61] rfl rfl (World.news_of_block (cs := #[.int .u8 61]) (t := 5) (fr := (0, 0)) (heap_alloc_new _ _)) (by simp [Value.oneCell']) (by omega) HM.out.1 HM.out.2 (by simp; omega) _ rfl ?_; intro gg cap2 w2 hown1 hgrow hat hlt1; have HN2 : Hid (Own w2 B (.slice (some ⟨gg, 0, none⟩) (n + k + 1) cap2) (l ++ (grp part.data.toList).take (k + 1))) := (by show Own _ _ _ _; rw [HG.out, ← List.append_assoc]; exact Own.more (ds := [61]) hown1 HLen.out rfl); have hb2 : Below B w w2 := HO.out.below hb hBz hgrow; clear hown1 hgrow hat hlt1)
            go_roundw
            case rel => exact ⟨k + 1, gg, cap2, by omega, by go_num, rfl, HN2, hb2⟩
            case measure => simp [intOf]; omega
          · obtain ⟨q, hq64, hq, HG⟩ := grp_let part.data.toList N k HN.out HNl.out hlt (by simp; omega)
            obtain ⟨d, hd⟩ : ∃ d : UInt8, ({ data := #[65, 66, 67, 68, 69, 70, 71, 72, 73, 74, 75, 76, 77, 78, 79, 80, 81, 82, 83, 84, 85, 86, 87, 88, 89, 90, 97, 98, 99, 100, 101, 102, 103, 104, 105, 106, 107, 108, 109, 110, 111, 112, 113, 114, 115, 116, 117, 118, 119, 120, 121, 122, 48, 49, 50, 51, 52, 53, 54, 55, 56, 57, 43, 47] } : ByteArray)[q]'hq64 = d := ⟨_, rfl⟩
            have HG2 : Hid ((grp part.data.toList).take (k + 1) = (grp part.data.toList).take k ++ [d]) := by rw [← hd, lets_at q hq64]; exact HG
            clear HG
            have hq64' : (q : Int) < 64 := by omega
            obtain rfl | rfl | rfl | rfl : k = 0 ∨ k = 1 ∨ k = 2 ∨ k = 3 := by omega
            · have hqk : bits .and .i64 ((N : Int) / 262144) 63 = (q : Int) := by rw [← hq]; simp
              clear hq
              have HWk : Hid (wr.ownsRow B 5 1 (.slice (some ⟨g1, 0, none⟩) n cap1) n ((l ++ (grp part.data.toList).take 0).map fun c => Value.int .u8 (c.toNat : Int))) := HW
              clear HW
              have HOk : Hid (Own wr B (.slice (some ⟨g1, 0, none⟩) n cap1) (l ++ (grp part.data.toList).take 0)) := HO
              clear HO
              go_wp2_with (at_builtin; refine wpList_append_lies _ rfl (.tmp 34) (.tmp 42) 46 rfl B 5 i0 (.int .u8 0) 1 1 Tryd.underlying46 hi0 hz0 hz1 hz2 rfl (by omega) (.slice (some ⟨g1, 0, none⟩) n cap1) n _ rfl (HWk.out.alloc _) ⟨_, 0, none⟩ 1 1 [.int .u8 (d.toNat : Int)] rfl rfl (World.news_of_block (cs := #[.int .u8 (d.toNat : Int)]) (t := 5) (fr := (0, 0)) (heap_alloc_new _ _)) (by simp [Value.oneCell']) (by omega) HM.out.1 HM.out.2 (by simp; omega) _ rfl ?_; intro gg cap2 w2 hown1 hgrow hat hlt1; have HN2 : Hid (Own w2 B (.slice (some ⟨gg, 0, none⟩) (n + 1) cap2) (l ++ (grp part.data.toList).take (0 + 1))) := (by show Own _ _ _ _; rw [HG2.out, ← List.append_assoc]; exact Own.more (ds := [d]) hown1 HLen.out rfl); have hb2 : Below B w w2 := HOk.out.below hb hBz hgrow; clear hown1 hgrow hat hlt1)
              go_roundw
              case rel => exact ⟨0 + 1, gg, cap2, by omega, by go_num, rfl, HN2, hb2⟩
              case measure => simp [intOf]
            · have hqk : bits .and .i64 ((N : Int) / 4096) 63 = (q : Int) := by rw [← hq]; simp
              clear hq
              have HWk : Hid (wr.ownsRow B 5 1 (.slice (some ⟨g1, 0, none⟩) (n + 1) cap1) (n + 1) ((l ++ (grp part.data.toList).take 1).map fun c => Value.int .u8 (c.toNat : Int))) := HW
              clear HW
              have HOk : Hid (Own wr B (.slice (some ⟨g1, 0, none⟩) (n + 1) cap1) (l ++ (grp part.data.toList).take 1)) := HO
              clear HO
              go_wp2_with (at_builtin; refine wpList_append_lies _ rfl (.tmp 34) (.tmp 42) 46 rfl B 5 i0 (.int .u8 0) 1 1 Tryd.underlying46 hi0 hz0 hz1 hz2 rfl (by omega) (.slice (some ⟨g1, 0, none⟩) (n + 1) cap1) (n + 1) _ rfl (HWk.out.alloc _) ⟨_, 0, none⟩ 1 1 [.int .u8 (d.toNat : Int)] rfl rfl (World.news_of_block (cs := #[.int .u8 (d.toNat : Int)]) (t := 5) (fr := (0, 0)) (heap_alloc_new _ _)) (by simp [Value.oneCell']) (by omega) HM.out.1 HM.out.2 (by simp; omega) _ rfl ?_; intro gg cap2 w2 hown1 hgrow hat hlt1; have HN2 : Hid (Own w2 B (.slice (some ⟨gg, 0, none⟩) ((n + 1) + 1) cap2) (l ++ (grp part.data.toList).take (1 + 1))) := (by show Own _ _ _ _; rw [HG2.out, ← List.append_assoc]; exact Own.more (ds := [d]) hown1 HLen.out rfl); have hb2 : Below B w w2 := HOk.out.below hb hBz hgrow; clear hown1 hgrow hat hlt1)
              go_roundw
              case rel => exact ⟨1 + 1, gg, cap2, by omega, by go_num, rfl, HN2, hb2⟩
              case measure => simp [intOf]
            · have hqk : bits .and .i64 ((N : Int) / 64) 63 = (q : Int) := by rw [← hq]; simp
              clear hq
              have HWk : Hid (wr.ownsRow B 5 1 (.slice (some ⟨g1, 0, none⟩) (n + 2) cap1) (n + 2) ((l ++ (grp part.data.toList).take 2).map fun c => Value.int .u8 (c.toNat : Int))) := HW
              clear HW
              have HOk : Hid (Own wr B (.slice (some ⟨g1, 0, none⟩) (n + 2) cap1) (l ++ (grp part.data.toList).take 2)) := HO
              clear HO
              go_wp2_with (at_builtin; refine wpList_append_lies _ rfl (.tmp 34) (.tmp 42) 46 rfl B 5 i0 (.int .u8 0) 1 1 Tryd.underlying46 hi0 hz0 hz1 hz2 rfl (by omega) (.slice (some ⟨g1, 0, none⟩) (n + 2) cap1) (n + 2) _ rfl (HWk.out.alloc _) ⟨_, 0, none⟩ 1 1 [.int .u8 (d.toNat : Int)] rfl rfl (World.news_of_block (cs := #[.int .u8 (d.toNat : Int)]) (t := 5) (fr := (0, 0)) (heap_alloc_new _ _)) (by simp [Value.oneCell']) (by omega) HM.out.1 HM.out.2 (by simp; omega) _ rfl ?_; intro gg cap2 w2 hown1 hgrow hat hlt1; have HN2 : Hid (Own w2 B (.slice (some ⟨gg, 0, none⟩) ((n + 2) + 1) cap2) (l ++ (grp part.data.toList).take (2 + 1))) := (by show Own _ _ _ _; rw [HG2.out, ← List.append_assoc]; exact Own.more (ds := [d]) hown1 HLen.out rfl); have hb2 : Below B w w2 := HOk.out.below hb hBz hgrow; clear hown1 hgrow hat hlt1)
              go_roundw
              case rel => exact ⟨2 + 1, gg, cap2, by omega, by go_num, rfl, HN2, hb2⟩
              case measure => simp [intOf]
            · have hqk : bits .and .i64 (N : Int) 63 = (q : Int) := by rw [← hq]; simp
              clear hq
              have HWk : Hid (wr.ownsRow B 5 1 (.slice (some ⟨g1, 0, none⟩) (n + 3) cap1) (n + 3) ((l ++ (grp part.data.toList).take 3).map fun c => Value.int .u8 (c.toNat : Int))) := HW
              clear HW
              have HOk : Hid (Own wr B (.slice (some ⟨g1, 0, none⟩) (n + 3) cap1) (l ++ (grp part.data.toList).take 3)) := HO
              clear HO
              go_wp2_with (at_builtin; refine wpList_append_lies _ rfl (.tmp 34) (.tmp 42) 46 rfl B 5 i0 (.int .u8 0) 1 1 Tryd.underlying46 hi0 hz0 hz1 hz2 rfl (by omega) (.slice (some ⟨g1, 0, none⟩) (n + 3) cap1) (n + 3) _ rfl (HWk.out.alloc _) ⟨_, 0, none⟩ 1 1 [.int .u8 (d.toNat : Int)] rfl rfl (World.news_of_block (cs := #[.int .u8 (d.toNat : Int)]) (t := 5) (fr := (0, 0)) (heap_alloc_new _ _)) (by simp [Value.oneCell']) (by omega) HM.out.1 HM.out.2 (by simp; omega) _ rfl ?_; intro gg cap2 w2 hown1 hgrow hat hlt1; have HN2 : Hid (Own w2 B (.slice (some ⟨gg, 0, none⟩) ((n + 3) + 1) cap2) (l ++ (grp part.data.toList).take (3 + 1))) := (by show Own _ _ _ _; rw [HG2.out, ← List.append_assoc]; exact Own.more (ds := [d]) hown1 HLen.out rfl); have hb2 : Below B w w2 := HOk.out.below hb hBz hgrow; clear hown1 hgrow hat hlt1)
              go_roundw
              case rel => exact ⟨3 + 1, gg, cap2, by omega, by go_num, rfl, HN2, hb2⟩
              case measure => simp [intOf]
        · have hk4 : k = 4 := by omega
          subst hk4
          have HE : Hid (Own wr B (.slice (some ⟨g1, 0, none⟩) (n + 4) cap1) (l ++ grp part.data.toList)) := by
            have := HO.out
            rwa [List.take_of_length_le (show (grp part.data.toList).length ≤ 4 from Nat.le_refl 4)] at this
          clear HW HM HLen HO
          go_wp2
          go_ret
          exact ⟨g1, cap1, rfl, HE, hb⟩

theorem grp_length (l : List UInt8) : (grp l).length = 4 := rfl
theorem enc_part (l : List UInt8) (h1 : 1 ≤ l.length) (h3 : l.length ≤ 3) : enc l = grp l := by
  match l, h1, h3 with
  | [a], _, _ => rfl
  | [a, b], _, _ => rfl
  | [a, b, c], _, _ => simp [enc]
theorem enc_append (x y : List UInt8) (h : x.length % 3 = 0) : enc (x ++ y) = enc x ++ enc y := by
  match x, h with
  | [], _ => rfl
  | a :: b :: c :: r, h =>
    have := enc_append r y (by simp at h; omega)
    simp only [List.cons_append, enc, this, List.append_assoc]
theorem enc_length (l : List UInt8) : (enc l).length = (l.length + 2) / 3 * 4 := by
  match l with
  | [] => rfl
  | [a] => simp [enc, grp_length]
  | [a, b] => simp [enc, grp_length]
  | a :: b :: c :: r =>
    have := enc_length r
    simp only [enc, List.length_append, grp_length, this, List.length_cons]
    omega

set_option maxRecDepth 100000 in
set_option maxHeartbeats 800000 in
theorem base_any (s : ByteArray) (w : World) (hs : s.size ≤ 1000) :
    Calls Tryd.prog 19 #[.string s] w fun e w' => e = .returned (.string (bs (enc s.data.toList))) ∧ Below w.heap.size w w' := by
  obtain ⟨i0, hi0, hz0, hz1, hz2⟩ := info_parts info5
  obtain ⟨m, hm⟩ : ∃ m : Nat, ((s.size : Int) + 2) / 3 = m := ⟨(s.size + 2) / 3, by omega⟩
  have hm3 : m ≤ 334 := by omega
  have HM : Hid (m = (s.size + 2) / 3) := by show _ = _; omega
  go_enter Tryd.func19, Tryd.ntmps19
  go_wp2_with (at_make; refine wpList_make_own _ rfl _ _ 46 rfl w.heap.size 5 i0 (.int .u8 0) 1 Tryd.underlying46 hi0 hz0 hz1 .i64 .i64 _ (4 * m) rfl rfl (by omega) (by rw [hz2]; omega) (by unfold maxLen; omega) (Nat.le_refl _) ?_; intro w1 hown1 hgrow1)
  have hb1 : Below w.heap.size w w1 := (Below.refl _ _).grown hgrow1 (Nat.le_refl _) (by simp)
  have HO1 : Hid (Own w1 w.heap.size (.slice (some ⟨w.heap.size, 0, none⟩) 0 (4 * m)) []) := hown1
  clear hown1 hgrow1
  go_loopw [4, 14] (fun v i wr => ∃ (k g cap : Nat), k ≤ m ∧ i = .int .i64 k ∧ v = .slice (some ⟨g, 0, none⟩) (4 * k) cap ∧ Hid (Own wr w.heap.size v (enc (s.data.toList.take (3 * k)))) ∧ Below w.heap.size w wr) (fun _ i _ => m - (intOf i).toNat)
  case atStart => exact ⟨0, _, _, Nat.zero_le _, rfl, rfl, HO1, hb1⟩
  case round =>
    obtain ⟨k, g, cap, hk, rfl, rfl, HO, hb⟩ := hrel
    clear HO1 hb1
    by_cases hlt : k < m
    · have hwz : w.heap.size ≤ wr.heap.size := hb.size
      obtain ⟨part, hpart⟩ : ∃ p : ByteArray, s.extract (3 * k) (min (3 * (k : Int) + 3) (s.size : Int)).toNat = p := ⟨_, rfl⟩
      have hpl : part.data.toList = (s.data.toList.drop (3 * k)).take 3 := by
        have e := HM.out
        rw [← hpart, Lib.extract_data]
        by_cases hf : 3 * k + 3 ≤ s.size
        · rw [show (min (3 * (k : Int) + 3) (s.size : Int)).toNat - 3 * k = 3 by omega]
        · rw [List.take_of_length_le (by simp; omega), List.take_of_length_le (by simp; omega)]
      have hp1 : 1 ≤ part.size ∧ part.size ≤ 3 := by
        have e := HM.out
        rw [Lib.size_eq, hpl]
        simp
        omega
      have HT : Hid (enc (s.data.toList.take (3 * (k + 1))) = enc (s.data.toList.take (3 * k)) ++ grp part.data.toList) := by
        have e := HM.out
        show _ = _
        rw [← enc_part _ (by have := Lib.size_eq part; omega) (by have := Lib.size_eq part; omega), ← enc_append _ _ (by simp; omega), hpl, show 3 * (k + 1) = 3 * k + 3 by omega, List.take_add]
      have HL : Hid ((enc (s.data.toList.take (3 * k))).length = 4 * k) := by
        have e := HM.out
        show _ = _
        rw [enc_length, List.length_take]
        simp
        omega
      clear hpl
      have HP : Hid (1 ≤ part.size ∧ part.size ≤ 3) := hp1
      clear hp1
      go_wp2_with (go_at_call 33; refine (group_any part _ w.heap.size g (4 * k) cap _ HO.out HL.out (by omega) HP.out.1 HP.out.2 hwz).mono ?_; rintro e w' ⟨g', cap', rfl, HN, hb2⟩; have HN2 : Hid (Own w' w.heap.size (.slice (some ⟨g', 0, none⟩) (4 * k + 4) cap') (enc (s.data.toList.take (3 * (k + 1))))) := (by show Own _ _ _ _; rw [HT.out]; exact HN); clear HN)
      go_roundw
      case rel => exact ⟨k + 1, g', cap', by omega, by go_num, rfl, HN2, hb.trans hb2⟩
      case measure => simp [intOf]; omega
    · have hO : Own wr w.heap.size (.slice (some ⟨g, 0, none⟩) (4 * k) cap) (enc s.data.toList) := by
        have := HO.out
        have e := HM.out
        rwa [List.take_of_length_le (by simp; omega)] at this
      have hback := hO.back (by rw [enc_length]; have := HM.out; simp; omega)
      clear hO HO
      go_wp2
      go_ret
      exact ⟨rfl, hb⟩
end Go.Proofs.YtbhnaekkjpcafabDoor
