/- The digits of a text by the program, and the text of digits by the program, told as lists of bytes. -/
import Derived.Test.YtbhnaekkjpcafabDoorBase
namespace Go.Proofs.YtbhnaekkjpcafabDoor
open Go.RowKit

def digs : List UInt8 := [48, 49, 50, 51, 52, 53, 54, 55, 56, 57, 97, 98, 99, 100, 101, 102]
def dig (n : Nat) : UInt8 := digs.getD n 0
def hexL : List UInt8 → List UInt8
  | [] => []
  | c :: r => dig (c.toNat / 16) :: dig (c.toNat % 16) :: hexL r

theorem hexL_append (a b : List UInt8) : hexL (a ++ b) = hexL a ++ hexL b := by
  induction a with
  | nil => rfl
  | cons c r ih => simp only [List.cons_append, hexL, ih]
theorem hexL_length (l : List UInt8) : (hexL l).length = 2 * l.length := by
  induction l with
  | nil => rfl
  | cons c r ih => simp only [hexL, List.length_cons, ih]; omega
theorem digs_at (p : Nat) (h : p < 16) : ({ data := #[48, 49, 50, 51, 52, 53, 54, 55, 56, 57, 97, 98, 99, 100, 101, 102] } : ByteArray)[p]'h = dig p := by
  have : ∀ p : Fin 16, ({ data := #[48, 49, 50, 51, 52, 53, 54, 55, 56, 57, 97, 98, 99, 100, 101, 102] } : ByteArray)[p.val]'p.isLt = dig p := by decide
  exact this ⟨p, h⟩

set_option maxRecDepth 100000 in
set_option maxHeartbeats 1600000 in
theorem hex_any (s : ByteArray) (w : World) (hs : s.size ≤ 1000) :
    Calls Tryd.prog 18 #[.string s] w fun e w' => e = .returned (.string (bs (hexL s.data.toList))) ∧ Below w.heap.size w w' := by
  obtain ⟨i0, hi0, hz0, hz1, hz2⟩ := info_parts info5
  go_enter Tryd.func18, Tryd.ntmps18
  go_wp2_with (at_make; refine wpList_make_own _ rfl _ _ 46 rfl w.heap.size 5 i0 (.int .u8 0) 1 Tryd.underlying46 hi0 hz0 hz1 .i64 .i64 _ (2 * s.size) rfl rfl (by omega) (by rw [hz2]; omega) (by unfold maxLen; omega) (Nat.le_refl _) ?_; intro w1 hown1 hgrow1)
  have hb1 : Below w.heap.size w w1 := (Below.refl _ _).grown hgrow1 (Nat.le_refl _) (by simp)
  have HO1 : Hid (Own w1 w.heap.size (.slice (some ⟨w.heap.size, 0, none⟩) 0 (2 * s.size)) []) := hown1
  clear hown1 hgrow1
  go_loopw [3, 11] (fun v i wr => ∃ (k g cap : Nat), k ≤ s.size ∧ i = .int .i64 k ∧ v = .slice (some ⟨g, 0, none⟩) (2 * k) cap ∧ Hid (Own wr w.heap.size v (hexL (s.data.toList.take k))) ∧ Below w.heap.size w wr) (fun _ i _ => s.size - (intOf i).toNat)
  case atStart => exact ⟨0, _, _, Nat.zero_le _, rfl, rfl, HO1, hb1⟩
  case round =>
    obtain ⟨k, g, cap, hk, rfl, rfl, HO, hb⟩ := hrel
    by_cases hlt : k < s.size
    · obtain ⟨c, hcd⟩ : ∃ c : UInt8, s[k] = c := ⟨_, rfl⟩
      have hcl : (c.toNat : Int) < 256 := by have := c.toNat_lt; omega
      have h0 : (0 : Int) ≤ (k : Int) := Int.natCast_nonneg _
      have hlt' : (k : Int) < (s.size : Int) := by omega
      obtain ⟨p, hp⟩ : ∃ p : Nat, (c.toNat : Int) / 16 = p := ⟨c.toNat / 16, by omega⟩
      obtain ⟨q, hq⟩ : ∃ q : Nat, bits .and .u8 (c.toNat : Int) 15 = q := ⟨c.toNat % 16, by rw [u8_and15 _ (by omega) hcl]; omega⟩
      have hp' : (p : Int) < 16 := by omega
      have hq' : (q : Int) < 16 := by rw [← hq, u8_and15 _ (by omega) hcl]; omega
      have hpn : p < 16 := by omega
      have hqn : q < 16 := by omega
      obtain ⟨d1, hd1⟩ : ∃ d : UInt8, ({ data := #[48, 49, 50, 51, 52, 53, 54, 55, 56, 57, 97, 98, 99, 100, 101, 102] } : ByteArray)[p]'hpn = d := ⟨_, rfl⟩
      obtain ⟨d2, hd2⟩ : ∃ d : UInt8, ({ data := #[48, 49, 50, 51, 52, 53, 54, 55, 56, 57, 97, 98, 99, 100, 101, 102] } : ByteArray)[q]'hqn = d := ⟨_, rfl⟩
      have HD1 : Hid (d1 = dig (c.toNat / 16)) := by
        have e : c.toNat / 16 = p := by omega
        rw [e, ← hd1]; exact digs_at p hpn
      have HD2 : Hid (d2 = dig (c.toNat % 16)) := by
        have e : c.toNat % 16 = q := by rw [u8_and15 _ (by omega) hcl] at hq; omega
        rw [e, ← hd2]; exact digs_at q hqn
      have HS : Hid (s.data.toList.take (k + 1) = s.data.toList.take k ++ [c]) := by rw [← hcd]; exact take_snoc s k hlt
      have hown : wr.ownsRow w.heap.size 5 1 (.slice (some ⟨g, 0, none⟩) (2 * k) cap) (2 * k) ((hexL (s.data.toList.take k)).map fun c => Value.int .u8 (c.toNat : Int)) := by
        have := HO.out
        unfold Own at this
        rwa [hexL_length, List.length_take, Nat.min_eq_left (by simpa using hk)] at this
      have HW : Hid (wr.ownsRow w.heap.size 5 1 (.slice (some ⟨g, 0, none⟩) (2 * k) cap) (2 * k) ((hexL (s.data.toList.take k)).map fun c => Value.int .u8 (c.toNat : Int))) := hown
      clear hown HO
      have hwz : w.heap.size ≤ wr.heap.size := hb.size
      go_wp2
      go_region_held3 (fun _ => True) (go_keep)
        ((refine step_append_lies _ (by rfl) _ _ _ (by rfl) w.heap.size 5 i0 (.int .u8 0) 1 1 Tryd.underlying46 hi0 hz0 hz1 hz2 rfl (by omega) (.slice (some ⟨g, 0, none⟩) (2 * k) cap) (2 * k) _ (by rfl) ((HW.out.alloc _).drew) ⟨wr.heap.size, 0, none⟩ 2 2 [.int .u8 (d1.toNat : Int), .int .u8 (d2.toNat : Int)] (by rfl) (by rfl) (World.news_of_block (cs := #[.int .u8 (d1.toNat : Int), .int .u8 (d2.toNat : Int)]) (t := 5) (fr := (0, 0)) (heap_alloc_new wr _)) (by simp [Value.oneCell']) (by omega) (by unfold maxLen; omega) (by omega) (by simp; omega) (wr.heap.size + 1) (by simp) ?_; intro gg cap1 w1 hown1 hgrow hat hlt1))
      all_goals
        have HN : Hid (Own w1 w.heap.size (.slice (some ⟨gg, 0, none⟩) (2 * (k + 1)) cap1) (hexL (s.data.toList.take (k + 1)))) := by
          show w1.ownsRow _ _ _ _ _ _
          rw [HS.out, hexL_append, List.length_append, hexL_length, List.length_take, Nat.min_eq_left (by simpa using hk), List.map_append]
          have e : hexL [c] = [d1, d2] := by rw [HD1.out, HD2.out]; rfl
          rw [e]
          exact hown1
        have hb1 : Below w.heap.size w w1 := by
          refine (((hb.alloc hwz _).drew)).grown hgrow (by simp; omega) (fun x hx => ?_)
          simp only [Value.ownBlock, Option.some.injEq] at hx
          rcases HW.out.2 with h | ⟨g', _, _, h, hg, _⟩
          · cases h.1
          · injection h with h _ _; injection h with h; injection h with h; omega
        clear hown1 hgrow hat hlt1
        go_wp2
        go_roundw
        case rel => exact ⟨k + 1, gg, cap1, by omega, by go_num, rfl, HN, hb1⟩
        case measure => simp [intOf]; omega
    · have hke : k = s.size := by omega
      have hO : Own wr w.heap.size (.slice (some ⟨g, 0, none⟩) (2 * k) cap) (hexL s.data.toList) := by
        have := HO.out
        rwa [List.take_of_length_le (by simp; omega)] at this
      have hback := hO.back (by rw [hexL_length]; simp; omega)
      clear hO HO HO1 hb1 hke
      go_wp2
      go_ret
      exact ⟨rfl, hb⟩
end Go.Proofs.YtbhnaekkjpcafabDoor
