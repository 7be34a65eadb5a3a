/- Texts of one claim, joined: each begins with what it proves. -/
import Derived.Test.YtgajhmmildbkfaaGreatDoorRows
import Derived.WalkKit
import Derived.WalkSpells
import Derived.ProofKit
import Derived.Lib.SlBytesRow
import Derived.Laws.IdiomStrings
import Derived.Deep.RegionHeld3
import Derived.Deep.AppendLies
import Derived.OwnWalk
import Derived.Lib.Join
import Derived.Laws.BitsAllLaws
import Derived.Deep.QuietTactic
import Derived.BigQuiet
import Derived.WalkMore
import Derived.WalkSmall
import Derived.Deep.RegionWith
import Derived.Deep.Cut
/- What every walk needs: texts as lists of bytes. -/
namespace Go.Proofs.YtgajhmmildbkfaaGreatDoor
open Go.RowKit

def bs (l : List UInt8) : ByteArray := ⟨l.toArray⟩
theorem bs_append (a b : List UInt8) : bs (a ++ b) = bs a ++ bs b := by
  apply ByteArray.ext
  simp [bs]
theorem bs_size (l : List UInt8) : (bs l).size = l.length := by simp [bs, ByteArray.size]
theorem bs_data (l : List UInt8) : (bs l).data.toList = l := by simp [bs]
theorem bs_self (s : ByteArray) : bs s.data.toList = s := by
  apply ByteArray.ext
  simp [bs]
theorem bs_inj {a b : List UInt8} (h : bs a = bs b) : a = b := by rw [← bs_data a, ← bs_data b, h]
theorem ret_str {a b : ByteArray} (h : a = b) : Ending.returned (.string a) = .returned (.string b) := by rw [h]
theorem str_eq {a b : ByteArray} (h : b = a) : Value.string a = .string b := by rw [h]
theorem take_snoc (s : ByteArray) (k : Nat) (h : k < s.size) : s.data.toList.take (k + 1) = s.data.toList.take k ++ [s[k]] := by
  rw [List.take_succ_eq_append_getElem (by simpa using h)]; rfl
theorem ofNat_back (n : Int) (h0 : 0 ≤ n) (h1 : n < 256) : ((UInt8.ofNat n.toNat).toNat : Int) = n := by
  simp only [UInt8.toNat_ofNat']
  omega

theorem own : ownKnob Tryz.prog.godebug = none := by kernel_rfl
end Go.Proofs.YtgajhmmildbkfaaGreatDoor

/- What every walk over the coding package needs: rows of bytes that a call owns, and the two conversions between texts and rows. -/
namespace Go.Proofs.YtgajhmmildbkfaaGreatDoor
open Go.RowKit

/-- The cells of a row of bytes: what they hold, and that they may be written. -/
def Row (w : World) (B : Nat) (L : List UInt8) : Prop := ∀ j (h : j < L.length), w.cell? ⟨B, j, none⟩ = some (.int .u8 (L[j].toNat : Int)) ∧ w.frozen? ⟨B, j, none⟩ = false

theorem conv_bytes (s : ByteArray) (w : World) : ∃ (cap : Nat) (W1 : World), (convert 9 83 (.string s)).run Tryz.prog w = .ok (.slice (some ⟨w.heap.size, 0, none⟩) s.size cap) W1 ∧ Row W1 w.heap.size s.data.toList ∧ Below w.heap.size w W1 ∧ W1.heap.size = w.heap.size + 1 := by
  refine ⟨_, _, run_bytes_of_string (P := Tryz.prog) w 9 83 5 s Tryz.underlying9 Tryz.underlying83 Tryz.underlying5, ?_, ?_, ?_⟩
  · intro j hj
    have hj' : j < s.size := by simpa using hj
    refine ⟨?_, ?_⟩
    · have h1 : (w.drew.alloc (.cells (bytesRow s (grownCap w s.size 0 5)) 5 ((bytesRow s (grownCap w s.size 0 5)).size, (bytesRow s (grownCap w s.size 0 5)).size + 1))).cell? ⟨w.drew.heap.size, j, none⟩ = (bytesRow s (grownCap w s.size 0 5))[j]? := World.cell?_alloc_mark _ _ _ _ _
      rw [bytesRow_at s _ j hj'] at h1
      exact h1
    · have h2 : (w.drew.alloc (.cells (bytesRow s (grownCap w s.size 0 5)) 5 ((bytesRow s (grownCap w s.size 0 5)).size, (bytesRow s (grownCap w s.size 0 5)).size + 1))).frozen? ⟨w.drew.heap.size, j, none⟩ = _ := World.frozen?_alloc_mark _ _ _ _ _ _
      have h3 : j < (bytesRow s (grownCap w s.size 0 5)).size := by simp [bytesRow]; omega
      rw [decide_eq_false (by omega), Bool.false_and] at h2
      exact h2
  · exact ((Below.refl _ _).drew).alloc (Nat.le_refl _) _
  · simp

theorem conv_back {w : World} {B : Nat} {L : List UInt8} (h : Row w B L) (n cap : Nat) (hn : L.length = n) : (convert 83 9 (.slice (some ⟨B, 0, none⟩) n cap)).run Tryz.prog w = .ok (.string (bs L)) w := by
  subst hn
  refine run_convert_bytes_back (P := Tryz.prog) w 83 9 5 ⟨B, 0, none⟩ cap L Tryz.underlying83 Tryz.underlying5 Tryz.underlying9 (fun j hj => ?_)
  have := (h j hj).1
  rw [WideShapes.add_plain, Nat.zero_add]
  exact this

theorem Row.set {w : World} {B : Nat} {L : List UInt8} (h : Row w B L) (k : Nat) (c : UInt8) (n : Int) (hn : n = c.toNat) : Row (w.setCell ⟨B, k, none⟩ (.int .u8 n)) B (L.set k c) := by
  subst hn
  intro j hj
  have hj' : j < L.length := by simpa using hj
  refine ⟨?_, ?_⟩
  · by_cases e : j = k
    · subst e
      rw [World.cell?_setCell_same _ _ _ (h j hj').1]
      simp
    · have hne : (⟨B, k, none⟩ : Addr) ≠ ⟨B, j, none⟩ := by intro hh; injection hh with _ h2; omega
      rw [World.cell?_setCell_other _ _ _ _ hne, (h j hj').1]
      simp [Ne.symm e]
  · have := (h j hj').2
    simpa using this

/-- A value of type []byte that owns the bytes l, among the blocks from B on. -/
def Own (w : World) (B : Nat) (v : Value) (l : List UInt8) : Prop := w.ownsRow B 5 1 v l.length (l.map fun c => Value.int .u8 (c.toNat : Int))

theorem Own.back {w : World} {B g n cap : Nat} {l : List UInt8} (h : Own w B (.slice (some ⟨g, 0, none⟩) n cap) l) (hn : l.length = n) : (convert 83 9 (.slice (some ⟨g, 0, none⟩) n cap)).run Tryz.prog w = .ok (.string (bs l)) w := by
  subst hn
  refine run_convert_bytes_back (P := Tryz.prog) w 83 9 5 ⟨g, 0, none⟩ cap l Tryz.underlying83 Tryz.underlying5 Tryz.underlying9 (fun j hj => ?_)
  have := World.ownsRow.cells h (g := g) rfl j (.int .u8 (l[j].toNat : Int)) (by simp [hj])
  exact this

theorem Own.rows {w : World} {B n : Nat} {v : Value} {l : List UInt8} (h : Own w B v l) (hn : l.length = n) : w.ownsRow B 5 1 v n (l.map fun c => Value.int .u8 (c.toNat : Int)) := by
  subst hn
  exact h
theorem Own.more {w : World} {B n m : Nat} {v : Value} {l ds : List UInt8} (h : w.ownsRow B 5 1 v (n + m) ((l.map fun c => Value.int .u8 (c.toNat : Int)) ++ (ds.map fun c => Value.int .u8 (c.toNat : Int)))) (hn : l.length = n) (hm : ds.length = m) : Own w B v (l ++ ds) := by
  subst hn hm
  unfold Own
  rw [List.length_append, List.map_append]
  exact h
theorem Own.ge {w : World} {B g n cap : Nat} {l : List UInt8} (h : Own w B (.slice (some ⟨g, 0, none⟩) n cap) l) : B ≤ g := by
  rcases h.2 with h | ⟨g', _, _, h, hg, _⟩
  · cases h.1
  · injection h with h _ _; injection h with h; injection h with h; omega
theorem Own.below {w wr w1 : World} {B g n cap : Nat} {l : List UInt8} {o : Obj} (h : Own wr B (.slice (some ⟨g, 0, none⟩) n cap) l) (hb : Below B w wr) (hB : B ≤ wr.heap.size)
    (hg : (wr.alloc o).grownBy w1 (Value.slice (some ⟨g, 0, none⟩) n cap).ownBlock) : Below B w w1 := by
  refine (hb.alloc hB _).grown hg (by simp; omega) (fun x hx => ?_)
  simp only [Value.ownBlock, Option.some.injEq] at hx
  have := h.ge
  omega

theorem info5 : (Tryz.prog.info? 5).map (fun i => (i.zero, i.size, i.bytes)) = some (some (.int .u8 0), 1, 1) := by kernel_rfl
end Go.Proofs.YtgajhmmildbkfaaGreatDoor

/- The digits of a text by the program, and the text of digits by the program, told as lists of bytes. -/
namespace Go.Proofs.YtgajhmmildbkfaaGreatDoor
open Go.RowKit

def digs : List UInt8 := [48, 49, 50, 51, 52, 53, 54, 55, 56, 57, 97, 98, 99, 100, 101, 102]
def dig (n : Nat) : UInt8 := digs.getD n 0
def hexL : List UInt8 → List UInt8
  | [] => []
  | c :: r => dig (c.toNat / 16) :: dig (c.toNat % 16) :: hexL r

theorem hexL_append (a b : List UInt8) : hexL (a ++ b) = hexL a ++ hexL b := by
  induction a with
  | nil => rfl
  | cons c r ih => simp only [List.cons_append, hexL, ih]
theorem hexL_length (l : List UInt8) : (hexL l).length = 2 * l.length := by
  induction l with
  | nil => rfl
  | cons c r ih => simp only [hexL, List.length_cons, ih]; omega
theorem digs_at (p : Nat) (h : p < 16) : ({ data := #[48, 49, 50, 51, 52, 53, 54, 55, 56, 57, 97, 98, 99, 100, 101, 102] } : ByteArray)[p]'h = dig p := by
  have : ∀ p : Fin 16, ({ data := #[48, 49, 50, 51, 52, 53, 54, 55, 56, 57, 97, 98, 99, 100, 101, 102] } : ByteArray)[p.val]'p.isLt = dig p := by decide
  exact this ⟨p, h⟩

set_option maxRecDepth 100000 in
set_option maxHeartbeats 1600000 in
theorem hex_any (s : ByteArray) (w : World) (hs : s.size ≤ 1000) :
    Calls Tryz.prog 112 #[.string s] w fun e w' => e = .returned (.string (bs (hexL s.data.toList))) ∧ Below w.heap.size w w' := by
  obtain ⟨i0, hi0, hz0, hz1, hz2⟩ := info_parts info5
  go_enter Tryz.func112, Tryz.ntmps112
  go_wp2_with (at_make; refine wpList_make_own _ rfl _ _ 83 rfl w.heap.size 5 i0 (.int .u8 0) 1 Tryz.underlying83 hi0 hz0 hz1 .i64 .i64 _ (2 * s.size) rfl rfl (by omega) (by rw [hz2]; omega) (by unfold maxLen; omega) (Nat.le_refl _) ?_; intro w1 hown1 hgrow1)
  have hb1 : Below w.heap.size w w1 := (Below.refl _ _).grown hgrow1 (Nat.le_refl _) (by simp)
  have HO1 : Hid (Own w1 w.heap.size (.slice (some ⟨w.heap.size, 0, none⟩) 0 (2 * s.size)) []) := hown1
  clear hown1 hgrow1
  go_loopw [3, 11] (fun v i wr => ∃ (k g cap : Nat), k ≤ s.size ∧ i = .int .i64 k ∧ v = .slice (some ⟨g, 0, none⟩) (2 * k) cap ∧ Hid (Own wr w.heap.size v (hexL (s.data.toList.take k))) ∧ Below w.heap.size w wr) (fun _ i _ => s.size - (intOf i).toNat)
  case atStart => exact ⟨0, _, _, Nat.zero_le _, rfl, rfl, HO1, hb1⟩
  case round =>
    obtain ⟨k, g, cap, hk, rfl, rfl, HO, hb⟩ := hrel
    by_cases hlt : k < s.size
    · obtain ⟨c, hcd⟩ : ∃ c : UInt8, s[k] = c := ⟨_, rfl⟩
      have hcl : (c.toNat : Int) < 256 := by have := c.toNat_lt; omega
      have h0 : (0 : Int) ≤ (k : Int) := Int.natCast_nonneg _
      have hlt' : (k : Int) < (s.size : Int) := by omega
      obtain ⟨p, hp⟩ : ∃ p : Nat, (c.toNat : Int) / 16 = p := ⟨c.toNat / 16, by omega⟩
      obtain ⟨q, hq⟩ : ∃ q : Nat, bits .and .u8 (c.toNat : Int) 15 = q := ⟨c.toNat % 16, by rw [u8_and15 _ (by omega) hcl]; omega⟩
      have hp' : (p : Int) < 16 := by omega
      have hq' : (q : Int) < 16 := by rw [← hq, u8_and15 _ (by omega) hcl]; omega
      have hpn : p < 16 := by omega
      have hqn : q < 16 := by omega
      obtain ⟨d1, hd1⟩ : ∃ d : UInt8, ({ data := #[48, 49, 50, 51, 52, 53, 54, 55, 56, 57, 97, 98, 99, 100, 101, 102] } : ByteArray)[p]'hpn = d := ⟨_, rfl⟩
      obtain ⟨d2, hd2⟩ : ∃ d : UInt8, ({ data := #[48, 49, 50, 51, 52, 53, 54, 55, 56, 57, 97, 98, 99, 100, 101, 102] } : ByteArray)[q]'hqn = d := ⟨_, rfl⟩
      have HD1 : Hid (d1 = dig (c.toNat / 16)) := by
        have e : c.toNat / 16 = p := by omega
        rw [e, ← hd1]; exact digs_at p hpn
      have HD2 : Hid (d2 = dig (c.toNat % 16)) := by
        have e : c.toNat % 16 = q := by rw [u8_and15 _ (by omega) hcl] at hq; omega
        rw [e, ← hd2]; exact digs_at q hqn
      have HS : Hid (s.data.toList.take (k + 1) = s.data.toList.take k ++ [c]) := by rw [← hcd]; exact take_snoc s k hlt
      have hown : wr.ownsRow w.heap.size 5 1 (.slice (some ⟨g, 0, none⟩) (2 * k) cap) (2 * k) ((hexL (s.data.toList.take k)).map fun c => Value.int .u8 (c.toNat : Int)) := by
        have := HO.out
        unfold Own at this
        rwa [hexL_length, List.length_take, Nat.min_eq_left (by simpa using hk)] at this
      have HW : Hid (wr.ownsRow w.heap.size 5 1 (.slice (some ⟨g, 0, none⟩) (2 * k) cap) (2 * k) ((hexL (s.data.toList.take k)).map fun c => Value.int .u8 (c.toNat : Int))) := hown
      clear hown HO
      have hwz : w.heap.size ≤ wr.heap.size := hb.size
      go_wp2
      go_region_held3 (fun _ => True) (go_keep)
        ((refine step_append_lies _ (by rfl) _ _ _ (by rfl) w.heap.size 5 i0 (.int .u8 0) 1 1 Tryz.underlying83 hi0 hz0 hz1 hz2 rfl (by omega) (.slice (some ⟨g, 0, none⟩) (2 * k) cap) (2 * k) _ (by rfl) ((HW.out.alloc _).drew) ⟨wr.heap.size, 0, none⟩ 2 2 [.int .u8 (d1.toNat : Int), .int .u8 (d2.toNat : Int)] (by rfl) (by rfl) (World.news_of_block (cs := #[.int .u8 (d1.toNat : Int), .int .u8 (d2.toNat : Int)]) (t := 5) (fr := (0, 0)) (heap_alloc_new wr _)) (by simp [Value.oneCell']) (by omega) (by unfold maxLen; omega) (by omega) (by simp; omega) (wr.heap.size + 1) (by simp) ?_; intro gg cap1 w1 hown1 hgrow hat hlt1))
      all_goals
        have HN : Hid (Own w1 w.heap.size (.slice (some ⟨gg, 0, none⟩) (2 * (k + 1)) cap1) (hexL (s.data.toList.take (k + 1)))) := by
          show w1.ownsRow _ _ _ _ _ _
          rw [HS.out, hexL_append, List.length_append, hexL_length, List.length_take, Nat.min_eq_left (by simpa using hk), List.map_append]
          have e : hexL [c] = [d1, d2] := by rw [HD1.out, HD2.out]; rfl
          rw [e]
          exact hown1
        have hb1 : Below w.heap.size w w1 := by
          refine (((hb.alloc hwz _).drew)).grown hgrow (by simp; omega) (fun x hx => ?_)
          simp only [Value.ownBlock, Option.some.injEq] at hx
          rcases HW.out.2 with h | ⟨g', _, _, h, hg, _⟩
          · cases h.1
          · injection h with h _ _; injection h with h; injection h with h; omega
        clear hown1 hgrow hat hlt1
        go_wp2
        go_roundw
        case rel => exact ⟨k + 1, gg, cap1, by omega, by go_num, rfl, HN, hb1⟩
        case measure => simp [intOf]; omega
    · have hke : k = s.size := by omega
      have hO : Own wr w.heap.size (.slice (some ⟨g, 0, none⟩) (2 * k) cap) (hexL s.data.toList) := by
        have := HO.out
        rwa [List.take_of_length_le (by simp; omega)] at this
      have hback := hO.back (by rw [hexL_length]; simp; omega)
      clear hO HO HO1 hb1 hke
      go_wp2
      go_ret
      exact ⟨rfl, hb⟩
end Go.Proofs.YtgajhmmildbkfaaGreatDoor

/- Numbers by hexadecimal digits, eight at least. -/
namespace Go.Proofs.YtgajhmmildbkfaaGreatDoor

/-- A number's digits, with room for so many. -/
def hexF : Nat → Nat → List UInt8
  | 0, _ => []
  | f + 1, n => if n < 16 then [dig n] else hexF f (n / 16) ++ [dig (n % 16)]
def hexD (n : Nat) : List UInt8 := hexF 16 n
def countL (n : Nat) : List UInt8 := List.replicate (8 - (hexD n).length) 48 ++ hexD n
theorem hexF_len : ∀ (f n : Nat), (hexF f n).length ≤ f
  | 0, n => Nat.le_refl _
  | f + 1, n => by
    unfold hexF
    split
    · simp
    · have := hexF_len f (n / 16)
      simp
      omega
theorem hexD_len (n : Nat) : (hexD n).length ≤ 16 := hexF_len 16 n
theorem hexD_pos (n : Nat) : 1 ≤ (hexD n).length := by
  unfold hexD hexF
  split <;> simp
theorem countL_len (n : Nat) : (countL n).length ≤ 16 := by
  have := hexD_len n
  unfold countL
  rw [List.length_append, List.length_replicate]
  omega
/-- The last k digits are S, what is left is u. -/
def HexAt (n k u : Nat) (S : List UInt8) : Prop := hexD n = hexF (16 - k) u ++ S ∧ S.length = k ∧ u < 16 ^ (16 - k) ∧ k ≤ 15
theorem hexAt_start (n : Nat) (h : n < 18446744073709551616) : HexAt n 0 n [] := ⟨by rw [List.append_nil]; rfl, rfl, by simpa using h, by omega⟩
theorem hexAt_step {n k u : Nat} {S : List UInt8} (h : HexAt n k u S) (hu : 16 ≤ u) : HexAt n (k + 1) (u / 16) (dig (u % 16) :: S) := by
  obtain ⟨h1, h2, h3, h4⟩ := h
  have hk : k ≤ 14 := by
    rcases Nat.lt_or_ge k 15 with h | h
    · omega
    · have : k = 15 := by omega
      subst this
      simp at h3
      omega
  obtain ⟨f, hf⟩ : ∃ f, 16 - k = f + 1 := ⟨15 - k, by omega⟩
  have hf2 : 16 - (k + 1) = f := by omega
  refine ⟨?_, by simp [h2], ?_, by omega⟩
  · rw [h1, hf, hf2, hexF, if_neg (by omega), List.append_assoc]
    rfl
  · rw [hf2]
    rw [hf, Nat.pow_succ] at h3
    exact (Nat.div_lt_iff_lt_mul (by omega)).2 h3
theorem hexAt_end {n k u : Nat} {S : List UInt8} (h : HexAt n k u S) (hu : u < 16) : hexD n = dig u :: S := by
  obtain ⟨h1, h2, h3, h4⟩ := h
  obtain ⟨f, hf⟩ : ∃ f, 16 - k = f + 1 := ⟨15 - k, by omega⟩
  rw [h1, hf, hexF, if_pos hu]
  rfl
/-- Just k digits. -/
def fixN : Nat → Nat → List UInt8
  | 0, _ => []
  | k + 1, n => fixN k (n / 16) ++ [dig (n % 16)]
theorem fixN_len : ∀ (k n : Nat), (fixN k n).length = k
  | 0, n => rfl
  | k + 1, n => by rw [fixN, List.length_append, fixN_len k]; rfl
theorem fixN_zero : ∀ k : Nat, fixN k 0 = List.replicate k 48
  | 0 => rfl
  | k + 1 => by rw [fixN, Nat.zero_div, fixN_zero k, List.replicate_succ']; rfl
theorem fixN_hexF : ∀ (k f n : Nat), 1 ≤ k → k ≤ f → n < 16 ^ k → List.replicate (k - (hexF f n).length) 48 ++ hexF f n = fixN k n
  | 0, f, n, h, _, _ => by omega
  | k + 1, 0, n, _, h, _ => by omega
  | k + 1, f + 1, n, _, h, hn => by
    rw [hexF, fixN]
    by_cases h16 : n < 16
    · rw [if_pos h16, Nat.div_eq_of_lt h16, fixN_zero, Nat.mod_eq_of_lt h16]
      rfl
    · rw [if_neg h16]
      have hk : 1 ≤ k := by
        rcases Nat.eq_zero_or_pos k with h0 | h0
        · subst h0; simp at hn; omega
        · exact h0
      have hd : n / 16 < 16 ^ k := by
        rw [Nat.pow_succ] at hn
        exact (Nat.div_lt_iff_lt_mul (by omega)).2 hn
      have ih := fixN_hexF k f (n / 16) hk (by omega) hd
      rw [← ih, List.length_append, List.length_singleton, Nat.add_sub_add_right, List.append_assoc]
theorem countL_fix (n : Nat) (h : n < 4294967296) : countL n = fixN 8 n := fixN_hexF 8 16 n (by omega) (by omega) (by simpa using h)
theorem countL_eight (n : Nat) (h : n < 4294967296) : (countL n).length = 8 := by rw [countL_fix n h, fixN_len]
theorem less_snoc : ∀ (x y : List UInt8) (c d : UInt8), x.length = y.length → Op.bytesLess (x ++ [c]) (y ++ [d]) = (Op.bytesLess x y || (x == y && decide (c < d)))
  | [], [], c, d, _ => by simp [Op.bytesLess]
  | [], b :: y, c, d, h => by simp at h
  | a :: x, [], c, d, h => by simp at h
  | a :: x, b :: y, c, d, h => by
    have ih := less_snoc x y c d (by simpa using h)
    simp only [List.cons_append, Op.bytesLess, ih]
    by_cases hab : a < b
    · simp [hab]
    · by_cases he : a = b
      · subst he; simp
      · have e : (a == b) = false := beq_false_of_ne he
        simp [hab, e]
theorem dig_lt (a b : Nat) (ha : a < 16) (hb : b < 16) : decide (dig a < dig b) = decide (a < b) := by
  have : ∀ a b : Fin 16, decide (dig a.val < dig b.val) = decide (a.val < b.val) := by decide
  exact this ⟨a, ha⟩ ⟨b, hb⟩
theorem dig_eq (a b : Nat) (ha : a < 16) (hb : b < 16) : (dig a == dig b) = decide (a = b) := by
  have : ∀ a b : Fin 16, (dig a.val == dig b.val) = decide (a.val = b.val) := by decide
  exact this ⟨a, ha⟩ ⟨b, hb⟩
theorem snoc_eq (x y : List UInt8) (c d : UInt8) (h : x.length = y.length) : ((x ++ [c]) == (y ++ [d])) = ((x == y) && (c == d)) := by
  rw [Bool.eq_iff_iff]
  simp only [beq_iff_eq, Bool.and_eq_true]
  constructor
  · intro e
    have := List.append_inj e h
    exact ⟨this.1, by simpa using this.2⟩
  · rintro ⟨rfl, rfl⟩; rfl
theorem fixN_ord : ∀ (k a b : Nat), a < 16 ^ k → b < 16 ^ k → (fixN k a == fixN k b) = decide (a = b) ∧ Op.bytesLess (fixN k a) (fixN k b) = decide (a < b)
  | 0, a, b, ha, hb => by
    have h1 : a = 0 := by simpa using ha
    have h2 : b = 0 := by simpa using hb
    subst h1 h2
    exact ⟨rfl, rfl⟩
  | k + 1, a, b, ha, hb => by
    rw [Nat.pow_succ] at ha hb
    have ha' : a / 16 < 16 ^ k := (Nat.div_lt_iff_lt_mul (by omega)).2 ha
    have hb' : b / 16 < 16 ^ k := (Nat.div_lt_iff_lt_mul (by omega)).2 hb
    obtain ⟨h1, h2⟩ := fixN_ord k (a / 16) (b / 16) ha' hb'
    have hl : (fixN k (a / 16)).length = (fixN k (b / 16)).length := by rw [fixN_len, fixN_len]
    rw [fixN, fixN, snoc_eq _ _ _ _ hl, less_snoc _ _ _ _ hl, h1, h2, dig_eq _ _ (by omega) (by omega), dig_lt _ _ (by omega) (by omega)]
    constructor
    · rw [← Bool.decide_and]; congr 1; apply propext; omega
    · rw [← Bool.decide_and, ← Bool.decide_or]; congr 1; apply propext; omega
theorem countL_ord (a b : Nat) (ha : a < 4294967296) (hb : b < 4294967296) : (countL a == countL b) = decide (a = b) ∧ Op.bytesLess (countL a) (countL b) = decide (a < b) := by
  rw [countL_fix a ha, countL_fix b hb]
  exact fixN_ord 8 a b (by simpa using ha) (by simpa using hb)
end Go.Proofs.YtgajhmmildbkfaaGreatDoor

/- MD5 and SHA-256 as the document says them, over lists of bytes and numbers below 2^32. -/
namespace Go.Proofs.YtgajhmmildbkfaaGreatDoor

def m32 : Nat := 4294967296
def rolN (n k : Nat) : Nat := n * 2 ^ k % 4294967296 + n * 2 ^ k / 4294967296
def notN (n : Nat) : Nat := 4294967295 - n
/-- Eight bytes of a number, the least ones first. -/
def le8 (n : Nat) : List UInt8 := (List.range 8).map fun i => UInt8.ofNat (n / 256 ^ i)
def zerosN (n : Nat) : Nat := (119 - n % 64) % 64
def padL (little : Bool) (s : List UInt8) : List UInt8 :=
  s ++ [128] ++ List.replicate (zerosN s.length) 0 ++ (if little then le8 (8 * s.length) else (le8 (8 * s.length)).reverse)
theorem le8_length (n : Nat) : (le8 n).length = 8 := by simp [le8]
theorem padL_length (little : Bool) (s : List UInt8) : (padL little s).length = (s.length + 72) / 64 * 64 := by
  unfold padL zerosN
  split <;> simp [le8_length] <;> omega
/-- Four bytes at a place, the least or the greatest first. -/
def wordAt (little : Bool) (l : List UInt8) (p : Nat) : Nat :=
  if little then (l.getD p 0).toNat + 256 * (l.getD (p + 1) 0).toNat + 65536 * (l.getD (p + 2) 0).toNat + 16777216 * (l.getD (p + 3) 0).toNat
  else (l.getD (p + 3) 0).toNat + 256 * (l.getD (p + 2) 0).toNat + 65536 * (l.getD (p + 1) 0).toNat + 16777216 * (l.getD p 0).toNat
theorem wordAt_lt (little : Bool) (l : List UInt8) (p : Nat) : wordAt little l p < 4294967296 := by
  have h0 := (l.getD p 0).toNat_lt
  have h1 := (l.getD (p + 1) 0).toNat_lt
  have h2 := (l.getD (p + 2) 0).toNat_lt
  have h3 := (l.getD (p + 3) 0).toNat_lt
  unfold wordAt
  split <;> omega
def le4 (n : Nat) : List UInt8 := [UInt8.ofNat n, UInt8.ofNat (n / 256), UInt8.ofNat (n / 65536), UInt8.ofNat (n / 16777216)]
def be4 (n : Nat) : List UInt8 := [UInt8.ofNat (n / 16777216), UInt8.ofNat (n / 65536), UInt8.ofNat (n / 256), UInt8.ofNat n]

/- MD5 -/
structure Four where
  a : Nat
  b : Nat
  c : Nat
  d : Nat
def Four.ok (v : Four) : Prop := v.a < 4294967296 ∧ v.b < 4294967296 ∧ v.c < 4294967296 ∧ v.d < 4294967296
def sinesL : List Nat := [3614090360, 3905402710, 606105819, 3250441966, 4118548399, 1200080426, 2821735955, 4249261313, 1770035416, 2336552879, 4294925233, 2304563134, 1804603682, 4254626195, 2792965006, 1236535329, 4129170786, 3225465664, 643717713, 3921069994, 3593408605, 38016083, 3634488961, 3889429448, 568446438, 3275163606, 4107603335, 1163531501, 2850285829, 4243563512, 1735328473, 2368359562, 4294588738, 2272392833, 1839030562, 4259657740, 2763975236, 1272893353, 4139469664, 3200236656, 681279174, 3936430074, 3572445317, 76029189, 3654602809, 3873151461, 530742520, 3299628645, 4096336452, 1126891415, 2878612391, 4237533241, 1700485571, 2399980690, 4293915773, 2240044497, 1873313359, 4264355552, 2734768916, 1309151649, 4149444226, 3174756917, 718787259, 3951481745]
def rootsL : List Nat := [1116352408, 1899447441, 3049323471, 3921009573, 961987163, 1508970993, 2453635748, 2870763221, 3624381080, 310598401, 607225278, 1426881987, 1925078388, 2162078206, 2614888103, 3248222580, 3835390401, 4022224774, 264347078, 604807628, 770255983, 1249150122, 1555081692, 1996064986, 2554220882, 2821834349, 2952996808, 3210313671, 3336571891, 3584528711, 113926993, 338241895, 666307205, 773529912, 1294757372, 1396182291, 1695183700, 1986661051, 2177026350, 2456956037, 2730485921, 2820302411, 3259730800, 3345764771, 3516065817, 3600352804, 4094571909, 275423344, 430227734, 506948616, 659060556, 883997877, 958139571, 1322822218, 1537002063, 1747873779, 1955562222, 2024104815, 2227730452, 2361852424, 2428436474, 2756734187, 3204031479, 3329325298]
def beginL : List Nat := [1779033703, 3144134277, 1013904242, 2773480762, 1359893119, 2600822924, 528734635, 1541459225]
def turnsL : List Nat := [7, 12, 17, 22, 5, 9, 14, 20, 4, 11, 16, 23, 6, 10, 15, 21]
def turnAt (i : Nat) : Nat := turnsL.getD (i / 16 * 4 + i % 4) 0
def md5F (i : Nat) (v : Four) : Nat :=
  if i < 16 then (v.b &&& v.c) ||| (notN v.b &&& v.d)
  else if i < 32 then (v.d &&& v.b) ||| (notN v.d &&& v.c)
  else if i < 48 then v.b ^^^ v.c ^^^ v.d
  else v.c ^^^ (v.b ||| notN v.d)
def md5G (i : Nat) : Nat := (if i < 16 then i else if i < 32 then 5 * i + 1 else if i < 48 then 3 * i + 5 else 7 * i) % 16
def md5T (l : List UInt8) (p i : Nat) (v : Four) : Nat := (md5F i v + v.a + sinesL.getD i 0 + wordAt true l (p + 4 * md5G i)) % 4294967296
def md5Step (l : List UInt8) (p i : Nat) (v : Four) : Four := ⟨v.d, (v.b + rolN (md5T l p i v) (turnAt i)) % 4294967296, v.b, v.c⟩
def md5Rounds (l : List UInt8) (p : Nat) (v : Four) : Nat → Four
  | 0 => v
  | i + 1 => md5Step l p i (md5Rounds l p v i)
def md5Add (u v : Four) : Four := ⟨(u.a + v.a) % 4294967296, (u.b + v.b) % 4294967296, (u.c + v.c) % 4294967296, (u.d + v.d) % 4294967296⟩
def md5Begin : Four := ⟨1732584193, 4023233417, 2562383102, 271733878⟩
def md5Blocks (l : List UInt8) : Nat → Four
  | 0 => md5Begin
  | k + 1 => md5Add (md5Blocks l k) (md5Rounds l (64 * k) (md5Blocks l k) 64)
def Four.bytes (v : Four) : List UInt8 := le4 v.a ++ le4 v.b ++ le4 v.c ++ le4 v.d
def md5L (s : List UInt8) : List UInt8 := (md5Blocks (padL true s) ((s.length + 72) / 64)).bytes
theorem md5_abc : md5L [97, 98, 99] = [0x90, 0x01, 0x50, 0x98, 0x3c, 0xd2, 0x4f, 0xb0, 0xd6, 0x96, 0x3f, 0x7d, 0x28, 0xe1, 0x7f, 0x72] := by decide +kernel
theorem notN_lt (n : Nat) : notN n < 4294967296 := by unfold notN; omega
theorem rolN_eq (n k : Nat) (hn : n < 4294967296) (hk : k ≤ 32) : rolN n k = (n * 2 ^ k % 4294967296) ||| (n / 2 ^ (32 - k)) := by
  have hp : (4294967296 : Nat) = 2 ^ k * 2 ^ (32 - k) := by
    rw [← Nat.pow_add]
    have : k + (32 - k) = 32 := by omega
    rw [this]
  have h1 : n * 2 ^ k / 4294967296 = n / 2 ^ (32 - k) := by
    rw [hp, Nat.mul_comm n, Nat.mul_div_mul_left _ _ (Nat.two_pow_pos k)]
  have h2 : n * 2 ^ k % 4294967296 = 2 ^ k * (n % 2 ^ (32 - k)) := by
    rw [hp, Nat.mul_comm n, Nat.mul_mod_mul_left]
  have h3 : n / 2 ^ (32 - k) < 2 ^ k := by
    apply Nat.div_lt_of_lt_mul
    rw [Nat.mul_comm, ← hp]
    exact hn
  unfold rolN
  rw [h1, h2, Nat.two_pow_add_eq_or_of_lt h3]
theorem rolN_lt (n k : Nat) (hn : n < 4294967296) (hk : k ≤ 32) : rolN n k < 4294967296 := by
  rw [rolN_eq n k hn hk]
  refine Nat.or_lt_two_pow (n := 32) (Nat.mod_lt _ (by decide)) (Nat.lt_of_le_of_lt (Nat.div_le_self _ _) hn)
theorem md5F_lt (i : Nat) (v : Four) (h : v.ok) : md5F i v < 4294967296 := by
  obtain ⟨ha, hb, hc, hd⟩ := h
  have e : (4294967296 : Nat) = 2 ^ 32 := by decide
  have n1 := notN_lt v.b
  have n2 := notN_lt v.d
  rw [e] at *
  unfold md5F
  split
  · exact Nat.or_lt_two_pow (Nat.and_lt_two_pow _ hc) (Nat.and_lt_two_pow _ hd)
  split
  · exact Nat.or_lt_two_pow (Nat.and_lt_two_pow _ hb) (Nat.and_lt_two_pow _ hc)
  split
  · exact Nat.xor_lt_two_pow (Nat.xor_lt_two_pow hb hc) hd
  · exact Nat.xor_lt_two_pow hc (Nat.or_lt_two_pow hb n2)
theorem md5Step_ok (l : List UInt8) (p i : Nat) (v : Four) (h : v.ok) : (md5Step l p i v).ok :=
  ⟨h.2.2.2, Nat.mod_lt _ (by decide), h.2.1, h.2.2.1⟩
theorem md5Rounds_ok (l : List UInt8) (p : Nat) (v : Four) (h : v.ok) : ∀ i, (md5Rounds l p v i).ok
  | 0 => h
  | i + 1 => md5Step_ok l p i _ (md5Rounds_ok l p v h i)
theorem md5Add_ok (u v : Four) : (md5Add u v).ok := ⟨Nat.mod_lt _ (by decide), Nat.mod_lt _ (by decide), Nat.mod_lt _ (by decide), Nat.mod_lt _ (by decide)⟩
theorem md5Blocks_ok (l : List UInt8) : ∀ k, (md5Blocks l k).ok
  | 0 => by simp [md5Blocks, md5Begin, Four.ok]
  | _ + 1 => md5Add_ok _ _

/- SHA-256 -/
def rorN (n k : Nat) : Nat := rolN n (32 - k)
def shaW (l : List UInt8) (p : Nat) : Nat → List Nat
  | 0 => []
  | i + 1 =>
    let w := shaW l p i
    w ++ [if i < 16 then wordAt false l (p + 4 * i) else
      let x := w.getD (i - 15) 0
      let y := w.getD (i - 2) 0
      (w.getD (i - 16) 0 + w.getD (i - 7) 0 + (rorN x 7 ^^^ rorN x 18 ^^^ x / 8) + (rorN y 17 ^^^ rorN y 19 ^^^ y / 1024)) % 4294967296]
def shaT (w : List Nat) (i : Nat) (v : List Nat) : Nat :=
  v.getD 7 0 + (rorN (v.getD 4 0) 6 ^^^ rorN (v.getD 4 0) 11 ^^^ rorN (v.getD 4 0) 25) + ((v.getD 4 0 &&& v.getD 5 0) ^^^ (notN (v.getD 4 0) &&& v.getD 6 0)) + rootsL.getD i 0 + w.getD i 0
def shaU (v : List Nat) : Nat :=
  (rorN (v.getD 0 0) 2 ^^^ rorN (v.getD 0 0) 13 ^^^ rorN (v.getD 0 0) 22) + ((v.getD 0 0 &&& v.getD 1 0) ^^^ (v.getD 0 0 &&& v.getD 2 0) ^^^ (v.getD 1 0 &&& v.getD 2 0))
def shaStep (w : List Nat) (i : Nat) (v : List Nat) : List Nat :=
  [(shaT w i v + shaU v) % 4294967296, v.getD 0 0, v.getD 1 0, v.getD 2 0, (v.getD 3 0 + shaT w i v) % 4294967296, v.getD 4 0, v.getD 5 0, v.getD 6 0]
def shaRounds (w : List Nat) (v : List Nat) : Nat → List Nat
  | 0 => v
  | i + 1 => shaStep w i (shaRounds w v i)
def shaAdd (u v : List Nat) : List Nat := (List.range 8).map fun i => (u.getD i 0 + v.getD i 0) % 4294967296
def shaBlocks (l : List UInt8) : Nat → List Nat
  | 0 => beginL
  | k + 1 => shaAdd (shaBlocks l k) (shaRounds (shaW l (64 * k) 64) (shaBlocks l k) 64)
def shaL (s : List UInt8) : List UInt8 := (shaBlocks (padL false s) ((s.length + 72) / 64)).flatMap be4
set_option maxRecDepth 100000 in
theorem sha_abc : shaL [97, 98, 99] = [0xba, 0x78, 0x16, 0xbf, 0x8f, 0x01, 0xcf, 0xea, 0x41, 0x41, 0x40, 0xde, 0x5d, 0xae, 0x22, 0x23, 0xb0, 0x03, 0x61, 0xa3, 0x96, 0x17, 0x7a, 0x9c, 0xb4, 0x10, 0xff, 0x61, 0xf2, 0x00, 0x15, 0xad] := by decide +kernel
end Go.Proofs.YtgajhmmildbkfaaGreatDoor

/- What proves a request, as the document says, over lists of bytes. -/
namespace Go.Proofs.YtgajhmmildbkfaaGreatDoor

/-- What is asked for, as far as a proof goes. -/
structure PfA where
  scheme : Int
  realm : ByteArray
  nonce : ByteArray
  opq : ByteArray
  sess : Bool
  qop : ByteArray
/-- Who asks, and for what. -/
structure PfR where
  user : ByteArray
  pass : ByteArray
  method : ByteArray
  target : ByteArray
  body : ByteArray
  cnonce : ByteArray
def sumL (sch : Int) (l : List UInt8) : List UInt8 := hexL (if sch = 3 then shaL l else md5L l)
/-- The sum of texts with colons between. -/
def sumT (sch : Int) (l : List (List UInt8)) : List UInt8 := sumL sch (Lib.join l [58])
def qInt : List UInt8 := [97, 117, 116, 104, 45, 105, 110, 116]
def qAuth : List UInt8 := [97, 117, 116, 104]
def whoL (a : PfA) (r : PfR) : List UInt8 := sumT a.scheme [r.user.data.toList, a.realm.data.toList, r.pass.data.toList]
def oneL (a : PfA) (r : PfR) : List UInt8 := if a.sess then sumT a.scheme [whoL a r, a.nonce.data.toList, r.cnonce.data.toList] else whoL a r
def twoL (a : PfA) (r : PfR) : List UInt8 :=
  if a.qop.data.toList = qInt then sumT a.scheme [r.method.data.toList, r.target.data.toList, sumT a.scheme [r.body.data.toList]] else sumT a.scheme [r.method.data.toList, r.target.data.toList]
def respL (a : PfA) (r : PfR) (n : Nat) : List UInt8 :=
  if a.qop.data.toList = [] then sumT a.scheme [oneL a r, a.nonce.data.toList, twoL a r]
  else sumT a.scheme [oneL a r, a.nonce.data.toList, countL n, r.cnonce.data.toList, a.qop.data.toList, twoL a r]
theorem join_one (a s : List UInt8) : Lib.join [a] s = a := by simp [Lib.join]
theorem join_cons (a b : List UInt8) (r : List (List UInt8)) (s : List UInt8) : Lib.join (a :: b :: r) s = a ++ (s ++ Lib.join (b :: r) s) := by simp [Lib.join, List.intercalate]
theorem join_len (m : Nat) : ∀ (l : List (List UInt8)), (∀ x ∈ l, x.length ≤ m) → (Lib.join l [58]).length ≤ l.length * (m + 1)
  | [], _ => by simp [Lib.join]
  | [a], h => by have := h a (by simp); rw [join_one]; simp; omega
  | a :: b :: r, h => by
    have h1 := h a (by simp)
    have h2 := join_len m (b :: r) (fun x hx => h x (by simp at hx ⊢; exact .inr hx))
    have e : (a :: b :: r).length * (m + 1) = (b :: r).length * (m + 1) + (m + 1) := by rw [List.length_cons, Nat.succ_mul]
    rw [join_cons, List.length_append, List.length_append, e]
    show a.length + (1 + _) ≤ _
    omega
end Go.Proofs.YtgajhmmildbkfaaGreatDoor

/- Words, texts between marks, lists and seconds as the document says them, over lists of bytes. -/
namespace Go.Proofs.YtgajhmmildbkfaaGreatDoor

def tsigns : List UInt8 := [33, 35, 36, 37, 38, 39, 42, 43, 45, 46, 94, 95, 124, 126, 96]
/-- A byte of a word. -/
def tokB (c : UInt8) : Bool := decide (97 ≤ c.toNat ∧ c.toNat ≤ 122) || decide (65 ≤ c.toNat ∧ c.toNat ≤ 90) || decide (48 ≤ c.toNat ∧ c.toNat ≤ 57) || tsigns.contains c
def blankB (c : UInt8) : Bool := c == 32 || c == 9
/-- A byte that may stand between marks. -/
def textB (c : UInt8) : Bool := c == 9 || (decide (32 ≤ c.toNat) && c != 127)
def digB (c : UInt8) : Bool := decide (48 ≤ c.toNat ∧ c.toNat ≤ 57)
/-- How many bytes of a kind stand at the beginning. -/
def runL (f : UInt8 → Bool) (l : List UInt8) : Nat := (l.takeWhile f).length
theorem runL_le (f : UInt8 → Bool) (l : List UInt8) : runL f l ≤ l.length := (List.takeWhile_sublist f).length_le
theorem runL_all (f : UInt8 → Bool) (l : List UInt8) : runL f l = l.length ↔ l.all f = true := by
  unfold runL
  induction l with
  | nil => simp
  | cons c t ih =>
    by_cases h : f c = true
    · simp only [List.takeWhile_cons, h, if_true, List.length_cons, Nat.add_right_cancel_iff, ih, List.all_cons, Bool.true_and]
    · simp [h]
theorem runL_stop (f : UInt8 → Bool) (l : List UInt8) (k : Nat) (hk : k < l.length) (h1 : (l.take k).all f = true) (h2 : f l[k] = false) : runL f l = k := by
  unfold runL
  have e : l = l.take k ++ l[k] :: l.drop (k + 1) := by
    rw [← List.drop_eq_getElem_cons hk, List.take_append_drop]
  conv => lhs; rw [e]
  rw [List.takeWhile_append_of_pos (by simpa [List.all_eq_true] using h1), List.takeWhile_cons, h2]
  simp
  omega
theorem take_runL (f : UInt8 → Bool) (l : List UInt8) : l.take (runL f l) = l.takeWhile f := by
  unfold runL
  induction l with
  | nil => rfl
  | cons c t ih =>
    by_cases h : f c = true
    · simp [h, ih]
    · simp [h]
theorem drop_runL (f : UInt8 → Bool) (l : List UInt8) : l.drop (runL f l) = l.dropWhile f := by
  unfold runL
  induction l with
  | nil => rfl
  | cons c t ih =>
    by_cases h : f c = true
    · simp [h, ih]
    · simp [h]
/-- A word: one byte at least. -/
def isL (l : List UInt8) : Bool := !l.isEmpty && l.all tokB
/-- Each mark, and each stroke, with a stroke ahead. -/
def escL : List UInt8 → List UInt8
  | [] => []
  | c :: t => if c = 34 ∨ c = 92 then 92 :: c :: escL t else c :: escL t
theorem escL_append (a b : List UInt8) : escL (a ++ b) = escL a ++ escL b := by
  induction a with
  | nil => rfl
  | cons c t ih =>
    rw [List.cons_append, escL, escL]
    split <;> rw [ih] <;> rfl
theorem escL_length (l : List UInt8) : (escL l).length ≤ 2 * l.length := by
  induction l with
  | nil => simp [escL]
  | cons c t ih =>
    rw [escL]
    split <;> simp <;> omega
def quoteL (l : List UInt8) : List UInt8 := 34 :: (escL l ++ [34])
def quoteO (l : List UInt8) : Option (List UInt8) := if l.all textB then some (quoteL l) else none
def valueO (l : List UInt8) : Option (List UInt8) := if isL l then some l else quoteO l
/-- What stands ahead of the closing mark, and how many bytes both take. -/
def unqL : Bool → List UInt8 → Option (List UInt8 × Nat)
  | _, [] => none
  | esc, c :: t =>
    if textB c = false then none
    else if esc then (unqL false t).map fun x => (c :: x.1, x.2 + 1)
    else if c = 34 then some ([], 1)
    else if c = 92 then (unqL true t).map fun x => (x.1, x.2 + 1)
    else (unqL false t).map fun x => (c :: x.1, x.2 + 1)
/-- The text between marks that begins a text, and how many bytes it has. -/
def quotedL : List UInt8 → Option (List UInt8 × Nat)
  | [] => none
  | c :: t => if c = 34 then (unqL false t).map fun x => (x.1, x.2 + 1) else none
/-- One part of a list: its word, and what stands behind it that should not. -/
def wordP (p : List UInt8) : List UInt8 := (p.dropWhile blankB).takeWhile tokB
def restP (p : List UInt8) : List UInt8 := ((p.dropWhile blankB).dropWhile tokB).dropWhile blankB
def consW (w : List UInt8) (l : List (List UInt8)) : List (List UInt8) := if w = [] then l else w :: l
/-- The words of a list's parts, or the place where something else stands. -/
def listP : Nat → List (List UInt8) → Except Nat (List (List UInt8))
  | _, [] => .ok []
  | k, p :: r => if restP p = [] then (listP (k + p.length + 1) r).map (consW (wordP p)) else .error (k + (p.length - (restP p).length))
def secStep (n : Nat) (c : UInt8) : Nat := min (10 * n + (c.toNat - 48)) 2147483648
def secN (n : Nat) (l : List UInt8) : Nat := l.foldl secStep n
/-- A number of seconds. -/
def secL (l : List UInt8) : Option Nat := if l = [] ∨ l.all digB = false then none else some (secN 0 l)
theorem secStep_le (n : Nat) (c : UInt8) : secStep n c ≤ 2147483648 := Nat.min_le_right _ _
theorem secN_le (n : Nat) (l : List UInt8) (h : n ≤ 2147483648) : secN n l ≤ 2147483648 := by
  unfold secN
  induction l generalizing n with
  | nil => exact h
  | cons c t ih => exact ih _ (secStep_le n c)
theorem secN_snoc (n : Nat) (l : List UInt8) (c : UInt8) : secN n (l ++ [c]) = secStep (secN n l) c := by simp [secN]
theorem tok_not_comma : tokB 44 = false := by decide
theorem blank_not_comma : blankB 44 = false := by decide
theorem tok_all : ∀ c : UInt8, tokB c = (decide (33 ≤ c.toNat ∧ c.toNat ≤ 126) && !([34, 40, 41, 44, 47, 58, 59, 60, 61, 62, 63, 64, 91, 92, 93, 123, 125] : List UInt8).contains c) := by
  intro c
  have : ∀ n : Fin 256, tokB (UInt8.ofNat n.1) = (decide (33 ≤ (UInt8.ofNat n.1).toNat ∧ (UInt8.ofNat n.1).toNat ≤ 126) && !([34, 40, 41, 44, 47, 58, 59, 60, 61, 62, 63, 64, 91, 92, 93, 123, 125] : List UInt8).contains (UInt8.ofNat n.1)) := by decide +kernel
  have h := this ⟨c.toNat, c.toNat_lt⟩
  simpa using h
end Go.Proofs.YtgajhmmildbkfaaGreatDoor

/- The header that proves a request, as the document says, over lists of bytes. -/
namespace Go.Proofs.YtgajhmmildbkfaaGreatDoor

def nUser : List UInt8 := [117, 115, 101, 114, 110, 97, 109, 101]
def nRealm : List UInt8 := [114, 101, 97, 108, 109]
def nNonce : List UInt8 := [110, 111, 110, 99, 101]
def nUri : List UInt8 := [117, 114, 105]
def nResp : List UInt8 := [114, 101, 115, 112, 111, 110, 115, 101]
def nAlgo : List UInt8 := [97, 108, 103, 111, 114, 105, 116, 104, 109]
def nQop : List UInt8 := [113, 111, 112]
def nNc : List UInt8 := [110, 99]
def nCn : List UInt8 := [99, 110, 111, 110, 99, 101]
def nOpq : List UInt8 := [111, 112, 97, 113, 117, 101]
def aMd5 : List UInt8 := [77, 68, 53]
def aSha : List UInt8 := [83, 72, 65, 45, 50, 53, 54]
def aSess : List UInt8 := [45, 115, 101, 115, 115]
/-- A name, a text, and whether it stands between marks. -/
abbrev Item := List UInt8 × List UInt8 × Bool
def itemT (x : Item) : List UInt8 := x.1 ++ 61 :: (if x.2.2 then quoteL x.2.1 else x.2.1)
def itemOk (x : Item) : Bool := !x.2.2 || x.2.1.all textB
def algT (a : PfA) : List UInt8 := (if a.scheme = 3 then aSha else aMd5) ++ if a.sess then aSess else []
def fiveI (a : PfA) (r : PfR) (n : Nat) : List Item :=
  [(nUser, r.user.data.toList, true), (nRealm, a.realm.data.toList, true), (nNonce, a.nonce.data.toList, true), (nUri, r.target.data.toList, true), (nResp, respL a r n, true)]
def qopI (a : PfA) (n : Nat) : List Item := if a.qop.data.toList = [] then [] else [(nQop, a.qop.data.toList, false), (nNc, countL n, false)]
def cnI (a : PfA) (r : PfR) : List Item := if a.qop.data.toList = [] ∧ a.sess = false then [] else [(nCn, r.cnonce.data.toList, true)]
def opqI (a : PfA) : List Item := if a.opq.data.toList = [] then [] else [(nOpq, a.opq.data.toList, true)]
def items (a : PfA) (r : PfR) (n : Nat) : List Item := fiveI a r n ++ [(nAlgo, algT a, false)] ++ qopI a n ++ cnI a r ++ opqI a
def digW : List UInt8 := [68, 105, 103, 101, 115, 116]
def digT (l : List Item) : List UInt8 := digW ++ 32 :: Lib.join (l.map itemT) [44, 32]
/-- The header, or the error's number. -/
def digO (a : PfA) (r : PfR) (n : Int) : Except Nat (List UInt8) :=
  if ¬ (a.scheme = 2 ∨ a.scheme = 3) ∨ ¬ (a.qop.data.toList = [] ∨ a.qop.data.toList = qAuth ∨ a.qop.data.toList = qInt) then .error 1
  else if n < 1 ∨ 4294967295 < n then .error 2
  else if (items a r n.toNat).all itemOk then .ok (digT (items a r n.toNat)) else .error 3
end Go.Proofs.YtgajhmmildbkfaaGreatDoor

/- Bits of numbers below 2^32 held as ints, as natural numbers. -/
namespace Go.Proofs.YtgajhmmildbkfaaGreatDoor
theorem wrap64 (n : Nat) (h : n < 4294967296) : IntKind.i64.wrap (n : Int) = n := by
  simp [IntKind.wrap, IntKind.bits, IntKind.signed]
  omega
theorem and64 (a b : Nat) (ha : a < 4294967296) (hb : b < 4294967296) : bits .and .i64 (a : Int) (b : Int) = ((a &&& b : Nat) : Int) := by
  have hx : a &&& b < 2 ^ 32 := Nat.and_lt_two_pow _ (by omega)
  show IntKind.i64.wrap ((BitVec.ofInt 64 (a : Int) &&& BitVec.ofInt 64 (b : Int)).toNat : Int) = _
  rw [BitVec.toNat_and, ofInt_u64 a (by omega), ofInt_u64 b (by omega), wrap64 _ (by omega)]
theorem or64 (a b : Nat) (ha : a < 4294967296) (hb : b < 4294967296) : bits .or .i64 (a : Int) (b : Int) = ((a ||| b : Nat) : Int) := by
  have hx : a ||| b < 2 ^ 32 := Nat.or_lt_two_pow (by omega) (by omega)
  show IntKind.i64.wrap ((BitVec.ofInt 64 (a : Int) ||| BitVec.ofInt 64 (b : Int)).toNat : Int) = _
  rw [BitVec.toNat_or, ofInt_u64 a (by omega), ofInt_u64 b (by omega), wrap64 _ (by omega)]
theorem xor64 (a b : Nat) (ha : a < 4294967296) (hb : b < 4294967296) : bits .xor .i64 (a : Int) (b : Int) = ((a ^^^ b : Nat) : Int) := by
  have hx : a ^^^ b < 2 ^ 32 := Nat.xor_lt_two_pow (by omega) (by omega)
  show IntKind.i64.wrap ((BitVec.ofInt 64 (a : Int) ^^^ BitVec.ofInt 64 (b : Int)).toNat : Int) = _
  rw [BitVec.toNat_xor, ofInt_u64 a (by omega), ofInt_u64 b (by omega), wrap64 _ (by omega)]
theorem and32_lt {a b : Nat} (hb : b < 4294967296) : a &&& b < 4294967296 := Nat.and_lt_two_pow (n := 32) _ hb
theorem or32_lt {a b : Nat} (ha : a < 4294967296) (hb : b < 4294967296) : a ||| b < 4294967296 := Nat.or_lt_two_pow (n := 32) ha hb
theorem xor32_lt {a b : Nat} (ha : a < 4294967296) (hb : b < 4294967296) : a ^^^ b < 4294967296 := Nat.xor_lt_two_pow (n := 32) ha hb
theorem notCast (n : Nat) (h : n < 4294967296) : (4294967295 : Int) - (n : Int) = ((notN n : Nat) : Int) := by
  unfold notN
  omega
end Go.Proofs.YtgajhmmildbkfaaGreatDoor

/- Words of 32 bits, as natural numbers. -/
namespace Go.Proofs.YtgajhmmildbkfaaGreatDoor
theorem wrapU32 (n : Nat) : IntKind.u32.wrap (n : Int) = ((n % 4294967296 : Nat) : Int) := by
  simp [IntKind.wrap, IntKind.bits, IntKind.signed]
theorem wrapU32_lt (n : Nat) (h : n < 4294967296) : IntKind.u32.wrap (n : Int) = (n : Int) := by
  rw [wrapU32, Nat.mod_eq_of_lt h]
theorem andU32 (a b : Nat) (ha : a < 4294967296) (hb : b < 4294967296) : bits .and .u32 (a : Int) (b : Int) = ((a &&& b : Nat) : Int) := by
  have hx : a &&& b < 2 ^ 32 := Nat.and_lt_two_pow _ (by omega)
  show IntKind.u32.wrap ((BitVec.ofInt 32 (a : Int) &&& BitVec.ofInt 32 (b : Int)).toNat : Int) = _
  rw [BitVec.toNat_and, ofInt_u32 a (by omega), ofInt_u32 b (by omega), wrapU32_lt _ (by omega)]
theorem orU32 (a b : Nat) (ha : a < 4294967296) (hb : b < 4294967296) : bits .or .u32 (a : Int) (b : Int) = ((a ||| b : Nat) : Int) := by
  have hx : a ||| b < 2 ^ 32 := Nat.or_lt_two_pow (by omega) (by omega)
  show IntKind.u32.wrap ((BitVec.ofInt 32 (a : Int) ||| BitVec.ofInt 32 (b : Int)).toNat : Int) = _
  rw [BitVec.toNat_or, ofInt_u32 a (by omega), ofInt_u32 b (by omega), wrapU32_lt _ (by omega)]
theorem xorU32 (a b : Nat) (ha : a < 4294967296) (hb : b < 4294967296) : bits .xor .u32 (a : Int) (b : Int) = ((a ^^^ b : Nat) : Int) := by
  have hx : a ^^^ b < 2 ^ 32 := Nat.xor_lt_two_pow (by omega) (by omega)
  show IntKind.u32.wrap ((BitVec.ofInt 32 (a : Int) ^^^ BitVec.ofInt 32 (b : Int)).toNat : Int) = _
  rw [BitVec.toNat_xor, ofInt_u32 a (by omega), ofInt_u32 b (by omega), wrapU32_lt _ (by omega)]
theorem xor_ones (n : Nat) (h : n < 4294967296) : 4294967295 ^^^ n = notN n := by
  have e : (4294967295 ^^^ n) = (~~~ (BitVec.ofNat 32 n)).toNat := by
    rw [← BitVec.allOnes_xor, BitVec.toNat_xor]
    simp [Nat.mod_eq_of_lt h]
  rw [e, BitVec.toNat_not]
  simp [notN, Nat.mod_eq_of_lt h]
theorem notU32 (n : Nat) (h : n < 4294967296) : bits .xor .u32 4294967295 (n : Int) = ((notN n : Nat) : Int) := by
  have := xorU32 4294967295 n (by omega) h
  rw [xor_ones n h] at this
  exact this
theorem rolU32 (n k : Nat) (hn : n < 4294967296) (hk : k ≤ 32) : bits .or .u32 (IntKind.u32.wrap ((n : Int) * 2 ^ k)) ((n : Int) / 2 ^ (32 - k)) = ((rolN n k : Nat) : Int) := by
  have e1 : (n : Int) * 2 ^ k = ((n * 2 ^ k : Nat) : Int) := by simp
  have e2 : (n : Int) / 2 ^ (32 - k) = ((n / 2 ^ (32 - k) : Nat) : Int) := by simp
  rw [e1, e2, wrapU32, orU32 _ _ (Nat.mod_lt _ (by decide)) (Nat.lt_of_le_of_lt (Nat.div_le_self _ _) hn), rolN_eq n k hn hk]
end Go.Proofs.YtgajhmmildbkfaaGreatDoor

/- The program's small steps of the two sums: where a byte stands, turned bits, what MD5 mixes in at a step. -/
namespace Go.Proofs.YtgajhmmildbkfaaGreatDoor
open Go.RowKit

def shiftN (o : Bool) (i n : Nat) : Nat := 8 * (if o then n - 1 - i else i)
theorem shift_any (o : Bool) (i n : Nat) (hi : i < n) (hn : n ≤ 8) (w : World) :
    Calls Tryz.prog 110 #[.bool o, .int .i64 i, .int .i64 n] w fun e w' => e = .returned (.int .i64 (shiftN o i n : Nat)) ∧ w' = w := by
  go_enter Tryz.func110, Tryz.ntmps110
  cases o
  · go_wp2
    go_ret
    exact ⟨by simp [shiftN], rfl⟩
  · go_wp2
    go_ret
    refine ⟨?_, rfl⟩
    simp [shiftN]
    omega

theorem and31 (x k : Nat) (h : x % 32 = k) (h2 : x < 18446744073709551616) : bits .and .u64 (x : Int) 31 = (k : Int) := by
  subst h
  have e := show bits .and .u64 (x : Int) 31 = IntKind.u64.wrap ((BitVec.ofInt 64 (x : Int) &&& BitVec.ofInt 64 ((31 : Nat) : Int)).toNat : Int) from rfl
  rw [e, BitVec.toNat_and, ofInt_u64 x h2, ofInt_u64 31 (by omega), show 31 = 2 ^ 5 - 1 from rfl, Nat.and_two_pow_sub_one_eq_mod]
  simp [IntKind.wrap, IntKind.bits, IntKind.signed]
  omega
theorem and31_turn (kk : Int) (k : Nat) (hk : k ≤ 31) (hkk : kk = k ∨ kk = (k : Int) - 32) : bits .and .u64 (IntKind.u64.wrap kk) 31 = (k : Int) := by
  rcases hkk with rfl | rfl
  · have : IntKind.u64.wrap (k : Int) = (k : Nat) := by simp [IntKind.wrap, IntKind.bits, IntKind.signed]; omega
    rw [this]
    exact and31 k k (by omega) (by omega)
  · have : IntKind.u64.wrap ((k : Int) - 32) = ((k + 18446744073709551584 : Nat) : Int) := by simp [IntKind.wrap, IntKind.bits, IntKind.signed]; omega
    rw [this]
    exact and31 _ k (by omega) (by omega)
set_option maxRecDepth 100000 in
theorem rotate_any (x k : Nat) (kk : Int) (hx : x < 4294967296) (hk : k ≤ 31) (hkk : Hid (kk = k ∨ kk = (k : Int) - 32)) (w : World) :
    Calls Tryz.prog 114 #[.int .u32 x, .int .i64 kk] w fun e w' => e = .returned (.int .u32 (rolN x k : Nat)) ∧ w' = w := by
  have hm := and31_turn kk k hk hkk.out
  go_enter Tryz.func114, Tryz.ntmps114
  go_wp2
  go_ret
  have e := rolU32 x k hx (by omega)
  have e2 : IntKind.u32.wrap ((x : Int) * 2 ^ k) = (x : Int) * 2 ^ k % 4294967296 := by simp [IntKind.wrap, IntKind.bits, IntKind.signed]
  rw [e2] at e
  rw [e]
  exact ⟨rfl, rfl⟩
theorem rol_any (x k : Int) (h0 : 0 ≤ x) (h1 : x < 4294967296) (hk0 : 0 ≤ k) (hk : k ≤ 31) (w : World) :
    Calls Tryz.prog 114 #[.int .u32 x, .int .i64 k] w fun e w' => ∃ r : Int, e = .returned (.int .u32 r) ∧ 0 ≤ r ∧ r < 4294967296 ∧ Hid (r = rolN x.toNat k.toNat) ∧ w' = w := by
  obtain ⟨n, rfl⟩ : ∃ n : Nat, x = n := ⟨x.toNat, by omega⟩
  obtain ⟨j, rfl⟩ : ∃ n : Nat, k = n := ⟨k.toNat, by omega⟩
  refine (rotate_any n j _ (by omega) (by omega) (.inl rfl) w).mono ?_
  rintro e w' ⟨rfl, rfl⟩
  have := rolN_lt n j (by omega) (by omega)
  exact ⟨_, rfl, by omega, by omega, rfl, rfl⟩
theorem right_any (x b r : Int) (h0 : 0 ≤ x) (h1 : x < 4294967296) (hb0 : 1 ≤ b) (hb : b ≤ 31) (w : World) (HR : Hid (r = rorN x.toNat b.toNat)) :
    Calls Tryz.prog 111 #[.int .u32 x, .int .i64 b] w fun e w' => e = .returned (.int .u32 r) ∧ w' = w := by
  obtain ⟨n, rfl⟩ : ∃ n : Nat, x = n := ⟨x.toNat, by omega⟩
  go_enter Tryz.func111, Tryz.ntmps111
  go_wp2_with (go_at_call 114; refine (rotate_any n (32 - b).toNat _ (by omega) (by omega) (.inr (by omega)) _).mono ?_; rintro e w' ⟨rfl, rfl⟩)
  go_ret
  refine ⟨?_, rfl⟩
  rw [HR.out, rorN]
  simp only [Int.toNat_natCast]
  have : (32 - b).toNat = 32 - b.toNat := by omega
  rw [this]
  rfl
theorem step_fin (w : World) (f g : Int) (F G : Nat) (hf : f = F) (hF : F < 4294967296) (hg : g = G) (hG : G < 16) :
    ∃ (f' : Int) (g' : Nat), Ending.returned (.tuple #[.int .u32 f, .int .i64 g]) = .returned (.tuple #[.int .u32 f', .int .i64 g']) ∧ 0 ≤ f' ∧ f' < 4294967296 ∧ g' < 16 ∧ Hid (f' = F) ∧ Hid (g' = G) ∧ w = w :=
  ⟨f, G, by rw [hg], by omega, by omega, hG, hf, rfl, rfl⟩
theorem umax : IntKind.u32.max = 4294967295 := rfl
set_option maxRecDepth 100000 in
theorem step_any (i : Nat) (hi : i < 64) (v : Four) (h : v.ok) (w : World) :
    Calls Tryz.prog 113 #[.int .i64 i, .int .u32 v.b, .int .u32 v.c, .int .u32 v.d] w fun e w' => ∃ (f : Int) (g : Nat), e = .returned (.tuple #[.int .u32 f, .int .i64 g]) ∧ 0 ≤ f ∧ f < 4294967296 ∧ g < 16 ∧ Hid (f = md5F i v) ∧ Hid (g = md5G i) ∧ w' = w := by
  have hF := md5F_lt i v h
  have hG : md5G i < 16 := Nat.mod_lt _ (by omega)
  have HF : Hid (md5F i v < 4294967296) := hF
  have HG : Hid (md5G i < 16) := hG
  clear hF hG
  obtain ⟨ha, hb, hc, hd⟩ := h
  obtain ⟨va, vb, vc, vd⟩ := v
  simp only at ha hb hc hd
  have nb := notN_lt vb
  have nd := notN_lt vd
  go_enter Tryz.func113, Tryz.ntmps113
  rcases (show i < 16 ∨ (16 ≤ i ∧ i < 32) ∨ (32 ≤ i ∧ i < 48) ∨ 48 ≤ i by omega) with hi1 | ⟨hi1, hi2⟩ | ⟨hi1, hi2⟩ | hi1
  · go_wp2
    go_ret2
    refine step_fin w _ _ _ _ ?_ HF.out ?_ HG.out
    · rw [umax, notU32 _ hb, andU32 _ _ hb hc, andU32 _ _ nb hd, orU32 _ _ (and32_lt hc) (and32_lt hd), md5F, if_pos hi1]
    · rw [md5G, if_pos hi1]; omega
  · go_wp2
    go_ret2
    refine step_fin w _ _ _ _ ?_ HF.out ?_ HG.out
    · rw [umax, notU32 _ hd, andU32 _ _ hd hb, andU32 _ _ nd hc, orU32 _ _ (and32_lt hb) (and32_lt hc), md5F, if_neg (by omega), if_pos hi2]
    · rw [md5G, if_neg (by omega), if_pos hi2]; omega
  · go_wp2
    go_ret2
    refine step_fin w _ _ _ _ ?_ HF.out ?_ HG.out
    · rw [xorU32 _ _ hb hc, xorU32 _ _ (xor32_lt hb hc) hd, md5F, if_neg (by omega), if_neg (by omega), if_pos hi2]
    · rw [md5G, if_neg (by omega), if_neg (by omega), if_pos hi2]; omega
  · go_wp2
    go_ret2
    refine step_fin w _ _ _ _ ?_ HF.out ?_ HG.out
    · rw [umax, notU32 _ hd, orU32 _ _ hb nd, xorU32 _ _ hc (or32_lt hb nd), md5F, if_neg (by omega), if_neg (by omega), if_neg (by omega)]
    · rw [md5G, if_neg (by omega), if_neg (by omega), if_neg (by omega)]; omega
end Go.Proofs.YtgajhmmildbkfaaGreatDoor

/- What both sums need: arrays of words by value, the tables, what a round of each makes of its words. -/
namespace Go.Proofs.YtgajhmmildbkfaaGreatDoor
open Go.RowKit

def encU (l : List Nat) : Array Value := (l.map fun (n : Nat) => Value.int .u32 (n : Int)).toArray
theorem encU_size (l : List Nat) : (encU l).size = l.length := by simp [encU]
def Cells (w : World) (B : Nat) (L : List UInt8) : Prop := ∀ j (h : j < L.length), w.cell? ⟨B, j, none⟩ = some (.int .u8 (L[j].toNat : Int))
def Sines (w : World) : Prop := (∀ i, i < 64 → w.cell? ⟨2, i, none⟩ = some (.int .u32 ((sinesL.getD i 0 : Nat) : Int))) ∧ 2 < w.heap.size
def Is4 (a b c d : Int) (v : Four) : Prop := a = v.a ∧ b = v.b ∧ c = v.c ∧ d = v.d
theorem Cells.below {w w' : World} {B : Nat} {L : List UInt8} (h : Cells w B L) {H : Nat} (hb : Below H w w') (hB : B < H) : Cells w' B L := by
  intro j hj
  rw [← h j hj]
  simp only [World.cell?, hb.block B hB]

theorem quietCall {P : Program} {f : FuncId} {args : Array Value} {w : World} {m n : Nat} {v : Value} (h : Calls P f args (w.drewN (m + n)) fun e w' => e = .returned v ∧ w' = w.drewN (m + n)) : Calls P f args (w.drewN (m + n)) fun e w'' => e = .returned v ∧ ∃ k, w'' = w.drewN (m + k) :=
  h.mono fun _ _ ⟨he, hm⟩ => ⟨he, n, hm⟩
theorem Cells.drewN {w : World} {B : Nat} {L : List UInt8} (h : Cells w B L) (k : Nat) : Cells (w.drewN k) B L := h.below (below_drewN (Below.refl (B + 1) w) k) (by omega)
theorem sines_lt (i : Nat) (h : i < 64) : sinesL.getD i 0 < 4294967296 := by
  have : ∀ i : Fin 64, sinesL.getD i.val 0 < 4294967296 := by decide
  exact this ⟨i, h⟩

theorem md5_next (L : List UInt8) (o i : Nat) (xa xb xc xd f z nn kk T R : Int) (p y : Nat) (v : Four) (hJ : Is4 xa xb xc xd v) (hf : f = md5F i v) (hz : z = ((sinesL.getD i 0 : Nat) : Int)) (hn : nn = ((wordAt true L (o + p) : Nat) : Int)) (hp : p = 4 * y) (hy : y = md5G i) (hk : kk = (turnAt i : Int)) (hT : (f + xa + z + nn) % 4294967296 = T) (hR : R = rolN T.toNat kk.toNat) : Is4 xd ((xb + R) % 4294967296) xb xc (md5Step L o i v) := by
  obtain ⟨rfl, rfl, rfl, rfl⟩ := hJ
  refine ⟨rfl, ?_, rfl, rfl⟩
  have e : T.toNat = md5T L o i v := by
    rw [md5T, ← hT, hf, hz, hn, hp, hy]
    omega
  rw [hR, e, hk, md5Step]
  simp
theorem rol_bounds (T kk : Int) (h0 : 0 ≤ T) (h1 : T < 4294967296) (k0 : 0 ≤ kk) (k1 : kk ≤ 31) : ∃ R : Int, 0 ≤ R ∧ R < 4294967296 ∧ Hid (R = rolN T.toNat kk.toNat) := by
  have := rolN_lt T.toNat kk.toNat (by omega) (by omega)
  exact ⟨rolN T.toNat kk.toNat, by omega, by omega, rfl⟩

def Begin (w : World) : Prop := (∀ i, i < 8 → w.cell? ⟨0, i, none⟩ = some (.int .u32 ((beginL.getD i 0 : Nat) : Int))) ∧ 0 < w.heap.size
def Roots (w : World) : Prop := (∀ i, i < 64 → w.cell? ⟨1, i, none⟩ = some (.int .u32 ((rootsL.getD i 0 : Nat) : Int))) ∧ 1 < w.heap.size
theorem begin_lt (i : Nat) (h : i < 8) : beginL.getD i 0 < 4294967296 := by
  have : ∀ i : Fin 8, beginL.getD i.val 0 < 4294967296 := by decide
  exact this ⟨i, h⟩
theorem shaAdd_length (u v : List Nat) : (shaAdd u v).length = 8 := by simp [shaAdd]
theorem shaAdd_at (u v : List Nat) (j : Nat) (h : j < 8) : (shaAdd u v).getD j 0 = (u.getD j 0 + v.getD j 0) % 4294967296 := by
  simp [shaAdd, List.getD_eq_getElem?_getD, List.getElem?_map, List.getElem?_range h]
theorem shaBlocks_length (L : List UInt8) : ∀ k, (shaBlocks L k).length = 8
  | 0 => rfl
  | _ + 1 => shaAdd_length _ _
theorem shaBlocks_lt (L : List UInt8) (k j : Nat) (h : j < 8) : (shaBlocks L k).getD j 0 < 4294967296 := by
  cases k with
  | zero => exact begin_lt j h
  | succ k =>
    rw [shaBlocks, shaAdd_at _ _ j h]
    exact Nat.mod_lt _ (by decide)
theorem Cells.block {w w' : World} {B : Nat} {L : List UInt8} (h : Cells w B L) (hb : w'.heap[B]? = w.heap[B]?) : Cells w' B L := by
  intro j hj
  rw [← h j hj]
  simp only [World.cell?, hb]

def shaNew (L : List UInt8) (p i : Nat) : Nat := if i < 16 then wordAt false L (p + 4 * i) else
  ((shaW L p i).getD (i - 16) 0 + (shaW L p i).getD (i - 7) 0 + (rorN ((shaW L p i).getD (i - 15) 0) 7 ^^^ rorN ((shaW L p i).getD (i - 15) 0) 18 ^^^ (shaW L p i).getD (i - 15) 0 / 8) + (rorN ((shaW L p i).getD (i - 2) 0) 17 ^^^ rorN ((shaW L p i).getD (i - 2) 0) 19 ^^^ (shaW L p i).getD (i - 2) 0 / 1024)) % 4294967296
theorem shaW_succ (L : List UInt8) (p i : Nat) : shaW L p (i + 1) = shaW L p i ++ [shaNew L p i] := rfl
theorem shaNew_lt (L : List UInt8) (p i : Nat) : shaNew L p i < 4294967296 := by
  unfold shaNew
  split
  · exact wordAt_lt _ _ _
  · exact Nat.mod_lt _ (by decide)
theorem shaW_length (L : List UInt8) (p : Nat) : ∀ i, (shaW L p i).length = i
  | 0 => rfl
  | i + 1 => by rw [shaW_succ, List.length_append, shaW_length L p i]; rfl
theorem shaW_lt (L : List UInt8) (p : Nat) : ∀ i j, (shaW L p i).getD j 0 < 4294967296
  | 0, j => by simp [shaW]
  | i + 1, j => by
    rw [shaW_succ, List.getD_eq_getElem?_getD]
    by_cases h : j < i
    · rw [List.getElem?_append_left (by rw [shaW_length]; exact h), ← List.getD_eq_getElem?_getD]
      exact shaW_lt L p i j
    · rw [List.getElem?_append_right (by rw [shaW_length]; omega), shaW_length]
      by_cases h2 : j = i
      · subst h2
        simpa using shaNew_lt L p j
      · rw [List.getElem?_eq_none (by simp; omega)]
        decide
theorem rorN_lt (n k : Nat) (hn : n < 4294967296) : rorN n k < 4294967296 := rolN_lt n _ hn (by omega)
theorem ror_bounds (n : Int) (k : Nat) (h0 : 0 ≤ n) (h1 : n < 4294967296) : ∃ r : Int, 0 ≤ r ∧ r < 4294967296 ∧ Hid (r = rorN n.toNat k) := by
  have := rorN_lt n.toNat k (by omega)
  exact ⟨rorN n.toNat k, by omega, by omega, rfl⟩
def Turns (w : World) : Prop := (∀ i, i < 16 → w.cell? ⟨3, i, none⟩ = some (.int .i64 ((turnsL.getD i 0 : Nat) : Int))) ∧ 3 < w.heap.size
theorem results_cell {fn : Func} {p : Tmp} {ty : TypeId} (h : fn.results = #[.cell p ty]) (tmps : Array Value) (P : Program) (w : World) :
    (results fn tmps).run P w = ((asAddr (tmps.getD p undef)).run P w).andThen fun a w₁ => (loadVar ty a).run P w₁ := by
  simp only [results, h]
  simp [Sem.run_bind, Result.andThen]
/-- An array that a function hands back by value, out of the block in which it lies. -/
theorem ret_arr {P : Program} {fn : Func} {R : Ending → World → Prop} {a : Act} {w : World} {p : Tmp} {ty t e : TypeId} {fz : Nat × Nat} {b n : Nat} {c : Array Value} (h : fn.results = #[.cell p ty]) (hp : a.tmps.getD p undef = .pointer (some ⟨b, 0, none⟩))
    (hrow : w.heap[b]? = some (.cells c t fz)) (hu : P.underlying ty = some (.array n e)) (hi : (P.info? ty).map (·.size) = some c.size) (hd : a.defers = []) (hR : R (.returned (.agg c)) w) : bodyPost P fn R .ret a w := by
  refine bodyPost_ret (v := .agg c) ?_ hd hR
  rw [results_cell h, hp]
  simp only [asAddr, Sem.run_pure, Result.andThen]
  exact run_loadVar_row w b t ty c fz _ hrow hu rfl hi
theorem load_row {P : Program} (w : World) (b : Nat) (t ty e : TypeId) (n : Nat) (c : Array Value) (fz : Nat × Nat) (hrow : w.heap[b]? = some (.cells c t fz)) (hu : P.underlying ty = some (.array n e)) (hi : (P.info? ty).map (·.size) = some c.size) :
    (Instr.loadAt ty (.pointer (some ⟨b, 0, none⟩))).run P w = .ok (.agg c) w := by
  simp only [Instr.loadAt, Instr.sureAddr, Sem.run_bind, Sem.run_pure, Result.andThen]
  exact run_loadVar_row w b t ty c fz _ hrow hu rfl hi
theorem store_row {P : Program} (w : World) (b : Nat) (t ty : TypeId) (c c' : Array Value) (hrow : w.heap[b]? = some (.cells c t (0, 0))) (hi : (P.info? ty).map (·.size) = some c'.size) (ho : c.size = c'.size) (h1 : c'.all (·.oneCell') = true) :
    (Instr.storeAt ty (.pointer (some ⟨b, 0, none⟩)) (.agg c')).run P w = .ok () (w.setRow b c') := by
  simp only [Instr.storeAt, Instr.sureAddr, Sem.run_bind, Sem.run_pure, Result.andThen]
  exact run_storeVar_row w b t ty c c' hrow hi ho h1
theorem load_cells {P : Program} (w : World) (b n : Nat) (t : TypeId) (c : Array Value) (fz : Nat × Nat) (hrow : w.heap[b]? = some (.cells c t fz)) (hn : c.size = n) :
    (loadCellsFrom ⟨b, 0, none⟩ 0 n #[]).run P w = .ok c w := by
  subst hn
  have := run_loadCells_list (P := P) w ⟨b, 0, none⟩ c.toList (fun j v hv => by
    have hadd : (⟨b, 0, none⟩ : Addr).add j = ⟨b, j, none⟩ := by unfold Addr.add; split <;> simp_all
    rw [hadd, cell_of_row _ _ j c t fz hrow]
    simpa using hv)
  simpa [loadCells] using this
theorem store_cells {P : Program} (w : World) (b : Nat) (t : TypeId) (c c' : Array Value) (hrow : w.heap[b]? = some (.cells c t (0, 0))) (ho : c.size = c'.size) (h1 : c'.all (·.oneCell') = true) :
    (storeCells ⟨b, 0, none⟩ c'.toList 0).run P w = .ok () (w.setRow b c') := by
  have := run_storeCells_from (P := P) b t c'.toList 0 c w hrow (by simp; omega) (fun v hv => (Array.all_eq_true_iff_forall_mem.1 h1) v (by simpa using hv))
  rw [this]
  simp
theorem wpList_load_arr {P : Program} (w : World) {ops : Array Oper} {rest : List Oper} {o : Oper} {a : Act} {Q : Exit → Act → World → Prop} (hgd : o.guard = none) (s : Operand) (b n : Nat) (t ty e : TypeId) (c : Array Value) (fz : Nat × Nat)
    (ho : o.op = .load ty s) (hs : a.eval s = .pointer (some ⟨b, 0, none⟩)) (hrow : w.heap[b]? = some (.cells c t fz)) (hu : P.underlying ty = some (.array n e)) (hi : (P.info? ty).map (·.size) = some c.size)
    (h : wpList P ops Q rest (a.put o.dst (.agg c)) w) : wpList P ops Q (o :: rest) a w :=
  wpList_plain hgd fun _ hK => by
    have hr := load_row (P := P) w b t ty e n c fz hrow hu hi
    unfold Oper.wp execOp
    simp only [ho, Sem.run_bind, Sem.run_pure, Result.andThen_ok, hs, hr]
    exact hK _ _ h
theorem wpList_store_arr {P : Program} (w : World) {ops : Array Oper} {rest : List Oper} {o : Oper} {a : Act} {Q : Exit → Act → World → Prop} (hgd : o.guard = none) (s x : Operand) (b : Nat) (t ty : TypeId) (c c' : Array Value)
    (ho : o.op = .store ty s x) (hs : a.eval s = .pointer (some ⟨b, 0, none⟩)) (hx : a.eval x = .agg c') (hrow : w.heap[b]? = some (.cells c t (0, 0))) (hi : (P.info? ty).map (·.size) = some c'.size) (hc : c.size = c'.size) (h1 : c'.all (·.oneCell') = true)
    (h : wpList P ops Q rest (a.put o.dst undef) (w.setRow b c')) : wpList P ops Q (o :: rest) a w :=
  wpList_plain hgd fun _ hK => by
    have hr := store_row (P := P) w b t ty c c' hrow hi hc h1
    unfold Oper.wp execOp
    simp only [ho, Sem.run_bind, Sem.run_pure, Result.andThen_ok, hs, hx, hr]
    exact hK _ _ h
theorem encU_one (l : List Nat) : (encU l).all (·.oneCell') = true := by
  simp [encU, Value.oneCell']
theorem encU_set (l : List Nat) (q : Nat) (v : Int) (n : Nat) (h : v = n) : (encU l).setIfInBounds q (.int .u32 v) = encU (l.set q n) := by
  subst h
  apply Array.ext'
  simp [encU, List.map_set]
theorem below_setRow {B : Nat} {a w : World} (h : Below B a w) {b : Nat} (hb : B ≤ b) (c : Array Value) : Below B a (w.setRow b c) :=
  h.trans ⟨rfl, rfl, rfl, by simp [World.setRow], fun k hk => setRow_other w b k c (by omega)⟩
theorem row_set (w : World) (b k : Nat) (c : Array Value) (t : TypeId) (fz : Nat × Nat) (x : Value) (h : w.heap[b]? = some (.cells c t fz)) : (w.setCell ⟨b, k, none⟩ x).heap[b]? = some (.cells (c.setIfInBounds k x) t fz) := by
  rw [setCell_eq_setRow w b k c t fz x h]
  exact setRow_heap w b c _ t fz h
end Go.Proofs.YtgajhmmildbkfaaGreatDoor

/- The program's MD5 of one block. -/
namespace Go.Proofs.YtgajhmmildbkfaaGreatDoor
open Go.RowKit

theorem stepI (i : Nat) (hi : i < 64) (xa xb xc xd : Int) (v : Four) (hv : v.ok) (h : Is4 xa xb xc xd v) (w : World) :
    Calls Tryz.prog 113 #[.int .i64 i, .int .u32 xb, .int .u32 xc, .int .u32 xd] w fun e w' => ∃ (f : Int) (g : Nat), e = .returned (.tuple #[.int .u32 f, .int .i64 g]) ∧ 0 ≤ f ∧ f < 4294967296 ∧ g < 16 ∧ Hid (f = md5F i v) ∧ Hid (g = md5G i) ∧ w' = w := by
  obtain ⟨rfl, rfl, rfl, rfl⟩ := h
  exact step_any i hi v hv w
theorem turns_at (i : Nat) (h : i < 64) : turnsL.getD (i / 16 * 4 + i % 4) 0 ≤ 31 := by
  have : ∀ i : Fin 64, turnsL.getD (i.val / 16 * 4 + i.val % 4) 0 ≤ 31 := by decide
  exact this ⟨i, h⟩
def wordsL (little : Bool) (L : List UInt8) (o : Nat) : List Nat := (List.range 16).map fun j => wordAt little L (o + 4 * j)
theorem wordsL_length (little : Bool) (L : List UInt8) (o : Nat) : (wordsL little L o).length = 16 := by simp [wordsL]
theorem wordsL_at (little : Bool) (L : List UInt8) (o j : Nat) (h : j < 16) : (wordsL little L o).getD j 0 = wordAt little L (o + 4 * j) := by
  simp [wordsL, List.getD_eq_getElem?_getD, List.getElem?_map, List.getElem?_range h]
theorem encU_at (l : List Nat) (j : Nat) (h : j < l.length) : (encU l)[j]? = some (.int .u32 ((l.getD j 0 : Nat) : Int)) := by
  simp [encU, h]
theorem rol_eq (n k : Int) (h0 : 0 ≤ n) (h1 : n < 4294967296) (hk0 : 0 ≤ k) (hk : k ≤ 31) (w : World) (r : Int) (HR : Hid (r = rolN n.toNat k.toNat)) :
    Calls Tryz.prog 114 #[.int .u32 n, .int .i64 k] w fun e w' => e = .returned (.int .u32 r) ∧ w' = w := by
  refine (rol_any n k h0 h1 hk0 hk w).mono ?_
  rintro e w' ⟨r', rfl, _, _, HR', rfl⟩
  rw [HR.out, HR'.out]
  exact ⟨rfl, rfl⟩
def four (v : Four) : Array Value := #[.int .u32 v.a, .int .u32 v.b, .int .u32 v.c, .int .u32 v.d]
theorem info4 : (Tryz.prog.info? 125).map (·.size) = some 4 := by kernel_rfl
theorem three_blocks (w : World) (a b c : Obj) (k : Nat) : ((((w.alloc a).alloc b).alloc c).drewN k).heap[w.heap.size]? = some a ∧ ((((w.alloc a).alloc b).alloc c).drewN k).heap[w.heap.size + 1]? = some b ∧ ((((w.alloc a).alloc b).alloc c).drewN k).heap[w.heap.size + 2]? = some c := by
  have e : ((((w.alloc a).alloc b).alloc c).drewN k).heap = ((w.heap.push a).push b).push c := rfl
  rw [e]
  refine ⟨?_, ?_, ?_⟩
  · rw [Array.getElem?_push, if_neg (by simp; omega), Array.getElem?_push, if_neg (by simp), Array.getElem?_push, if_pos rfl]
  · rw [Array.getElem?_push, if_neg (by simp), Array.getElem?_push, if_pos (by simp)]
  · rw [Array.getElem?_push, if_pos (by simp)]
set_option maxHeartbeats 8000000 in
set_option maxRecDepth 100000 in
theorem mix_any (v : Four) (hv : v.ok) (L : List UInt8) (o : Nat) (w : World) (HS : Hid (Sines w)) (HTu : Hid (Turns w)) :
    Calls Tryz.prog 86 #[.agg (four v), .agg (encU (wordsL true L o))] w fun e w' => e = .returned (.agg (four (md5Add v (md5Rounds L o v 64)))) ∧ Below w.heap.size w w' := by
  unfold four
  have hl := encU_size (wordsL true L o)
  rw [wordsL_length] at hl
  go_enter Tryz.func86, Tryz.ntmps86
  go_wp2
  go_quiet (fail)
  go_wp2
  generalize hW : World.drewN _ _ = W0
  have hB0 : Below w.heap.size w W0 := by
    rw [← hW]
    exact below_drewN ((((Below.refl _ _).alloc (Nat.le_refl _) _).alloc (by simp) _).alloc (by simp; omega) _) _
  have hsz : w.heap.size + 3 = W0.heap.size := by rw [← hW]; simp [World.drewN]
  obtain ⟨h0, h1, h2⟩ : W0.heap[w.heap.size]? = some (.cells #[.int .u32 v.a, .int .u32 v.b, .int .u32 v.c, .int .u32 v.d] 125) ∧ W0.heap[w.heap.size + 1]? = some (.cells (encU (wordsL true L o)) 121) ∧ W0.heap[w.heap.size + 2]? = some (.cells #[.int .u32 0, .int .u32 0, .int .u32 0, .int .u32 0] 125) := by
    rw [← hW]
    exact three_blocks _ _ _ _ _
  clear hW
  have HH1 : Hid (W0.heap[w.heap.size + 1]? = some (.cells (encU (wordsL true L o)) 121)) := h1
  have HH0 : Hid (W0.heap[w.heap.size]? = some (.cells #[.int .u32 v.a, .int .u32 v.b, .int .u32 v.c, .int .u32 v.d] 125)) := h0
  have HH2 : Hid (W0.heap[w.heap.size + 2]? = some (.cells #[.int .u32 0, .int .u32 0, .int .u32 0, .int .u32 0] 125)) := h2
  have HB0 : Hid (Below w.heap.size w W0) := hB0
  clear h0 h1 h2 hB0
  go_loopw [5, 6, 7, 8, 20] (fun va vb vc vd vi wx => ∃ (i : Nat) (xa xb xc xd : Int), i ≤ 64 ∧ vi = .int .i64 i ∧ va = .int .u32 xa ∧ vb = .int .u32 xb ∧ vc = .int .u32 xc ∧ vd = .int .u32 xd
        ∧ 0 ≤ xa ∧ xa < 4294967296 ∧ 0 ≤ xb ∧ xb < 4294967296 ∧ 0 ≤ xc ∧ xc < 4294967296 ∧ 0 ≤ xd ∧ xd < 4294967296 ∧ Hid (Is4 xa xb xc xd (md5Rounds L o v i)) ∧ Hid (Below W0.heap.size W0 wx)) (fun _ _ _ _ i _ => 64 - (intOf i).toNat)
  case atStart => exact ⟨0, _, _, _, _, by omega, rfl, rfl, rfl, rfl, rfl, by omega, by have := hv.1; omega, by omega, by have := hv.2.1; omega, by omega, by have := hv.2.2.1; omega, by omega, by have := hv.2.2.2; omega, ⟨rfl, rfl, rfl, rfl⟩, Below.refl _ _⟩
  case round =>
    obtain ⟨i, xa, xb, xc, xd, hi, rfl, rfl, rfl, rfl, rfl, e0, e1, f0, f1, g0, g1, h0, h1, HJ, HD⟩ := hrel
    have hbw : ∀ b, b < W0.heap.size → wr.heap[b]? = W0.heap[b]? := fun b hb => HD.out.block b hb
    by_cases hlt : i < 64
    · obtain ⟨z, hz⟩ : ∃ z : Int, ((sinesL.getD i 0 : Nat) : Int) = z := ⟨_, rfl⟩
      have HZ : Hid (z = ((sinesL.getD i 0 : Nat) : Int)) := hz.symm
      have hsin : wr.cell? ⟨2, i, none⟩ = some (.int .u32 z) := by
        have := HS.out.1 i hlt
        have hgs := HS.out.2
        rw [hz] at this
        rw [← this]
        simp only [World.cell?, hbw _ (Nat.lt_of_lt_of_le hgs (by omega)), HB0.out.block _ hgs]
      have hz0 : 0 ≤ z := by omega
      have hz1 : z < 4294967296 := by have := sines_lt i hlt; omega
      obtain ⟨q, hq⟩ : ∃ q : Nat, (i : Int) / 16 = (q : Int) := ⟨i / 16, by omega⟩
      obtain ⟨r, hr⟩ : ∃ q : Nat, (i : Int) % 4 = (q : Int) := ⟨i % 4, by omega⟩
      have hq4 : q < 4 := by omega
      have hr4 : r < 4 := by omega
      obtain ⟨kk, hkk⟩ : ∃ kk : Int, ((turnsL.getD (q * 4 + r) 0 : Nat) : Int) = kk := ⟨_, rfl⟩
      have eqr : q * 4 + r = i / 16 * 4 + i % 4 := by omega
      have HKK : Hid (kk = turnAt i) := by show _ = _; rw [← hkk, turnAt, eqr]
      have hk0 : 0 ≤ kk := by omega
      have hk1 : kk ≤ 31 := by have := turns_at i hlt; rw [← eqr] at this; omega
      have htur : wr.cell? ⟨3, q * 4 + r, none⟩ = some (.int .i64 kk) := by
        have := HTu.out.1 (q * 4 + r) (by omega)
        have hgs := HTu.out.2
        rw [hkk] at this
        rw [← this]
        simp only [World.cell?, hbw _ (Nat.lt_of_lt_of_le hgs (by omega)), HB0.out.block _ hgs]
      clear hz hkk eqr
      go_wp2_with (go_at_call 113; refine (stepI i hlt xa xb xc xd _ (md5Rounds_ok L o v hv i) HJ.out _).mono ?_; rintro e w2 ⟨f, y, rfl, hf0, hf1, hy16, HFF, HY, hw2⟩; rw [hw2]; clear hw2 w2)
      obtain ⟨nn, hnn⟩ : ∃ nn : Int, ((wordAt true L (o + 4 * y) : Nat) : Int) = nn := ⟨_, rfl⟩
      have HNN : Hid (nn = ((wordAt true L (o + 4 * y) : Nat) : Int)) := hnn.symm
      have hn0 : 0 ≤ nn := by omega
      have hn1 : nn < 4294967296 := by have := wordAt_lt true L (o + 4 * y); omega
      have hwrd : wr.cell? ⟨w.heap.size + 1, y, none⟩ = some (.int .u32 nn) := by
        simp only [World.cell?, hbw _ (show w.heap.size + 1 < W0.heap.size by omega), HH1.out]
        rw [encU_at _ _ (by rw [wordsL_length]; exact hy16), wordsL_at _ _ _ _ hy16, hnn]
        rfl
      clear hnn
      go_quiet (fail)
      obtain ⟨T, hT⟩ : ∃ T : Int, (f + (xa + z + nn) % 4294967296) % 4294967296 = T := ⟨_, rfl⟩
      have hT0 : 0 ≤ T := by omega
      have hT1 : T < 4294967296 := by omega
      have HTT : Hid ((f + xa + z + nn) % 4294967296 = T) := by show _ = _; omega
      rw [hT]
      clear hT
      obtain ⟨R, hR0, hR1, HR⟩ := rol_bounds T kk hT0 hT1 hk0 hk1
      have HNX : Hid (Is4 xd ((xb + R) % 4294967296) xb xc (md5Rounds L o v (i + 1))) :=
        md5_next L o i xa xb xc xd f z nn kk T R (4 * y) y _ HJ.out HFF.out HZ.out HNN.out rfl HY.out HKK.out HTT.out HR.out
      clear hwrd hsin HNN HFF HZ HY HTT
      go_wp2_with (go_at_call 114; refine (rol_eq T kk hT0 hT1 hk0 hk1 _ R HR).mono ?_; rintro e w2 ⟨rfl, hw2⟩; rw [hw2]; clear hw2 w2)
      go_roundw
      case rel => exact ⟨i + 1, xd, (xb + R) % 4294967296, xb, xc, by omega, by go_num, rfl, rfl, rfl, rfl, by omega, by omega, by omega, by omega, by omega, by omega, by omega, by omega, HNX, below_drewN HD.out _⟩
      case measure => simp [intOf]; omega
    · obtain rfl : i = 64 := by omega
      have hc : ∀ k x, #[Value.int .u32 v.a, .int .u32 v.b, .int .u32 v.c, .int .u32 v.d][k]? = some x → wr.cell? ⟨w.heap.size, k, none⟩ = some x := by
        intro k x hx
        simp only [World.cell?, hbw _ (show w.heap.size < W0.heap.size by omega), HH0.out]
        exact hx
      have hc0 := hc 0 _ rfl
      have hc1 := hc 1 _ rfl
      have hc2 := hc 2 _ rfl
      have hc3 := hc 3 _ rfl
      have hcr : ∀ k x, #[Value.int .u32 0, .int .u32 0, .int .u32 0, .int .u32 0][k]? = some x → wr.cell? ⟨w.heap.size + 1 + 1, k, none⟩ = some x ∧ wr.frozen? ⟨w.heap.size + 1 + 1, k, none⟩ = false := by
        intro k x hx
        have e := HH2.out
        rw [← hbw _ (show w.heap.size + 2 < W0.heap.size by omega)] at e
        constructor
        · simp only [World.cell?, e]
          exact hx
        · simp [World.frozen?, e]
      obtain ⟨hr0, fr0⟩ := hcr 0 _ rfl
      obtain ⟨hr1, fr1⟩ := hcr 1 _ rfl
      obtain ⟨hr2, fr2⟩ := hcr 2 _ rfl
      obtain ⟨hr3, fr3⟩ := hcr 3 _ rfl
      clear hc hcr
      go_wp2
      have e2 := HH2.out
      rw [← hbw _ (show w.heap.size + 2 < W0.heap.size by omega)] at e2
      refine ret_arr (p := 4) (ty := 125) (b := w.heap.size + 1 + 1) rfl rfl (row_set _ _ _ _ _ _ _ (row_set _ _ _ _ _ _ _ (row_set _ _ _ _ _ _ _ (row_set _ _ _ _ _ _ _ e2)))) Tryz.underlying125 info4 rfl ⟨?_, ?_⟩
      · obtain ⟨q1, q2, q3, q4⟩ := HJ.out
        subst q1 q2 q3 q4
        simp [md5Add]
      · have hs0 := HB0.out.size
        exact ((((HB0.out.trans (HD.out.mono (by omega))).setCell (by simp; omega) _).setCell (by simp; omega) _).setCell (by simp; omega) _).setCell (by simp; omega) _
end Go.Proofs.YtgajhmmildbkfaaGreatDoor

/- The program's words of a block: four bytes each. -/
namespace Go.Proofs.YtgajhmmildbkfaaGreatDoor
open Go.RowKit

/-- The first m bytes of word j, as a number. -/
def partW (o : Bool) (L : List UInt8) (p j : Nat) : Nat → Nat
  | 0 => 0
  | m + 1 => partW o L p j m + (L.getD (p + 4 * j + m) 0).toNat * 2 ^ shiftN o m 4
theorem partW_four (o : Bool) (L : List UInt8) (p j : Nat) : partW o L p j 4 = wordAt (!o) L (p + 4 * j) := by
  cases o <;> simp [partW, wordAt, shiftN] <;> omega
theorem partW_lt (o : Bool) (L : List UInt8) (p j m : Nat) (h : m ≤ 4) : partW o L p j m < 4294967296 := by
  have h0 := (L.getD (p + 4 * j) 0).toNat_lt
  have h1 := (L.getD (p + 4 * j + 1) 0).toNat_lt
  have h2 := (L.getD (p + 4 * j + 2) 0).toNat_lt
  have h3 := (L.getD (p + 4 * j + 3) 0).toNat_lt
  obtain rfl | rfl | rfl | rfl | rfl : m = 0 ∨ m = 1 ∨ m = 2 ∨ m = 3 ∨ m = 4 := by omega
  all_goals cases o <;> simp only [partW, shiftN, if_true, if_false, Bool.false_eq_true, Nat.add_zero] <;> omega
theorem partW_or (o : Bool) (L : List UInt8) (p j m : Nat) (h : m < 4) : partW o L p j m ||| (L.getD (p + 4 * j + m) 0).toNat * 2 ^ shiftN o m 4 = partW o L p j (m + 1) := by
  have hc := (L.getD (p + 4 * j + m) 0).toNat_lt
  rw [partW]
  cases o
  · have e : shiftN false m 4 = 8 * m := by simp [shiftN]
    have hl : partW false L p j m < 2 ^ (8 * m) := by
      have h0 := (L.getD (p + 4 * j) 0).toNat_lt
      have h1 := (L.getD (p + 4 * j + 1) 0).toNat_lt
      have h2 := (L.getD (p + 4 * j + 2) 0).toNat_lt
      obtain rfl | rfl | rfl | rfl : m = 0 ∨ m = 1 ∨ m = 2 ∨ m = 3 := by omega
      all_goals simp only [partW, shiftN, if_false, Bool.false_eq_true, Nat.add_zero] <;> omega
    rw [e, Nat.or_comm, Nat.mul_comm, Nat.add_comm (partW false L p j m), Nat.two_pow_add_eq_or_of_lt hl]
  · have e : shiftN true m 4 = 8 * (3 - m) := by simp [shiftN]
    obtain ⟨q, hq⟩ : ∃ q, partW true L p j m = 2 ^ (8 * (3 - m) + 8) * q := by
      obtain rfl | rfl | rfl | rfl : m = 0 ∨ m = 1 ∨ m = 2 ∨ m = 3 := by omega
      · exact ⟨0, by simp [partW]⟩
      · exact ⟨(L.getD (p + 4 * j) 0).toNat, by simp only [partW, shiftN, if_true, Nat.add_zero]; omega⟩
      · exact ⟨(L.getD (p + 4 * j) 0).toNat * 256 + (L.getD (p + 4 * j + 1) 0).toNat, by simp only [partW, shiftN, if_true, Nat.add_zero]; omega⟩
      · exact ⟨(L.getD (p + 4 * j) 0).toNat * 65536 + (L.getD (p + 4 * j + 1) 0).toNat * 256 + (L.getD (p + 4 * j + 2) 0).toNat, by simp only [partW, shiftN, if_true, Nat.add_zero]; omega⟩
    rw [hq, e, Nat.two_pow_add_eq_or_of_lt]
    rw [Nat.pow_add, Nat.mul_comm]
    exact Nat.mul_lt_mul_of_pos_left hc (Nat.two_pow_pos _)
def wordsI (o : Bool) (L : List UInt8) (p i : Nat) : List Nat := (List.range 16).map fun j => partW o L p j (min 4 (i - 4 * j))
theorem wordsI_length (o : Bool) (L : List UInt8) (p i : Nat) : (wordsI o L p i).length = 16 := by simp [wordsI]
theorem wordsI_zero (o : Bool) (L : List UInt8) (p : Nat) : wordsI o L p 0 = List.replicate 16 0 := by
  simp [wordsI, partW]
  rfl
theorem wordsI_all (o : Bool) (L : List UInt8) (p : Nat) : wordsI o L p 64 = wordsL (!o) L p := by
  apply List.ext_getElem
  · simp [wordsI, wordsL]
  intro j h1 h2
  have hj : j < 16 := by simpa [wordsI] using h1
  have e : min 4 (64 - 4 * j) = 4 := by omega
  simp [wordsI, wordsL, e, partW_four]
theorem wordsI_succ (o : Bool) (L : List UInt8) (p i : Nat) : wordsI o L p (i + 1) = (wordsI o L p i).set (i / 4) (partW o L p (i / 4) (i % 4 + 1)) := by
  apply List.ext_getElem
  · simp [wordsI]
  intro j h1 h2
  rw [List.getElem_set]
  simp only [wordsI, List.getElem_map, List.getElem_range]
  split
  · rename_i h
    subst h
    congr 1
    omega
  · congr 1
    omega
theorem wordsI_at (o : Bool) (L : List UInt8) (p i : Nat) (hi : i < 64) : (wordsI o L p i).getD (i / 4) 0 = partW o L p (i / 4) (i % 4) := by
  have e : min 4 (i - 4 * (i / 4)) = i % 4 := by omega
  simp [wordsI, List.getD_eq_getElem?_getD, List.getElem?_map, List.getElem?_range (show i / 4 < 16 by omega), e]
theorem info16 : (Tryz.prog.info? 121).map (·.size) = some 16 := by kernel_rfl
theorem two_blocks (w : World) (a b : Obj) : ((w.alloc a).alloc b).heap[w.heap.size]? = some a ∧ ((w.alloc a).alloc b).heap[w.heap.size + 1]? = some b := by
  have e : ((w.alloc a).alloc b).heap = (w.heap.push a).push b := rfl
  rw [e]
  refine ⟨?_, ?_⟩
  · rw [Array.getElem?_push, if_neg (by simp), Array.getElem?_push, if_pos rfl]
  · rw [Array.getElem?_push, if_pos (by simp)]
set_option maxHeartbeats 8000000 in
set_option maxRecDepth 100000 in
theorem words_any (o : Bool) (L : List UInt8) (B p len cap : Nat) (hp : p + 64 ≤ L.length) (hlen : 64 ≤ len) (w : World) (HC : Hid (Cells w B L)) (hB : B < w.heap.size) :
    Calls Tryz.prog 84 #[.bool o, .slice (some ⟨B, p, none⟩) len cap] w fun e w' => e = .returned (.agg (encU (wordsL (!o) L p))) ∧ Below w.heap.size w w' := by
  go_enter Tryz.func84, Tryz.ntmps84
  go_wp2
  generalize hW : World.alloc (World.alloc _ _) _ = W0
  have hB0 : Below w.heap.size w W0 := by
    rw [← hW]
    exact ((Below.refl _ _).alloc (Nat.le_refl _) _).alloc (by simp) _
  have hsz : W0.heap.size = w.heap.size + 2 := by rw [← hW]; simp
  have h0 : W0.heap[w.heap.size]? = some (.cells (encU (List.replicate 16 0)) 121) := by
    rw [← hW]
    exact (two_blocks _ _ _).1
  have h1 : W0.heap[w.heap.size + 1]? = some (.cells (encU (List.replicate 16 0)) 121) := by
    rw [← hW]
    exact (two_blocks _ _ _).2
  clear hW
  have HB0 : Hid (Below w.heap.size w W0) := hB0
  have HH0 : Hid (W0.heap[w.heap.size]? = some (.cells (encU (List.replicate 16 0)) 121)) := h0
  have HH1 : Hid (W0.heap[w.heap.size + 1]? = some (.cells (encU (List.replicate 16 0)) 121)) := h1
  clear h0 h1 hB0
  go_loopw [7] (fun vi wx => ∃ (i : Nat), i ≤ 64 ∧ vi = .int .i64 i ∧ Hid (wx.heap[w.heap.size + 1]? = some (.cells (encU (wordsI o L p i)) 121)) ∧ Hid (Below (w.heap.size + 1) W0 wx)) (fun i _ => 64 - (intOf i).toNat)
  case atStart => exact ⟨0, by omega, rfl, by rw [wordsI_zero]; exact HH1, Below.refl _ _⟩
  case round =>
    obtain ⟨i, hi, rfl, HR, HD⟩ := hrel
    by_cases hlt : i < 64
    · obtain ⟨q, hq⟩ : ∃ q : Nat, (i : Int) / 4 = (q : Int) := ⟨i / 4, by omega⟩
      obtain ⟨r, hr⟩ : ∃ q : Nat, (i : Int) % 4 = (q : Int) := ⟨i % 4, by omega⟩
      have hq4 : q < 16 := by omega
      have hr4 : r < 4 := by omega
      have HQ : Hid (q = i / 4 ∧ r = i % 4) := ⟨by omega, by omega⟩
      obtain ⟨X, hX⟩ : ∃ X : Int, ((partW o L p (i / 4) (i % 4) : Nat) : Int) = X := ⟨_, rfl⟩
      have HX : Hid (X = (partW o L p (i / 4) (i % 4) : Nat)) := hX.symm
      have hx0 : 0 ≤ X := by omega
      have hx1 : X < 4294967296 := by have := partW_lt o L p (i / 4) (i % 4) (by omega); omega
      have hcel : wr.cell? ⟨w.heap.size + 1, q, none⟩ = some (.int .u32 X) := by
        rw [cell_of_row _ _ q _ _ _ HR.out, encU_at _ _ (by rw [wordsI_length]; exact hq4), HQ.out.1, wordsI_at _ _ _ _ hlt, hX]
      have hfro : wr.frozen? ⟨w.heap.size + 1, q, none⟩ = false := by simp [World.frozen?, HR.out]
      obtain ⟨c, hc⟩ : ∃ c : UInt8, L[p + i] = c := ⟨_, rfl⟩
      have hctext : wr.cell? ⟨B, p + i, none⟩ = some (.int .u8 (c.toNat : Int)) := by
        have := HC.out (p + i) (by omega)
        rw [hc] at this
        rw [← this]
        simp only [World.cell?, HD.out.block B (by omega), HB0.out.block B hB]
      have hcl : (c.toNat : Int) < 256 := by have := c.toNat_lt; omega
      have HCC : Hid (L.getD (p + i) 0 = c) := by
        show _ = _
        rw [List.getD_eq_getElem?_getD, List.getElem?_eq_getElem (by omega), hc]
        rfl
      obtain ⟨sh, hsh⟩ : ∃ sh : Nat, shiftN o r 4 = sh := ⟨_, rfl⟩
      have hsh2 : sh ≤ 24 := by rw [← hsh, shiftN]; split <;> omega
      have hli : (i : Int) < len := by omega
      clear hX hc
      go_wp2
      have hqt : (i : Int).tdiv 4 = q := by rw [Int.tdiv_eq_ediv_of_nonneg (by omega)]; exact hq
      have hrt : (i : Int).tmod 4 = r := by rw [Int.tmod_eq_emod_of_nonneg (by omega)]; exact hr
      have hqw : IntKind.i64.wrap (q : Int) = q := wrap64 q (by omega)
      have hrw : IntKind.i64.wrap (r : Int) = r := wrap64 r (by omega)
      have hqb : (q : Int) < 16 := by omega
      have HV : Hid (bits .or .u32 X (IntKind.u32.wrap (IntKind.u32.wrap (c.toNat : Int) * 2 ^ sh)) = ((partW o L p (i / 4) (i % 4 + 1) : Nat) : Int)) := by
        show _ = _
        have hcl2 := c.toNat_lt
        have hsm : c.toNat * 2 ^ sh < 4294967296 := by
          have : (2 : Nat) ^ sh ≤ 2 ^ 24 := Nat.pow_le_pow_right (by decide) hsh2
          have h3 : c.toNat * 2 ^ sh ≤ 255 * 2 ^ 24 := Nat.mul_le_mul (by omega) this
          omega
        have e1 : IntKind.u32.wrap (c.toNat : Int) * 2 ^ sh = ((c.toNat * 2 ^ sh : Nat) : Int) := by
          rw [wrapU32_lt _ (by omega)]
          simp
        rw [e1, wrapU32_lt _ hsm, HX.out, orU32 _ _ (partW_lt o L p _ _ (by omega)) hsm, ← partW_or o L p _ _ (by omega)]
        have e2 : p + 4 * (i / 4) + i % 4 = p + i := by omega
        rw [e2, HCC.out, ← HQ.out.2, hsh]
      have HNX : ∀ W, W = wr.setCell ⟨w.heap.size + 1, q, none⟩ (.int .u32 (bits .or .u32 X (IntKind.u32.wrap (IntKind.u32.wrap (c.toNat : Int) * 2 ^ sh)))) → W.heap[w.heap.size + 1]? = some (.cells (encU (wordsI o L p (i + 1))) 121) ∧ Below (w.heap.size + 1) W0 W := by
        intro W hW
        subst hW
        refine ⟨?_, HD.out.setCell (Nat.le_refl _) _⟩
        rw [row_set _ _ _ _ _ _ _ HR.out, encU_set _ _ _ _ HV.out, HQ.out.1, ← wordsI_succ o L p i]
      have HNX2 : Hid (∀ W, W = wr.setCell ⟨w.heap.size + 1, q, none⟩ (.int .u32 (bits .or .u32 X (IntKind.u32.wrap (IntKind.u32.wrap (c.toNat : Int) * 2 ^ sh)))) → W.heap[w.heap.size + 1]? = some (.cells (encU (wordsI o L p (i + 1))) 121) ∧ Below (w.heap.size + 1) W0 W) := HNX
      clear HNX HV
      go_region_with (go_at_call 110; refine (shift_any o r 4 hr4 (by omega) _).mono ?_; rintro e w2 ⟨rfl, hw2⟩; rw [hw2, hsh]; clear hw2 w2)
      all_goals
        obtain ⟨HA, HB⟩ := HNX2.out _ rfl
        generalize World.setCell _ _ _ = WX at HA HB ⊢
        have HA2 : Hid (WX.heap[w.heap.size + 1]? = some (.cells (encU (wordsI o L p (i + 1))) 121)) := HA
        have HB2 : Hid (Below (w.heap.size + 1) W0 WX) := HB
        clear HA HB HNX2
        go_wp2
        go_roundw
        case rel => exact ⟨i + 1, by omega, by go_num, HA2, HB2.out.drew⟩
        case measure => simp [intOf]; omega
    · obtain rfl : i = 64 := by omega
      have hr0 : wr.heap[w.heap.size]? = some (.cells (encU (List.replicate 16 0)) 121) := by rw [HD.out.block _ (by omega)]; exact HH0.out
      go_upto_region 7 with fail
      apply wp_region_lit
      refine wpList_load_arr wr rfl (.tmp 5) (w.heap.size + 1) _ _ 121 _ _ _ rfl rfl HR.out Tryz.underlying121 (by rw [encU_size, wordsI_length]; exact info16) ?_
      refine wpList_store_arr wr rfl (.tmp 4) (.tmp 27) w.heap.size _ 121 _ _ rfl rfl rfl hr0 (by rw [encU_size, wordsI_length]; exact info16) (by rw [encU_size, encU_size, wordsI_length]; rfl) (encU_one _) ?_
      go_wp2
      refine ret_arr (p := 4) (ty := 121) (b := w.heap.size) rfl rfl (setRow_heap wr w.heap.size _ _ _ _ hr0) Tryz.underlying121 (by rw [encU_size, wordsI_length]; exact info16) rfl ⟨?_, ?_⟩
      · rw [wordsI_all]
      · exact below_setRow (HB0.out.trans (HD.out.mono (by omega))) (Nat.le_refl _) _
end Go.Proofs.YtgajhmmildbkfaaGreatDoor
