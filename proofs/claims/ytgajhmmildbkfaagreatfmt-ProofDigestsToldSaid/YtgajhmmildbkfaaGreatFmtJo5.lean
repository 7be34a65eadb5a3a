/- Texts of one claim, joined: each begins with what it proves. -/
import Derived.Test.YtgajhmmildbkfaaGreatFmtJo1
import Derived.Test.YtgajhmmildbkfaaGreatFmtJo2
import Derived.Test.YtgajhmmildbkfaaGreatFmtJo3
import Derived.Test.YtgajhmmildbkfaaGreatFmtJo4
import Derived.Stop.CallBack
import Derived.Stop.IfaceNil
import Derived.Stop.Texts
import Derived.Stop.FmtTextKit
import Derived.Stop.FmtTextBases
import Derived.Stop.JoinedTold
import Derived.Deep.QuietTactic
import Derived.BigQuiet
import Derived.WalkMore
import Derived.WalkSmall
import Derived.Deep.LoopGhost
import Derived.Deep.OwnRows
import Derived.Laws.OwnMore
import Derived.OneCell
import Derived.Deep.AppendLies
import Derived.Deep.RegionHeld3
import Derived.LaidEql
import Derived.Stop.Asserts
import Derived.RowKitTokens
/- What fmt writes of a number below 2^32 as eight digits: the digits of its four bytes. -/
namespace Go.Proofs.YtgajhmmildbkfaaGreatFmt
open Go.RowKit
open Go.Extern.Stop Go.Stop Go.Extern

theorem call16 (args : Array Value) (w : World) : (callFunc 68 args).run Tryz.prog w = ((FmtStop.sprintf #[9, 168] #[9] args).run Tryz.prog w).andThen fun v w' => .ok (.value v) w' :=
  run_callFunc_extern Tryz.func68 (by kernel_rfl) (by kernel_rfl) (by kernel_rfl) (by kernel_rfl) args w
theorem fguard (name : String) (w : World) : (FmtStop.guard name).run Tryz.prog w = .ok () w := by kernel_rfl
theorem fm08x (w : World) : (FmtDoors.printed ⟨#[37, 48, 56, 120]⟩ 1).run Tryz.prog w = .ok [(0, 120, false)] w := by kernel_rfl
theorem fm08x' : FmtStop.printed? ⟨#[37, 48, 56, 120]⟩ 1 = some [(0, 120, false)] := by kernel_rfl
def shape3 : List UInt8 := [5, 3, 0, 0, 0, 0, 0, 0, 0, 105, 110, 116]
theorem op3x (name : String) (x : Int) (w : World) : (FmtStop.operand name false 120 false (.iface 3 (.int .i64 x))).run Tryz.prog w = .ok (shape3, Go.Extern.Stop.digits 8 (x % 2 ^ 64).toNat) w := by kernel_rfl

theorem digit_dig (d : Nat) (h : d < 16) : FmtText.digit false d = dig d := by
  have : ∀ d : Fin 16, FmtText.digit false d.val = dig d.val := by decide
  exact this ⟨d, h⟩
def hexN : Nat → Nat → List UInt8
  | 0, _ => []
  | k + 1, n => hexN k (n / 16) ++ [dig (n % 16)]
theorem hexN_zero : ∀ k, hexN k 0 = List.replicate k 48
  | 0 => rfl
  | k + 1 => by
    rw [hexN, Nat.zero_div, hexN_zero k, List.replicate_succ']
    rfl
theorem digitsFrom_hexN : ∀ (k fuel n : Nat) (acc : List UInt8), 1 ≤ k → k ≤ fuel → n < 16 ^ k → ∃ d : List UInt8, FmtText.digitsFrom 16 false fuel n acc = d ++ acc ∧ d.length ≤ k ∧ List.replicate (k - d.length) 48 ++ d = hexN k n
  | 0, _, _, _, h, _, _ => absurd h (by omega)
  | k + 1, 0, _, _, _, h, _ => absurd h (by omega)
  | k + 1, fuel + 1, n, acc, _, hf, hn => by
    rw [FmtText.digitsFrom]
    split
    · rename_i h16
      refine ⟨[FmtText.digit false n], rfl, by simp, ?_⟩
      rw [hexN, Nat.div_eq_of_lt h16, hexN_zero, Nat.mod_eq_of_lt h16, digit_dig n h16]
      rfl
    · rename_i h16
      have hk : 1 ≤ k := by
        rcases Nat.eq_zero_or_pos k with rfl | h
        · simp at hn; omega
        · exact h
      obtain ⟨d, hd, hl, he⟩ := digitsFrom_hexN k fuel (n / 16) (FmtText.digit false (n % 16) :: acc) hk (by omega) (by
        rw [Nat.pow_succ] at hn
        exact Nat.div_lt_of_lt_mul (by omega))
      refine ⟨d ++ [FmtText.digit false (n % 16)], by rw [hd]; simp, by simp; omega, ?_⟩
      rw [hexN, ← he, digit_dig _ (Nat.mod_lt _ (by decide))]
      simp
theorem hexN_be4 (n : Nat) (h : n < 4294967296) : hexN 8 n = hexL (be4 n) := by
  simp only [hexN, be4, hexL, List.nil_append, List.cons_append, UInt8.toNat_ofNat', Nat.div_div_eq_div_mul]
  have e1 : n / 16777216 % 2 ^ 8 / 16 = n / (16 * 16 * 16 * 16 * 16 * 16 * 16) % 16 := by omega
  have e2 : n / 16777216 % 2 ^ 8 % 16 = n / (16 * 16 * 16 * 16 * 16 * 16) % 16 := by omega
  have e3 : n / 65536 % 2 ^ 8 / 16 = n / (16 * 16 * 16 * 16 * 16) % 16 := by omega
  have e4 : n / 65536 % 2 ^ 8 % 16 = n / (16 * 16 * 16 * 16) % 16 := by omega
  have e5 : n / 256 % 2 ^ 8 / 16 = n / (16 * 16 * 16) % 16 := by omega
  have e6 : n / 256 % 2 ^ 8 % 16 = n / (16 * 16) % 16 := by omega
  have e7 : n % 2 ^ 8 / 16 = n / 16 % 16 := by omega
  have e8 : n % 2 ^ 8 % 16 = n % 16 := by omega
  rw [e1, e2, e3, e4, e5, e6, e7, e8]

theorem text08x (n : Nat) (h : n < 4294967296) : FmtText.text "fmt.Sprintf" [[37, 48, 56, 120], shape3, Go.Extern.Stop.digits 8 n] = some (hexL (be4 n)) := by
  have hw : (Lit.int .i64 (n : Int)).wf = true := by
    simp [Lit.wf, IntKind.min, IntKind.max, IntKind.signed, IntKind.bits]
    omega
  have en : ((n : Int) % 18446744073709551616).toNat = n := by omega
  have ho := FmtText.operand_int_at (sh := shape3) (k := .i64) (n := [3, 0, 0, 0, 0, 0, 0, 0, 105, 110, 116]) (name := [105, 110, 116]) rfl rfl (n : Int) hw
  have hp := FmtText.printArg_x_zero false false 8 [105, 110, 116] hw
  rw [en] at ho hp
  have hz : FmtText.hexZeros false false 8 (n : Int) = hexL (be4 n) := by
    obtain ⟨d, hd, hl, he⟩ := digitsFrom_hexN 8 64 n [] (by decide) (by decide) (by simpa using h)
    have hnum : FmtText.numeral 16 false n = d := by rw [FmtText.numeral, hd]; simp
    rw [← hexN_be4 n h, ← he]
    have hneg : ¬ ((n : Int) < 0) := by omega
    simp [FmtText.hexZeros, hneg, hnum]
  have hparse : FmtText.parse [37, 48, 56, 120] = some [.verb { widPresent := true, wid := 8, zero := true, sharp := false } 120] := by rfl
  rw [FmtText.text_sprintf hparse (FmtText.operands_cons ho FmtText.operands_nil)]
  rw [hz] at hp
  simp [FmtText.render, hp]
theorem told08x (F : Interp) (n : Nat) (h : n < 4294967296) : FmtStop.textOf (F.told "fmt.Sprintf" [[37, 48, 56, 120], shape3, Go.Extern.Stop.digits 8 n] 0) = bs (hexL (be4 n)) := by
  have := told_string F (text08x n h) (by rw [hexL_length]; simp [be4])
  rw [← Kit.textOf_list] at this
  rw [← bs_self (FmtStop.textOf _), this]
end Go.Proofs.YtgajhmmildbkfaaGreatFmt

/- The document's own small steps of the two sums: turns, complements, four bytes as a number, a number as digits. -/
namespace Go.Proofs.YtgajhmmildbkfaaGreatFmt
open Go.RowKit
open Go.Extern.Stop Go.Stop Go.Extern

theorem refNot (n : Int) (h0 : 0 ≤ n) (h1 : n < 4294967296) (w : World) :
    Calls Tryz.prog 46 #[.int .i64 n] w fun e w' => e = .returned (.int .i64 (4294967295 - n)) ∧ w' = w := by
  go_enter Tryz.func46, Tryz.ntmps46
  go_wp2
  go_ret
  exact ⟨rfl, rfl⟩

set_option maxHeartbeats 800000 in
theorem refRol (n k : Int) (h0 : 0 ≤ n) (h1 : n < 4294967296) (hk0 : 0 ≤ k) (hk : k ≤ 31) (w : World) :
    Calls Tryz.prog 48 #[.int .i64 n, .int .i64 k] w fun e w' => ∃ r : Int, e = .returned (.int .i64 r) ∧ 0 ≤ r ∧ r < 4294967296 ∧ Hid (r = rolN n.toNat k.toNat) ∧ w' = w := by
  go_enter Tryz.func48, Tryz.ntmps48
  go_wp2
  go_loop [5, 7] (fun p i => ∃ (x : Int) (j : Nat), (j : Int) ≤ k ∧ i = .int .i64 j ∧ p = .int .i64 x ∧ 1 ≤ x ∧ x ≤ 2147483648 ∧ Hid (x = ((2 ^ j : Nat) : Int))) (fun _ i => k.toNat - (intOf i).toNat)
  case atStart => exact ⟨1, 0, by omega, rfl, rfl, by omega, by omega, rfl⟩
  case round =>
    obtain ⟨x, j, hj, rfl, rfl, h2, h3, HX⟩ := hrel
    by_cases hlt : (j : Int) < k
    · have hx2 : x * 2 ≤ 2147483648 := by
        have h4 : (2 : Nat) ^ (j + 1) ≤ 2 ^ 31 := Nat.pow_le_pow_right (by decide) (by omega)
        have h5 := HX.out
        rw [Nat.pow_succ] at h4
        omega
      go_wp2
      go_round
      case rel => exact ⟨x * 2, j + 1, by omega, by go_num, rfl, by omega, by omega, by show _ = _; rw [HX.out, Nat.pow_succ]; push_cast; rfl⟩
      case measure => simp [intOf]; omega
    · have hjk : (j : Int) = k := by omega
      subst hjk
      have hm0 : 0 ≤ n * x := Int.mul_nonneg (by omega) (by omega)
      have hm1 : n * x < 9223372036854775808 := by
        have : n * x ≤ 4294967295 * 2147483648 := Int.mul_le_mul (by omega) h3 (by omega) (by omega)
        omega
      go_wp2
      go_ret
      have hr : n * x % 4294967296 + n * x / 4294967296 = (rolN n.toNat j : Int) := by
        have hq : n * x = ((n.toNat * 2 ^ j : Nat) : Int) := by
          rw [HX.out, Int.natCast_mul, Int.toNat_of_nonneg h0]
        rw [hq]
        unfold rolN
        generalize n.toNat * 2 ^ j = q
        omega
      have hlt2 := rolN_lt n.toNat j (by omega) (by omega)
      exact ⟨_, rfl, by omega, by omega, hr, rfl⟩

theorem refRor (n k : Int) (h0 : 0 ≤ n) (h1 : n < 4294967296) (hk0 : 1 ≤ k) (hk : k ≤ 32) (w : World) :
    Calls Tryz.prog 45 #[.int .i64 n, .int .i64 k] w fun e w' => ∃ r : Int, e = .returned (.int .i64 r) ∧ 0 ≤ r ∧ r < 4294967296 ∧ Hid (r = rorN n.toNat k.toNat) ∧ w' = w := by
  go_enter Tryz.func45, Tryz.ntmps45
  go_wp2_with (go_at_call 48; refine (refRol n (32 - k) h0 h1 (by omega) (by omega) _).mono ?_; rintro e w1 ⟨r, rfl, hr0, hr1, HR, rfl⟩)
  go_ret
  refine ⟨r, rfl, hr0, hr1, ?_, rfl⟩
  show r = _
  rw [HR.out, rorN]
  congr 2
  omega

def part (little : Bool) (L : List UInt8) (p : Nat) : Nat → Nat
  | 0 => 0
  | j + 1 => part little L p j * 256 + (L.getD (p + (if little then 3 - j else j)) 0).toNat
theorem part_four (little : Bool) (L : List UInt8) (p : Nat) : part little L p 4 = wordAt little L p := by
  cases little <;> simp [part, wordAt] <;> omega
theorem part_lt (little : Bool) (L : List UInt8) (p : Nat) : ∀ j, part little L p j < 256 ^ j
  | 0 => by simp [part]
  | j + 1 => by
    have := part_lt little L p j
    have h := (L.getD (p + (if little then 3 - j else j)) 0).toNat_lt
    rw [part, Nat.pow_succ]
    omega
set_option maxHeartbeats 800000 in
set_option maxRecDepth 100000 in
theorem refNumber (little : Bool) (L : List UInt8) (B p len cap : Nat) (hl : 4 ≤ len) (hp : p + 4 ≤ L.length) (hc : len ≤ 2000) (w : World) (HC : Hid (Cells w B L)) :
    Calls Tryz.prog 44 #[.slice (some ⟨B, p, none⟩) len cap, .bool little] w fun e w' => ∃ r : Int, e = .returned (.int .i64 r) ∧ 0 ≤ r ∧ r < 4294967296 ∧ Hid (r = wordAt little L p) ∧ w' = w := by
  go_enter Tryz.func44, Tryz.ntmps44
  go_wp2
  go_loop [5, 8] (fun n i => ∃ (x : Int) (j : Nat), j ≤ 4 ∧ i = .int .i64 j ∧ n = .int .i64 x ∧ 0 ≤ x ∧ x < 4294967296 ∧ Hid (x = part little L p j)) (fun _ i => 4 - (intOf i).toNat)
  case atStart => exact ⟨0, 0, by omega, rfl, rfl, by omega, by omega, rfl⟩
  case round =>
    obtain ⟨x, j, hj, rfl, rfl, hx0, hx1, HX⟩ := hrel
    by_cases hlt : j < 4
    · have hx2 : x < 16777216 := by
        have h1 := part_lt little L p j
        have h2 : 256 ^ j ≤ 256 ^ 3 := Nat.pow_le_pow_right (by decide) (by omega)
        rw [HX.out]
        omega
      obtain ⟨c, hc1⟩ : ∃ c : UInt8, L[p + j] = c := ⟨_, rfl⟩
      obtain ⟨d, hd1⟩ : ∃ d : UInt8, L[p + (3 - j)] = d := ⟨_, rfl⟩
      have hcell := HC.out (p + j) (by omega)
      have hcelld := HC.out (p + (3 - j)) (by omega)
      rw [hc1] at hcell
      rw [hd1] at hcelld
      have hcl : (c.toNat : Int) < 256 := by have := c.toNat_lt; omega
      have hdl : (d.toNat : Int) < 256 := by have := d.toNat_lt; omega
      cases little
      · have HN : Hid (part false L p (j + 1) = part false L p j * 256 + c.toNat) := by
          show _ = _
          rw [part, List.getD_eq_getElem?_getD, List.getElem?_eq_getElem (by simp; omega)]
          simp [hc1]
        clear hc1 hd1
        go_wp2
        go_round
        case rel => exact ⟨x * 256 + c.toNat, j + 1, by omega, by go_num, rfl, by omega, by omega, by show _ = _; rw [HN.out, HX.out]; push_cast; rfl⟩
        case measure => simp [intOf]; omega
      · have HN : Hid (part true L p (j + 1) = part true L p j * 256 + d.toNat) := by
          show _ = _
          rw [part, List.getD_eq_getElem?_getD, List.getElem?_eq_getElem (by simp; omega)]
          simp [hd1]
        clear hc1 hd1
        go_wp2
        go_round
        case rel => exact ⟨x * 256 + d.toNat, j + 1, by omega, by go_num, rfl, by omega, by omega, by show _ = _; rw [HN.out, HX.out]; push_cast; rfl⟩
        case measure => simp [intOf]; omega
    · obtain rfl : j = 4 := by omega
      go_wp2
      go_ret
      exact ⟨x, rfl, hx0, hx1, by rw [← part_four]; exact HX, rfl⟩

theorem hexL_le (n : Nat) (a b c d : ByteArray) (t : ByteArray) (ht : t = bs (hexL (be4 n))) (ha : a = t.extract 6 8) (hb : b = t.extract 4 6) (hc : c = t.extract 2 4) (hd : d = t.extract 0 2) : a ++ b ++ c ++ d = bs (hexL (le4 n)) := by
  subst ha hb hc hd ht
  apply ByteArray.ext
  apply Array.ext'
  simp [ByteArray.data_append, bs, be4, le4, hexL]
attribute [local go_sem] call16 fguard fm08x fm08x' op3x
set_option maxRecDepth 100000 in
set_option maxHeartbeats 800000 in
theorem refDigits (F : Interp) (little : Bool) (n : Int) (h0 : 0 ≤ n) (h1 : n < 4294967296) (w : World) (hF : F.told.answers w.tape) :
    Calls Tryz.prog 47 #[.int .i64 n, .bool little] w fun e w' => ∃ o : ByteArray, e = .returned (.string o) ∧ o.size = 8 ∧ Hid (o = bs (hexL (if little then le4 n.toNat else be4 n.toNat))) ∧ Below w.heap.size w w' := by
  have en : (n % 18446744073709551616).toNat = n.toNat := by omega
  have ht := congrArg FmtStop.textOf (answers_open hF w.drawn "fmt.Sprintf" [[37, 48, 56, 120], shape3, digits 8 n.toNat] 0 0)
  rw [told08x F _ (by omega)] at ht
  obtain ⟨t, hT⟩ : ∃ t : ByteArray, bs (hexL (be4 n.toNat)) = t := ⟨_, rfl⟩
  have HT : Hid (t = bs (hexL (be4 n.toNat))) := hT.symm
  rw [hT] at ht
  clear hT
  have htz : t.size = 8 := by rw [HT.out]; rfl
  cases little
  · go_enter Tryz.func47, Tryz.ntmps47
    go_wp2
    go_ret
    exact ⟨t, rfl, htz, HT, ((Below.refl _ _).alloc (Nat.le_refl _) _).drew⟩
  · go_enter Tryz.func47, Tryz.ntmps47
    go_wp2
    go_quiet (fail)
    go_wp2
    go_ret
    have e := hexL_le n.toNat _ _ _ _ t HT.out rfl rfl rfl rfl
    exact ⟨_, rfl, by rw [e]; rfl, e, below_drewN ((Below.refl _ _).alloc (Nat.le_refl _) _) _⟩
end Go.Proofs.YtgajhmmildbkfaaGreatFmt

/- What is summed: the document's own filling. -/
namespace Go.Proofs.YtgajhmmildbkfaaGreatFmt
open Go.RowKit

def posT (little : Bool) (j : Nat) : Nat := if little then j else 7 - j
def tailF (little : Bool) (N i j : Nat) : UInt8 := if posT little j < i then UInt8.ofNat (N / 256 ^ (posT little j)) else 0
def tailL (little : Bool) (N i : Nat) : List UInt8 := (List.range 8).map (tailF little N i)
theorem tailL_length (little : Bool) (N i : Nat) : (tailL little N i).length = 8 := by simp [tailL]
theorem tailL_zero (little : Bool) (N : Nat) : tailL little N 0 = List.replicate 8 0 := by
  simp [tailL, tailF, List.range_succ]
theorem tailL_eight (little : Bool) (N : Nat) : tailL little N 8 = if little then le8 N else (le8 N).reverse := by
  cases little <;> simp [tailL, tailF, posT, le8, List.range_succ]
theorem tailL_set (little : Bool) (N i k : Nat) (c : UInt8) (hk : k < 8) (hi : posT little k = i) (hc : c = UInt8.ofNat (N / 256 ^ i)) : (tailL little N i).set k c = tailL little N (i + 1) := by
  apply List.ext_getElem
  · simp [tailL]
  · intro j h1 h2
    have h4 : j < 8 := by simpa [tailL] using h2
    simp only [tailL, List.getElem_set, List.getElem_map, List.getElem_range]
    split
    · rename_i e
      subst e
      rw [hc, tailF, if_pos (by omega), hi]
    · rename_i e
      have : posT little j ≠ i := by
        intro h
        apply e
        cases little <;> simp [posT] at h hi <;> omega
      unfold tailF
      by_cases h3 : posT little j < i
      · rw [if_pos h3, if_pos (by omega)]
      · rw [if_neg h3, if_neg (by omega)]

theorem OwnM.setCell {w : World} {B g n cap : Nat} {l : List UInt8} (h : OwnM w B g n cap l) (a : Addr) (ha : a.block ≠ g) (v : Value) : OwnM (w.setCell a v) B g n cap l := by
  refine h.kept ?_
  simp [World.setCell, Array.getElem?_modify, ha]

theorem make8 (w : World) : ∃ W2 : World, (Instr.makeSlice 56 (.int .i64 8) (.int .i64 8)).run Tryz.prog w = .ok (.slice (some ⟨w.heap.size, 0, none⟩) 8 8) W2 ∧ Row W2 w.heap.size (List.replicate 8 0) ∧ (∀ k, k < w.heap.size → W2.heap[k]? = w.heap[k]?) ∧ (∀ B a, Below B a w → B ≤ w.heap.size → Below B a W2) ∧ W2.heap.size = w.heap.size + 1 := by
  refine ⟨_, run_make_row' (P := Tryz.prog) 56 5 (.int .u8 0) 1 Tryz.underlying56 info5 rfl .i64 .i64 8 (by omega) (by omega) w, ?_, ?_, ?_, ?_⟩
  · intro j hj
    have hj' : j < 8 := by simpa using hj
    refine ⟨?_, ?_⟩
    · rw [World.cell?_alloc_mark]
      have hmc : madeCells #[Value.int .u8 0] 8 = (List.replicate 8 (Value.int .u8 0)).toArray := by
        rw [← toList_madeCells_one]
      rw [hmc, List.getElem_replicate, List.getElem?_toArray, List.getElem?_replicate, if_pos hj']
      rfl
    · rw [World.frozen?_alloc_mark]
      simp
  · intro k hk
    exact heap_alloc_old w _ hk
  · intro B a hB hle
    exact hB.alloc hle _
  · simp

set_option maxHeartbeats 1600000 in
set_option maxRecDepth 100000 in
theorem refPad (little : Bool) (s : ByteArray) (hs : s.size ≤ 1000) (w : World) :
    Calls Tryz.prog 43 #[.string s, .bool little] w fun e w' => ∃ g n cap : Nat, e = .returned (.slice (some ⟨g, 0, none⟩) n cap) ∧ n = (s.size + 72) / 64 * 64 ∧ n ≤ cap ∧ w.heap.size ≤ g ∧ g < w'.heap.size ∧ Hid (Cells w' g (padL little s.data.toList)) ∧ Below w.heap.size w w' := by
  obtain ⟨i0, hi0, hz0, hz1, hz2⟩ := info_parts info5
  obtain ⟨cap, W1, hconv, hM, hbel, hsz⟩ := conv_M s w (by omega)
  have HM : Hid (OwnM W1 w.heap.size w.heap.size s.size cap s.data.toList) := hM
  have HZ : Hid (W1.heap.size = w.heap.size + 1) := hsz
  have hwz : w.heap.size ≤ W1.heap.size := by omega
  clear hM hsz
  go_enter Tryz.func43, Tryz.ntmps43
  go_wp2_with (at_builtin; refine wpList_append_M _ rfl _ _ 56 rfl w.heap.size i0 Tryz.underlying56 hi0 hz0 hz1 hz2 _ _ _ s.data.toList rfl (HM.out.alloc _) ⟨_, 0, none⟩ 1 1 [128] rfl rfl (fun j u hj => cell_one_new W1 (.int .u8 128) 5 j u hj) (by omega) (by simp; omega) ?_; intro g1 cap1 w1 hM1 hg1 hat1)
  have hB1 : Below w.heap.size w w1 := (hbel.alloc hwz _).grown hg1 (by simp; omega) (by simp)
  have HM1 : Hid (OwnM w1 w.heap.size g1 (s.size + 1) cap1 (s.data.toList ++ [128])) := hM1
  clear hM1 hg1 hat1 HM HZ hconv hbel hwz
  go_loopg [5] (zerosN s.size) (fun gh v wr => ∃ k g n cap : Nat, k + gh = zerosN s.size ∧ v = .slice (some ⟨g, 0, none⟩) n cap ∧ n = s.size + 1 + k ∧ Hid (OwnM wr w.heap.size g n cap (s.data.toList ++ [128] ++ List.replicate k 0)) ∧ Below w.heap.size w wr)
  case atStart => exact ⟨0, g1, _, cap1, by omega, rfl, by omega, by simpa using HM1, hB1⟩
  case round =>
    obtain ⟨k, g, n, cap2, hk, rfl, hn, HO, hb⟩ := hrel
    have hz : zerosN s.size < 64 := by unfold zerosN; omega
    have hn2 : n ≤ 1100 := by omega
    have hwr : w.heap.size ≤ wr.heap.size := hb.size
    clear HM1 hB1
    cases gk with
    | succ gk =>
      have hne : ((n : Int) % 64 != 56) = true := by
        have : n % 64 ≠ 56 := by unfold zerosN at hk; omega
        simp; omega
      have HN : Hid (n = s.size + 1 + k) := hn
      clear hn
      go_wp2_with (at_builtin; refine wpList_append_M _ rfl _ _ 56 rfl w.heap.size i0 Tryz.underlying56 hi0 hz0 hz1 hz2 _ _ _ _ rfl (HO.out.alloc _) ⟨_, 0, none⟩ 1 1 [0] rfl rfl (fun j u hj => cell_one_new wr (.int .u8 0) 5 j u hj) (by omega) (by simp; omega) ?_; intro g2 cap3 w2 hM2 hg2 hat2)
      go_roundg gk
      case measure => omega
      case rel =>
        refine ⟨k + 1, g2, n + 1, cap3, by omega, rfl, by have := HN.out; omega, ?_, (hb.alloc hwr _).grown hg2 (by simp; omega) ?_⟩
        · show OwnM _ _ _ _ _ _
          rw [List.replicate_succ', ← List.append_assoc]
          exact hM2
        · intro x hx
          have := HO.out.1
          simp only [Option.some.injEq] at hx
          omega
    | zero =>
      have hne : ((n : Int) % 64 != 56) = false := by
        have : n % 64 = 56 := by unfold zerosN at hk; omega
        simp; omega
      have HN : Hid (n = s.size + 1 + k) := hn
      clear hn
      have hkz : k = zerosN s.size := by omega
      subst hkz
      clear hk
      obtain ⟨W2, hmk, hrow2, hold2, hbel2, hsz2⟩ := make8 wr
      have hgl := HO.out.lt
      have HO2 : Hid (OwnM W2 w.heap.size g n cap2 (s.data.toList ++ [128] ++ List.replicate (zerosN s.size) 0)) := HO.out.kept (hold2 g hgl)
      have hb2 : Below w.heap.size w W2 := hbel2 _ _ hb hwr
      have HR2 : Hid (Row W2 wr.heap.size (tailL little (8 * s.size) 0)) := by rw [tailL_zero]; exact hrow2
      obtain ⟨gt, hgt⟩ : ∃ gt : Nat, wr.heap.size = gt := ⟨_, rfl⟩
      rw [hgt] at hmk HR2 hsz2 hgl hwr
      clear hrow2 hold2 hbel2 HO
      go_wp2
      go_loopw [6, 25] (fun v i wx => ∃ (j : Nat) (x : Int), j ≤ 8 ∧ i = .int .i64 j ∧ v = .int .i64 x ∧ 0 ≤ x ∧ x ≤ 8000 ∧ Hid (x = ((8 * s.size / 256 ^ j : Nat) : Int)) ∧ Hid (Row wx gt (tailL little (8 * s.size) j)) ∧ Hid (OwnM wx w.heap.size g n cap2 (s.data.toList ++ [128] ++ List.replicate (zerosN s.size) 0)) ∧ Below w.heap.size w wx ∧ wx.heap.size = gt + 1) (fun _ i _ => 8 - (intOf i).toNat)
      case atStart =>
        refine ⟨0, (s.size : Int) * 8, by omega, rfl, by go_num, by omega, by omega, ?_, HR2, HO2, hb2, hsz2⟩
        show _ = _
        simp
        omega
      case round =>
        obtain ⟨j, x, hj, rfl, rfl, hx0, hx1, HX, HR, HO, hb3, hsz3⟩ := hrel
        clear HR2 HO2 hb2 hsz2 hb hmk
        by_cases hlt : j < 8
        · have hxv : x % 256 = ((UInt8.ofNat (8 * s.size / 256 ^ j)).toNat : Int) := by
            rw [HX.out, UInt8.toNat_ofNat']
            generalize 8 * s.size / 256 ^ j = q
            omega
          have HV : Hid (x % 256 = ((UInt8.ofNat (8 * s.size / 256 ^ j)).toNat : Int)) := hxv
          clear hxv
          have HX2 : Hid (x / 256 = ((8 * s.size / 256 ^ (j + 1) : Nat) : Int)) := by
            show _ = _
            rw [HX.out, Nat.pow_succ, ← Nat.div_div_eq_div_mul]
            generalize 8 * s.size / 256 ^ j = q
            omega
          have hgne : gt ≠ g := by omega
          cases little
          · have h1 := HR.out (7 - j) (by rw [tailL_length]; omega)
            have hcell := h1.1
            have hfro := h1.2
            clear h1
            go_wp2
            go_roundw
            case rel =>
              refine ⟨j + 1, x / 256, by omega, by go_num, rfl, by omega, by omega, HX2, ?_, ?_, hb3.setCell (by simp; omega) _, by simp [hsz3]⟩
              · show Row _ _ _
                rw [← tailL_set false (8 * s.size) j (7 - j) _ (by omega) (by simp [posT]; omega) rfl]
                exact HR.out.set _ _ _ HV.out
              · exact HO.out.setCell _ hgne _
            case measure => simp [intOf]; omega
          · have h1 := HR.out j (by rw [tailL_length]; omega)
            have hcell := h1.1
            have hfro := h1.2
            clear h1
            go_wp2
            go_roundw
            case rel =>
              refine ⟨j + 1, x / 256, by omega, by go_num, rfl, by omega, by omega, HX2, ?_, ?_, hb3.setCell (by simp; omega) _, by simp [hsz3]⟩
              · show Row _ _ _
                rw [← tailL_set true (8 * s.size) j j _ (by omega) (by simp [posT]) rfl]
                exact HR.out.set _ _ _ HV.out
              · exact HO.out.setCell _ hgne _
            case measure => simp [intOf]; omega
        · obtain rfl : j = 8 := by omega
          have hwx : w.heap.size ≤ wr.heap.size := by omega
          go_wp2_with (at_builtin; refine wpList_append_M _ rfl _ _ 56 rfl w.heap.size i0 Tryz.underlying56 hi0 hz0 hz1 hz2 _ _ _ _ rfl HO.out ⟨_, 0, none⟩ 8 8 (tailL little (8 * s.size) 8) rfl (tailL_length _ _ _) (by
              intro q u hq
              have hq8 : q < (tailL little (8 * s.size) 8).length := by
                have := (List.getElem?_eq_some_iff.1 hq).1
                simpa using this
              have := (HR.out q hq8).1
              have hadd : (⟨gt, 0, none⟩ : Addr).add q = ⟨gt, q, none⟩ := by unfold Addr.add; split <;> simp_all
              rw [hadd, this]
              simpa [hq8] using hq) (by omega) hwx ?_; intro g4 cap4 w4 hM4 hg4 hat4)
          go_ret
          have hlenP : n + 8 = (padL little s.data.toList).length := by
            have := hM4.2.1
            rw [← this, padL, tailL_eight]
            simp
          refine ⟨g4, n + 8, cap4, rfl, ?_, ?_, hM4.1, hM4.lt, ?_, hb3.grown hg4 hwx ?_⟩
          · rw [hlenP, padL_length]
            simp
          · obtain ⟨_, _, _, _, _, _, h, _⟩ := hM4
            exact h
          · show Cells _ _ _
            intro q hq
            have e : padL little s.data.toList = s.data.toList ++ [128] ++ List.replicate (zerosN s.size) 0 ++ tailL little (8 * s.size) 8 := by
              rw [padL, tailL_eight]
              simp
            have := hM4.cells q (by rw [← e]; exact hq)
            rw [this]
            simp only [e]
          · intro q hq
            have := HO.out.1
            simp only [Option.some.injEq] at hq
            omega
end Go.Proofs.YtgajhmmildbkfaaGreatFmt

/- The document's own MD5 is the sum over lists of bytes. -/
namespace Go.Proofs.YtgajhmmildbkfaaGreatFmt
open Go.RowKit
open Go.Extern.Stop Go.Stop Go.Extern

theorem f_one (xb xc xd : Int) (v : Four) (xa : Int) (hv : v.ok) (h : Is4 xa xb xc xd v) (i : Nat) (hi : i < 16) : ∃ f : Int, bits .or .i64 (bits .and .i64 xb xc) (bits .and .i64 (4294967295 - xb) xd) = f ∧ 0 ≤ f ∧ f < 4294967296 ∧ Hid (f = md5F i v) := by
  obtain ⟨rfl, rfl, rfl, rfl⟩ := h
  have hl := md5F_lt i v hv
  obtain ⟨ha, hb, hc, hd⟩ := hv
  have e : md5F i v = (v.b &&& v.c) ||| (notN v.b &&& v.d) := by rw [md5F, if_pos hi]
  refine ⟨_, rfl, ?_⟩
  rw [notCast _ hb, and64 _ _ hb hc, and64 _ _ (notN_lt _) hd, or64 _ _ (and32_lt hc) (and32_lt hd), ← e]
  exact ⟨by omega, by omega, rfl⟩
theorem f_two (xb xc xd : Int) (v : Four) (xa : Int) (hv : v.ok) (h : Is4 xa xb xc xd v) (i : Nat) (h0 : 16 ≤ i) (hi : i < 32) : ∃ f : Int, bits .or .i64 (bits .and .i64 xd xb) (bits .and .i64 (4294967295 - xd) xc) = f ∧ 0 ≤ f ∧ f < 4294967296 ∧ Hid (f = md5F i v) := by
  obtain ⟨rfl, rfl, rfl, rfl⟩ := h
  have hl := md5F_lt i v hv
  obtain ⟨ha, hb, hc, hd⟩ := hv
  have e : md5F i v = (v.d &&& v.b) ||| (notN v.d &&& v.c) := by rw [md5F, if_neg (by omega), if_pos hi]
  refine ⟨_, rfl, ?_⟩
  rw [notCast _ hd, and64 _ _ hd hb, and64 _ _ (notN_lt _) hc, or64 _ _ (and32_lt hb) (and32_lt hc), ← e]
  exact ⟨by omega, by omega, rfl⟩
theorem f_three (xb xc xd : Int) (v : Four) (xa : Int) (hv : v.ok) (h : Is4 xa xb xc xd v) (i : Nat) (h0 : 32 ≤ i) (hi : i < 48) : ∃ f : Int, bits .xor .i64 (bits .xor .i64 xb xc) xd = f ∧ 0 ≤ f ∧ f < 4294967296 ∧ Hid (f = md5F i v) := by
  obtain ⟨rfl, rfl, rfl, rfl⟩ := h
  have hl := md5F_lt i v hv
  obtain ⟨ha, hb, hc, hd⟩ := hv
  have e : md5F i v = v.b ^^^ v.c ^^^ v.d := by rw [md5F, if_neg (by omega), if_neg (by omega), if_pos hi]
  refine ⟨_, rfl, ?_⟩
  rw [xor64 _ _ hb hc, xor64 _ _ (xor32_lt hb hc) hd, ← e]
  exact ⟨by omega, by omega, rfl⟩
theorem f_four (xb xc xd : Int) (v : Four) (xa : Int) (hv : v.ok) (h : Is4 xa xb xc xd v) (i : Nat) (h0 : 48 ≤ i) : ∃ f : Int, bits .xor .i64 xc (bits .or .i64 xb (4294967295 - xd)) = f ∧ 0 ≤ f ∧ f < 4294967296 ∧ Hid (f = md5F i v) := by
  obtain ⟨rfl, rfl, rfl, rfl⟩ := h
  have hl := md5F_lt i v hv
  obtain ⟨ha, hb, hc, hd⟩ := hv
  have e : md5F i v = v.c ^^^ (v.b ||| notN v.d) := by rw [md5F, if_neg (by omega), if_neg (by omega), if_neg (by omega)]
  refine ⟨_, rfl, ?_⟩
  rw [notCast _ hd, or64 _ _ hb (notN_lt _), xor64 _ _ hc (or32_lt hb (notN_lt _)), ← e]
  exact ⟨by omega, by omega, rfl⟩
theorem refNumber_eq (little : Bool) (L : List UInt8) (B p len cap : Nat) (hl : 4 ≤ len) (hp : p + 4 ≤ L.length) (hc : len ≤ 2000) (w : World) (HC : Hid (Cells w B L)) (nn : Int) (HN : Hid (nn = wordAt little L p)) :
    Calls Tryz.prog 44 #[.slice (some ⟨B, p, none⟩) len cap, .bool little] w fun e w' => e = .returned (.int .i64 nn) ∧ w' = w := by
  refine (refNumber little L B p len cap hl hp hc w HC).mono ?_
  rintro e w' ⟨r, rfl, _, _, HR, rfl⟩
  rw [HR.out, HN.out]
  exact ⟨rfl, rfl⟩
theorem refRol_eq (n k : Int) (h0 : 0 ≤ n) (h1 : n < 4294967296) (hk0 : 0 ≤ k) (hk : k ≤ 31) (w : World) (r : Int) (HR : Hid (r = rolN n.toNat k.toNat)) :
    Calls Tryz.prog 48 #[.int .i64 n, .int .i64 k] w fun e w' => e = .returned (.int .i64 r) ∧ w' = w := by
  refine (refRol n k h0 h1 hk0 hk w).mono ?_
  rintro e w' ⟨r', rfl, _, _, HR', rfl⟩
  rw [HR.out, HR'.out]
  exact ⟨rfl, rfl⟩
theorem tab0 (i r : Nat) (h : r < 4) (hi : i / 16 = 0) (hr : i % 4 = r) : ∃ kk : Int, ([Value.int .i64 7, Value.int .i64 12, Value.int .i64 17, Value.int .i64 22] : List Value)[r]'h = .int .i64 kk ∧ 0 ≤ kk ∧ kk ≤ 31 ∧ Hid (kk = (turnAt i : Int)) := by
  have e : turnAt i = turnsL.getD (0 * 4 + r) 0 := by rw [turnAt, hi, hr]
  obtain rfl | rfl | rfl | rfl : r = 0 ∨ r = 1 ∨ r = 2 ∨ r = 3 := by omega
  · exact ⟨7, rfl, by omega, by omega, by show _ = _; rw [e]; rfl⟩
  · exact ⟨12, rfl, by omega, by omega, by show _ = _; rw [e]; rfl⟩
  · exact ⟨17, rfl, by omega, by omega, by show _ = _; rw [e]; rfl⟩
  · exact ⟨22, rfl, by omega, by omega, by show _ = _; rw [e]; rfl⟩
theorem tab1 (i r : Nat) (h : r < 4) (hi : i / 16 = 1) (hr : i % 4 = r) : ∃ kk : Int, ([Value.int .i64 5, Value.int .i64 9, Value.int .i64 14, Value.int .i64 20] : List Value)[r]'h = .int .i64 kk ∧ 0 ≤ kk ∧ kk ≤ 31 ∧ Hid (kk = (turnAt i : Int)) := by
  have e : turnAt i = turnsL.getD (1 * 4 + r) 0 := by rw [turnAt, hi, hr]
  obtain rfl | rfl | rfl | rfl : r = 0 ∨ r = 1 ∨ r = 2 ∨ r = 3 := by omega
  · exact ⟨5, rfl, by omega, by omega, by show _ = _; rw [e]; rfl⟩
  · exact ⟨9, rfl, by omega, by omega, by show _ = _; rw [e]; rfl⟩
  · exact ⟨14, rfl, by omega, by omega, by show _ = _; rw [e]; rfl⟩
  · exact ⟨20, rfl, by omega, by omega, by show _ = _; rw [e]; rfl⟩
theorem tab2 (i r : Nat) (h : r < 4) (hi : i / 16 = 2) (hr : i % 4 = r) : ∃ kk : Int, ([Value.int .i64 4, Value.int .i64 11, Value.int .i64 16, Value.int .i64 23] : List Value)[r]'h = .int .i64 kk ∧ 0 ≤ kk ∧ kk ≤ 31 ∧ Hid (kk = (turnAt i : Int)) := by
  have e : turnAt i = turnsL.getD (2 * 4 + r) 0 := by rw [turnAt, hi, hr]
  obtain rfl | rfl | rfl | rfl : r = 0 ∨ r = 1 ∨ r = 2 ∨ r = 3 := by omega
  · exact ⟨4, rfl, by omega, by omega, by show _ = _; rw [e]; rfl⟩
  · exact ⟨11, rfl, by omega, by omega, by show _ = _; rw [e]; rfl⟩
  · exact ⟨16, rfl, by omega, by omega, by show _ = _; rw [e]; rfl⟩
  · exact ⟨23, rfl, by omega, by omega, by show _ = _; rw [e]; rfl⟩
theorem tab3 (i r : Nat) (h : r < 4) (hi : i / 16 = 3) (hr : i % 4 = r) : ∃ kk : Int, ([Value.int .i64 6, Value.int .i64 10, Value.int .i64 15, Value.int .i64 21] : List Value)[r]'h = .int .i64 kk ∧ 0 ≤ kk ∧ kk ≤ 31 ∧ Hid (kk = (turnAt i : Int)) := by
  have e : turnAt i = turnsL.getD (3 * 4 + r) 0 := by rw [turnAt, hi, hr]
  obtain rfl | rfl | rfl | rfl : r = 0 ∨ r = 1 ∨ r = 2 ∨ r = 3 := by omega
  · exact ⟨6, rfl, by omega, by omega, by show _ = _; rw [e]; rfl⟩
  · exact ⟨10, rfl, by omega, by omega, by show _ = _; rw [e]; rfl⟩
  · exact ⟨15, rfl, by omega, by omega, by show _ = _; rw [e]; rfl⟩
  · exact ⟨21, rfl, by omega, by omega, by show _ = _; rw [e]; rfl⟩
set_option maxHeartbeats 8000000 in
set_option maxRecDepth 100000 in
theorem refMd5 (F : Interp) (s : ByteArray) (hs : s.size ≤ 1000) (w : World) (hF : F.told.answers w.tape) (HS : Hid (Sines w)) :
    Calls Tryz.prog 33 #[.string s] w fun e w' => e = .returned (.string (bs (hexL (md5L s.data.toList)))) ∧ Below w.heap.size w w' := by
  go_enter Tryz.func33, Tryz.ntmps33
  go_wp2_with (go_at_call 43; refine (refPad true s hs _).mono ?_; rintro e w1 ⟨g, n, cap, rfl, hn, hnc, hgw, hgl, HC, hb1⟩; have HN : Hid (n = (s.size + 72) / 64 * 64) := hn; clear hn)
  obtain ⟨K, hK⟩ : ∃ K, (s.size + 72) / 64 = K := ⟨_, rfl⟩
  have hK2 : K ≤ 20 := by omega
  have HN2 : Hid (n = 64 * K) := by show _ = _; have := HN.out; omega
  obtain ⟨L, hL⟩ : ∃ L, padL true s.data.toList = L := ⟨_, rfl⟩
  have hLl : L.length = 64 * K := by rw [← hL, padL_length]; simp; omega
  rw [hL] at HC
  have HG : Hid (md5L s.data.toList = (md5Blocks L K).bytes) := by
    show _ = _
    rw [md5L, hL, ← hK]
    simp
  have HB1 : Hid (Below w.heap.size w w1) := hb1
  have HS1 : Hid (Sines w1) := ⟨fun i hi => by
      rw [← HS.out.1 i hi]
      simp only [World.cell?, hb1.block _ HS.out.2], Nat.lt_of_lt_of_le HS.out.2 hb1.size⟩
  clear hL hK HN HS hb1
  go_loopg [3, 4, 5, 6, 7] K (fun gh va vb vc vd vs wr => ∃ (k o m c : Nat) (xa xb xc xd : Int), k + gh = K ∧ Hid (0 < gh → o = 64 * k) ∧ Hid (m = 64 * gh) ∧ m ≤ c ∧ va = .int .i64 xa ∧ vb = .int .i64 xb ∧ vc = .int .i64 xc ∧ vd = .int .i64 xd ∧ vs = .slice (some ⟨g, o, none⟩) m c
    ∧ 0 ≤ xa ∧ xa < 4294967296 ∧ 0 ≤ xb ∧ xb < 4294967296 ∧ 0 ≤ xc ∧ xc < 4294967296 ∧ 0 ≤ xd ∧ xd < 4294967296 ∧ Hid (Is4 xa xb xc xd (md5Blocks L k)) ∧ Hid (Below w1.heap.size w1 wr))
  case atStart => exact ⟨0, 0, n, cap, _, _, _, _, by omega, fun _ => rfl, HN2, hnc, rfl, rfl, rfl, rfl, rfl, by omega, by omega, by omega, by omega, by omega, by omega, by omega, by omega, ⟨rfl, rfl, rfl, rfl⟩, Below.refl _ _⟩
  case round =>
    obtain ⟨k, o, m, c, ya, yb, yc, yd, hk, HO, HM, hmc, rfl, rfl, rfl, rfl, rfl, a0, a1, b0, b1, c0, c1, d0, d1, HI, HB⟩ := hrel
    cases gk with
    | zero =>
      obtain rfl : m = 0 := HM.out
      obtain rfl : k = K := by omega
      go_wp2_with fail
      refine (refDigits F true ya a0 a1 _ (by rw [HB.out.tape, HB1.out.tape]; exact hF)).mono ?_
      rintro e w2 ⟨t1, rfl, z1, T1, B1⟩
      go_wp2_with fail
      refine (refDigits F true yb b0 b1 _ (by rw [B1.tape, HB.out.tape, HB1.out.tape]; exact hF)).mono ?_
      rintro e w3 ⟨t2, rfl, z2, T2, B2⟩
      go_wp2_with fail
      refine (refDigits F true yc c0 c1 _ (by rw [B2.tape, B1.tape, HB.out.tape, HB1.out.tape]; exact hF)).mono ?_
      rintro e w4 ⟨t3, rfl, z3, T3, B3⟩
      go_wp2_with fail
      refine (refDigits F true yd d0 d1 _ (by rw [B3.tape, B2.tape, B1.tape, HB.out.tape, HB1.out.tape]; exact hF)).mono ?_
      rintro e w5 ⟨t4, rfl, z4, T4, B4⟩
      go_wp2
      go_ret
      refine ⟨ret_str ?_, ?_⟩
      · obtain ⟨q1, q2, q3, q4⟩ := HI.out
        rw [T1.out, T2.out, T3.out, T4.out, HG.out, q1, q2, q3, q4]
        simp only [Four.bytes, hexL_append, bs_append, if_true, Int.toNat_natCast]
      · have s0 := HB1.out.size
        have s1 := HB.out.size
        have s2 := B1.size
        have s3 := B2.size
        have s4 := B3.size
        exact (((((HB1.out.trans (HB.out.mono (by omega))).trans (B1.mono (by omega))).trans (B2.mono (by omega))).trans (B3.mono (by omega))).trans (B4.mono (by omega)))
    | succ gk =>
      have hm2 : 64 ≤ m := by have := HM.out; omega
      have hm3 : m ≤ 1280 := by have := HM.out; omega
      go_wp2
      have hdm : decide (0 < m) = true := by simp; omega
      rw [hdm]
      clear hdm
      go_loopw [8, 9, 10, 11, 28] (fun va vb vc vd vi wx => ∃ (i : Nat) (xa xb xc xd : Int), i ≤ 64 ∧ vi = .int .i64 i ∧ va = .int .i64 xa ∧ vb = .int .i64 xb ∧ vc = .int .i64 xc ∧ vd = .int .i64 xd
        ∧ 0 ≤ xa ∧ xa < 4294967296 ∧ 0 ≤ xb ∧ xb < 4294967296 ∧ 0 ≤ xc ∧ xc < 4294967296 ∧ 0 ≤ xd ∧ xd < 4294967296 ∧ Hid (Is4 xa xb xc xd (md5Rounds L o (md5Blocks L k) i)) ∧ Hid (Below w1.heap.size w1 wx)) (fun _ _ _ _ i _ => 64 - (intOf i).toNat)
      case atStart => exact ⟨0, ya, yb, yc, yd, by omega, rfl, rfl, rfl, rfl, rfl, a0, a1, b0, b1, c0, c1, d0, d1, HI, HB⟩
      case round =>
        obtain ⟨i, xa, xb, xc, xd, hi, rfl, rfl, rfl, rfl, rfl, e0, e1, f0, f1, g0, g1, h0, h1, HJ, HD⟩ := hrel
        by_cases hlt : i < 64
        · have HC2 : Hid (Cells wr g L) := HC.out.below HD.out hgl
          obtain ⟨z, hz⟩ : ∃ z : Int, ((sinesL.getD i 0 : Nat) : Int) = z := ⟨_, rfl⟩
          have HZ : Hid (z = ((sinesL.getD i 0 : Nat) : Int)) := hz.symm
          have hsin : wr.cell? ⟨2, i, none⟩ = some (.int .u32 z) := by
            have := HS1.out.1 i hlt
            simp only [World.cell?, HD.out.block _ HS1.out.2]
            rw [← hz]
            exact this
          have hz0 : 0 ≤ z := by omega
          have hz1 : z < 4294967296 := by have := sines_lt i hlt; omega
          clear hz
          have hok := md5Rounds_ok L o (md5Blocks L k) (md5Blocks_ok L k) i
          have HOK : Hid ((md5Rounds L o (md5Blocks L k) i).ok) := hok
          clear hok
          obtain hqn | hqn | hqn | hqn : i / 16 = 0 ∨ i / 16 = 1 ∨ i / 16 = 2 ∨ i / 16 = 3 := by omega
          · obtain ⟨f, hf, hf0, hf1, HFF⟩ := f_one xb xc xd _ xa HOK.out HJ.out i (by omega)
            obtain ⟨y, hy⟩ : ∃ y : Nat, (i : Int) % 16 = (y : Int) := ⟨i % 16, by omega⟩
            have hy16 : y < 16 := by omega
            have HY : Hid (y = md5G i) := by
              show _ = _
              unfold md5G
              rw [if_pos (by omega)]
              omega
            have hq : (i : Int) / 16 = 0 := by omega
            obtain ⟨r, hr⟩ : ∃ r : Nat, (i : Int) % 4 = (r : Int) := ⟨i % 4, by omega⟩
            have hr4 : r < 4 := by omega
            obtain ⟨kk, hkk, hk0, hk1, HKK⟩ := tab0 i r hr4 hqn (by omega)
            go_wp2_with (go_at_call 46; refine (refNot _ (by omega) (by omega) _).mono ?_; rintro e w2 ⟨rfl, hw2⟩; rw [hw2]; clear hw2 w2)
            generalize hW : World.alloc (World.alloc (World.alloc (World.alloc (World.alloc _ _) _) _) _) _ = W
            have hBW : Below wr.heap.size wr W := by
              rw [← hW]
              exact (((((Below.refl _ _).alloc (Nat.le_refl _) _).alloc (by simp) _).alloc (by simp; omega) _).alloc (by simp; omega) _).alloc (by simp; omega) _
            have HCW : Hid (Cells W g L) := HC2.out.below hBW (Nat.lt_of_lt_of_le hgl HD.out.size)
            have HDW : Hid (Below w1.heap.size w1 W) := HD.out.trans (hBW.mono HD.out.size)
            have hsinW : W.cell? ⟨2, i, none⟩ = some (.int .u32 z) := by
              rw [← hsin]
              simp only [World.cell?, hBW.block _ (Nat.lt_of_lt_of_le HS1.out.2 HD.out.size)]
            clear hW hBW hsin HC2 HD
            obtain ⟨p, hp⟩ : ∃ p : Nat, 4 * (y : Int) = (p : Int) := ⟨4 * y, by omega⟩
            have hp1 : p ≤ 60 := by omega
            have HP : Hid (p = 4 * y) := by show _ = _; omega
            obtain ⟨nn, hnn⟩ : ∃ nn : Int, ((wordAt true L (o + p) : Nat) : Int) = nn := ⟨_, rfl⟩
            have HNN : Hid (nn = ((wordAt true L (o + p) : Nat) : Int)) := hnn.symm
            have hn0 : 0 ≤ nn := by omega
            have hn1 : nn < 4294967296 := by have := wordAt_lt true L (o + p); omega
            clear hnn
            have hoL : o + p + 4 ≤ L.length := by have := HO.out (by omega); omega
            have hcne : ¬ (c = p) := by omega
            have hwp : IntKind.i64.wrap (p : Int) = p := wrap64 p (by omega)
            have hpm : p ≤ m := by omega
            go_quiet ((go_at_call 44; exact Calls.quiet_of_same (refNumber_eq true L g (o + p) _ _ (by omega) hoL (by omega) _ (HCW.out.drewN _) nn HNN)))
            obtain ⟨T, hT⟩ : ∃ T : Int, (f + xa + z + nn) % 4294967296 = T := ⟨_, rfl⟩
            have hT0 : 0 ≤ T := by omega
            have hT1 : T < 4294967296 := by omega
            have HTT : Hid ((f + xa + z + nn) % 4294967296 = T) := hT
            rw [hT]
            clear hT
            obtain ⟨R, hR0, hR1, HR⟩ := rol_bounds T kk hT0 hT1 hk0 hk1
            have HNX : Hid (Is4 xd ((xb + R) % 4294967296) xb xc (md5Rounds L o (md5Blocks L k) (i + 1))) :=
              md5_next L o i xa xb xc xd f z nn kk T R p y _ HJ.out HFF.out HZ.out HNN.out HP.out HY.out HKK.out HTT.out HR.out
            clear hp hf hy hq hr hcne hwp hpm hn0 hn1 hoL hsinW HNN HFF HZ HP HY HKK HTT
            go_wp2_with (go_at_call 48; refine (refRol_eq T kk hT0 hT1 hk0 hk1 _ R HR).mono ?_; rintro e w2 ⟨rfl, hw2⟩; rw [hw2]; clear hw2 w2)
            go_roundw
            case rel => exact ⟨i + 1, xd, (xb + R) % 4294967296, xb, xc, by omega, by go_num, rfl, rfl, rfl, rfl, by omega, by omega, by omega, by omega, by omega, by omega, by omega, by omega, HNX, below_drewN HDW.out _⟩
            case measure => simp [intOf]; omega
          · obtain ⟨f, hf, hf0, hf1, HFF⟩ := f_two xb xc xd _ xa HOK.out HJ.out i (by omega) (by omega)
            obtain ⟨y, hy⟩ : ∃ y : Nat, (5 * (i : Int) + 1) % 16 = (y : Int) := ⟨(5 * i + 1) % 16, by omega⟩
            have hy16 : y < 16 := by omega
            have HY : Hid (y = md5G i) := by
              show _ = _
              unfold md5G
              rw [if_neg (by omega), if_pos (by omega)]
              omega
            have hq : (i : Int) / 16 = 1 := by omega
            obtain ⟨r, hr⟩ : ∃ r : Nat, (i : Int) % 4 = (r : Int) := ⟨i % 4, by omega⟩
            have hr4 : r < 4 := by omega
            obtain ⟨kk, hkk, hk0, hk1, HKK⟩ := tab1 i r hr4 hqn (by omega)
            go_wp2_with (go_at_call 46; refine (refNot _ (by omega) (by omega) _).mono ?_; rintro e w2 ⟨rfl, hw2⟩; rw [hw2]; clear hw2 w2)
            generalize hW : World.alloc (World.alloc (World.alloc (World.alloc (World.alloc _ _) _) _) _) _ = W
            have hBW : Below wr.heap.size wr W := by
              rw [← hW]
              exact (((((Below.refl _ _).alloc (Nat.le_refl _) _).alloc (by simp) _).alloc (by simp; omega) _).alloc (by simp; omega) _).alloc (by simp; omega) _
            have HCW : Hid (Cells W g L) := HC2.out.below hBW (Nat.lt_of_lt_of_le hgl HD.out.size)
            have HDW : Hid (Below w1.heap.size w1 W) := HD.out.trans (hBW.mono HD.out.size)
            have hsinW : W.cell? ⟨2, i, none⟩ = some (.int .u32 z) := by
              rw [← hsin]
              simp only [World.cell?, hBW.block _ (Nat.lt_of_lt_of_le HS1.out.2 HD.out.size)]
            clear hW hBW hsin HC2 HD
            obtain ⟨p, hp⟩ : ∃ p : Nat, 4 * (y : Int) = (p : Int) := ⟨4 * y, by omega⟩
            have hp1 : p ≤ 60 := by omega
            have HP : Hid (p = 4 * y) := by show _ = _; omega
            obtain ⟨nn, hnn⟩ : ∃ nn : Int, ((wordAt true L (o + p) : Nat) : Int) = nn := ⟨_, rfl⟩
            have HNN : Hid (nn = ((wordAt true L (o + p) : Nat) : Int)) := hnn.symm
            have hn0 : 0 ≤ nn := by omega
            have hn1 : nn < 4294967296 := by have := wordAt_lt true L (o + p); omega
            clear hnn
            have hoL : o + p + 4 ≤ L.length := by have := HO.out (by omega); omega
            have hcne : ¬ (c = p) := by omega
            have hwp : IntKind.i64.wrap (p : Int) = p := wrap64 p (by omega)
            have hpm : p ≤ m := by omega
            go_quiet ((go_at_call 44; exact Calls.quiet_of_same (refNumber_eq true L g (o + p) _ _ (by omega) hoL (by omega) _ (HCW.out.drewN _) nn HNN)))
            obtain ⟨T, hT⟩ : ∃ T : Int, (f + xa + z + nn) % 4294967296 = T := ⟨_, rfl⟩
            have hT0 : 0 ≤ T := by omega
            have hT1 : T < 4294967296 := by omega
            have HTT : Hid ((f + xa + z + nn) % 4294967296 = T) := hT
            rw [hT]
            clear hT
            obtain ⟨R, hR0, hR1, HR⟩ := rol_bounds T kk hT0 hT1 hk0 hk1
            have HNX : Hid (Is4 xd ((xb + R) % 4294967296) xb xc (md5Rounds L o (md5Blocks L k) (i + 1))) :=
              md5_next L o i xa xb xc xd f z nn kk T R p y _ HJ.out HFF.out HZ.out HNN.out HP.out HY.out HKK.out HTT.out HR.out
            clear hp hf hy hq hr hcne hwp hpm hn0 hn1 hoL hsinW HNN HFF HZ HP HY HKK HTT
            go_wp2_with (go_at_call 48; refine (refRol_eq T kk hT0 hT1 hk0 hk1 _ R HR).mono ?_; rintro e w2 ⟨rfl, hw2⟩; rw [hw2]; clear hw2 w2)
            go_roundw
            case rel => exact ⟨i + 1, xd, (xb + R) % 4294967296, xb, xc, by omega, by go_num, rfl, rfl, rfl, rfl, by omega, by omega, by omega, by omega, by omega, by omega, by omega, by omega, HNX, below_drewN HDW.out _⟩
            case measure => simp [intOf]; omega
          · obtain ⟨f, hf, hf0, hf1, HFF⟩ := f_three xb xc xd _ xa HOK.out HJ.out i (by omega) (by omega)
            obtain ⟨y, hy⟩ : ∃ y : Nat, (3 * (i : Int) + 5) % 16 = (y : Int) := ⟨(3 * i + 5) % 16, by omega⟩
            have hy16 : y < 16 := by omega
            have HY : Hid (y = md5G i) := by
              show _ = _
              unfold md5G
              rw [if_neg (by omega), if_neg (by omega), if_pos (by omega)]
              omega
            have hq : (i : Int) / 16 = 2 := by omega
            obtain ⟨r, hr⟩ : ∃ r : Nat, (i : Int) % 4 = (r : Int) := ⟨i % 4, by omega⟩
            have hr4 : r < 4 := by omega
            obtain ⟨kk, hkk, hk0, hk1, HKK⟩ := tab2 i r hr4 hqn (by omega)
            go_wp2_with (go_at_call 46; refine (refNot _ (by omega) (by omega) _).mono ?_; rintro e w2 ⟨rfl, hw2⟩; rw [hw2]; clear hw2 w2)
            generalize hW : World.alloc (World.alloc (World.alloc (World.alloc (World.alloc _ _) _) _) _) _ = W
            have hBW : Below wr.heap.size wr W := by
              rw [← hW]
              exact (((((Below.refl _ _).alloc (Nat.le_refl _) _).alloc (by simp) _).alloc (by simp; omega) _).alloc (by simp; omega) _).alloc (by simp; omega) _
            have HCW : Hid (Cells W g L) := HC2.out.below hBW (Nat.lt_of_lt_of_le hgl HD.out.size)
            have HDW : Hid (Below w1.heap.size w1 W) := HD.out.trans (hBW.mono HD.out.size)
            have hsinW : W.cell? ⟨2, i, none⟩ = some (.int .u32 z) := by
              rw [← hsin]
              simp only [World.cell?, hBW.block _ (Nat.lt_of_lt_of_le HS1.out.2 HD.out.size)]
            clear hW hBW hsin HC2 HD
            obtain ⟨p, hp⟩ : ∃ p : Nat, 4 * (y : Int) = (p : Int) := ⟨4 * y, by omega⟩
            have hp1 : p ≤ 60 := by omega
            have HP : Hid (p = 4 * y) := by show _ = _; omega
            obtain ⟨nn, hnn⟩ : ∃ nn : Int, ((wordAt true L (o + p) : Nat) : Int) = nn := ⟨_, rfl⟩
            have HNN : Hid (nn = ((wordAt true L (o + p) : Nat) : Int)) := hnn.symm
            have hn0 : 0 ≤ nn := by omega
            have hn1 : nn < 4294967296 := by have := wordAt_lt true L (o + p); omega
            clear hnn
            have hoL : o + p + 4 ≤ L.length := by have := HO.out (by omega); omega
            have hcne : ¬ (c = p) := by omega
            have hwp : IntKind.i64.wrap (p : Int) = p := wrap64 p (by omega)
            have hpm : p ≤ m := by omega
            go_quiet ((go_at_call 44; exact Calls.quiet_of_same (refNumber_eq true L g (o + p) _ _ (by omega) hoL (by omega) _ (HCW.out.drewN _) nn HNN)))
            obtain ⟨T, hT⟩ : ∃ T : Int, (f + xa + z + nn) % 4294967296 = T := ⟨_, rfl⟩
            have hT0 : 0 ≤ T := by omega
            have hT1 : T < 4294967296 := by omega
            have HTT : Hid ((f + xa + z + nn) % 4294967296 = T) := hT
            rw [hT]
            clear hT
            obtain ⟨R, hR0, hR1, HR⟩ := rol_bounds T kk hT0 hT1 hk0 hk1
            have HNX : Hid (Is4 xd ((xb + R) % 4294967296) xb xc (md5Rounds L o (md5Blocks L k) (i + 1))) :=
              md5_next L o i xa xb xc xd f z nn kk T R p y _ HJ.out HFF.out HZ.out HNN.out HP.out HY.out HKK.out HTT.out HR.out
            clear hp hf hy hq hr hcne hwp hpm hn0 hn1 hoL hsinW HNN HFF HZ HP HY HKK HTT
            go_wp2_with (go_at_call 48; refine (refRol_eq T kk hT0 hT1 hk0 hk1 _ R HR).mono ?_; rintro e w2 ⟨rfl, hw2⟩; rw [hw2]; clear hw2 w2)
            go_roundw
            case rel => exact ⟨i + 1, xd, (xb + R) % 4294967296, xb, xc, by omega, by go_num, rfl, rfl, rfl, rfl, by omega, by omega, by omega, by omega, by omega, by omega, by omega, by omega, HNX, below_drewN HDW.out _⟩
            case measure => simp [intOf]; omega
          · obtain ⟨f, hf, hf0, hf1, HFF⟩ := f_four xb xc xd _ xa HOK.out HJ.out i (by omega)
            obtain ⟨y, hy⟩ : ∃ y : Nat, (7 * (i : Int)) % 16 = (y : Int) := ⟨(7 * i) % 16, by omega⟩
            have hy16 : y < 16 := by omega
            have HY : Hid (y = md5G i) := by
              show _ = _
              unfold md5G
              rw [if_neg (by omega), if_neg (by omega), if_neg (by omega)]
              omega
            have hq : (i : Int) / 16 = 3 := by omega
            obtain ⟨r, hr⟩ : ∃ r : Nat, (i : Int) % 4 = (r : Int) := ⟨i % 4, by omega⟩
            have hr4 : r < 4 := by omega
            obtain ⟨kk, hkk, hk0, hk1, HKK⟩ := tab3 i r hr4 hqn (by omega)
            go_wp2_with (go_at_call 46; refine (refNot _ (by omega) (by omega) _).mono ?_; rintro e w2 ⟨rfl, hw2⟩; rw [hw2]; clear hw2 w2)
            generalize hW : World.alloc (World.alloc (World.alloc (World.alloc (World.alloc _ _) _) _) _) _ = W
            have hBW : Below wr.heap.size wr W := by
              rw [← hW]
              exact (((((Below.refl _ _).alloc (Nat.le_refl _) _).alloc (by simp) _).alloc (by simp; omega) _).alloc (by simp; omega) _).alloc (by simp; omega) _
            have HCW : Hid (Cells W g L) := HC2.out.below hBW (Nat.lt_of_lt_of_le hgl HD.out.size)
            have HDW : Hid (Below w1.heap.size w1 W) := HD.out.trans (hBW.mono HD.out.size)
            have hsinW : W.cell? ⟨2, i, none⟩ = some (.int .u32 z) := by
              rw [← hsin]
              simp only [World.cell?, hBW.block _ (Nat.lt_of_lt_of_le HS1.out.2 HD.out.size)]
            clear hW hBW hsin HC2 HD
            obtain ⟨p, hp⟩ : ∃ p : Nat, 4 * (y : Int) = (p : Int) := ⟨4 * y, by omega⟩
            have hp1 : p ≤ 60 := by omega
            have HP : Hid (p = 4 * y) := by show _ = _; omega
            obtain ⟨nn, hnn⟩ : ∃ nn : Int, ((wordAt true L (o + p) : Nat) : Int) = nn := ⟨_, rfl⟩
            have HNN : Hid (nn = ((wordAt true L (o + p) : Nat) : Int)) := hnn.symm
            have hn0 : 0 ≤ nn := by omega
            have hn1 : nn < 4294967296 := by have := wordAt_lt true L (o + p); omega
            clear hnn
            have hoL : o + p + 4 ≤ L.length := by have := HO.out (by omega); omega
            have hcne : ¬ (c = p) := by omega
            have hwp : IntKind.i64.wrap (p : Int) = p := wrap64 p (by omega)
            have hpm : p ≤ m := by omega
            go_quiet ((go_at_call 44; exact Calls.quiet_of_same (refNumber_eq true L g (o + p) _ _ (by omega) hoL (by omega) _ (HCW.out.drewN _) nn HNN)))
            obtain ⟨T, hT⟩ : ∃ T : Int, (f + xa + z + nn) % 4294967296 = T := ⟨_, rfl⟩
            have hT0 : 0 ≤ T := by omega
            have hT1 : T < 4294967296 := by omega
            have HTT : Hid ((f + xa + z + nn) % 4294967296 = T) := hT
            rw [hT]
            clear hT
            obtain ⟨R, hR0, hR1, HR⟩ := rol_bounds T kk hT0 hT1 hk0 hk1
            have HNX : Hid (Is4 xd ((xb + R) % 4294967296) xb xc (md5Rounds L o (md5Blocks L k) (i + 1))) :=
              md5_next L o i xa xb xc xd f z nn kk T R p y _ HJ.out HFF.out HZ.out HNN.out HP.out HY.out HKK.out HTT.out HR.out
            clear hp hf hy hq hr hcne hwp hpm hn0 hn1 hoL hsinW HNN HFF HZ HP HY HKK HTT
            go_wp2_with (go_at_call 48; refine (refRol_eq T kk hT0 hT1 hk0 hk1 _ R HR).mono ?_; rintro e w2 ⟨rfl, hw2⟩; rw [hw2]; clear hw2 w2)
            go_roundw
            case rel => exact ⟨i + 1, xd, (xb + R) % 4294967296, xb, xc, by omega, by go_num, rfl, rfl, rfl, rfl, by omega, by omega, by omega, by omega, by omega, by omega, by omega, by omega, HNX, below_drewN HDW.out _⟩
            case measure => simp [intOf]; omega
        · obtain rfl : i = 64 := by omega
          have hrel2 : ∀ (o' : Nat), (0 < gk → o' = o + 64) → Hid (0 < gk → o' = 64 * (k + 1)) := by
            intro o' h
            show 0 < gk → _
            intro h2
            have h3 := HO.out (by omega)
            have h4 := h h2
            omega
          have HE : Hid (Is4 ((ya + xa) % 4294967296) ((yb + xb) % 4294967296) ((yc + xc) % 4294967296) ((yd + xd) % 4294967296) (md5Blocks L (k + 1))) := by
            obtain ⟨q1, q2, q3, q4⟩ := HI.out
            obtain ⟨r1, r2, r3, r4⟩ := HJ.out
            have h3 := HO.out (by omega)
            rw [md5Blocks, ← h3]
            refine ⟨?_, ?_, ?_, ?_⟩
            · rw [q1, r1, md5Add]; simp
            · rw [q2, r2, md5Add]; simp
            · rw [q3, r3, md5Add]; simp
            · rw [q4, r4, md5Add]; simp
          by_cases hc : c = 64
          · subst hc
            go_wp2
            go_roundg gk
            case measure => omega
            case rel => exact ⟨k + 1, _, _, _, _, _, _, _, by omega, hrel2 _ (by have := HM.out; omega), by show _ = _; have := HM.out; omega, by omega, rfl, rfl, rfl, rfl, rfl, by omega, by omega, by omega, by omega, by omega, by omega, by omega, by omega, HE, HD⟩
          · have hc2 : 64 < c := by omega
            go_wp2
            go_roundg gk
            case measure => omega
            case rel => exact ⟨k + 1, _, _, _, _, _, _, _, by omega, hrel2 _ (fun _ => rfl), by show _ = _; have := HM.out; omega, by omega, rfl, rfl, rfl, rfl, rfl, by omega, by omega, by omega, by omega, by omega, by omega, by omega, by omega, HE, HD⟩
end Go.Proofs.YtgajhmmildbkfaaGreatFmt

/- A row of ints that a call owns, told as a list of natural numbers. -/
namespace Go.Proofs.YtgajhmmildbkfaaGreatFmt
open Go.RowKit
def encI (l : List Nat) : List Value := l.map fun (n : Nat) => Value.int .i64 (n : Int)
theorem encI_length (l : List Nat) : (encI l).length = l.length := by simp [encI]
theorem encI_append (a b : List Nat) : encI (a ++ b) = encI a ++ encI b := by simp [encI]
def IRow (w : World) (B : Nat) (v : Value) (n : Nat) (l : List Nat) : Prop := l.length = n ∧ w.ownsRow B 3 1 v n (encI l)
theorem info3 : (Tryz.prog.info? 3).map (fun i => (i.zero, i.size, i.bytes)) = some (some (.int .i64 0), 1, 8) := by kernel_rfl
theorem IRow.cell {w : World} {B g n cap : Nat} {l : List Nat} (h : IRow w B (.slice (some ⟨g, 0, none⟩) n cap) n l) (j : Nat) (hj : j < n) : w.cell? ⟨g, j, none⟩ = some (.int .i64 ((l.getD j 0 : Nat) : Int)) := by
  rw [World.ownsRow.cellAt h.2 j (by omega)]
  have : j < l.length := by have := h.1; omega
  simp [encI, this]
theorem IRow.fro {w : World} {B g n cap : Nat} {l : List Nat} (h : IRow w B (.slice (some ⟨g, 0, none⟩) n cap) n l) (j : Nat) : w.frozen? ⟨g, j, none⟩ = false := World.ownsRow.frozenAt h.2 j
theorem IRow.form {w : World} {B n : Nat} {v : Value} {l : List Nat} (h : IRow w B v n l) (hn : 0 < n) : ∃ g cap, v = .slice (some ⟨g, 0, none⟩) n cap ∧ B ≤ g ∧ g < w.heap.size := World.ownsRow.form h.2 hn
theorem IRow.below {w w' : World} {B n H : Nat} {v : Value} {l : List Nat} (h : IRow w B v n l) (hb : Below H w w') (hv : ∀ g, v.ownBlock = some g → g < H) : IRow w' B v n l := by
  refine ⟨h.1, h.2.1, ?_⟩
  rcases h.2.2 with h2 | ⟨g, cap, cur, rfl, h3, h4, h5⟩
  · exact .inl h2
  · exact .inr ⟨g, cap, cur, rfl, h3, (hb.block g (hv g rfl)).trans h4, h5⟩
theorem wpList_append_I {ops : Array Oper} {rest : List Oper} {o : Oper} {a : Act} {Q : Exit → Act → World → Prop} (w : World) (hgd : o.guard = none) (s x : Operand)
    (ho : o.op = .call { callee := .builtin .append, args := #[s, x], argTypes := #[83, 83] })
    (B : Nat) (v : Value) (n : Nat) (l : List Nat) (hs : a.eval s = v) (hown : IRow w B v n l)
    (ad : Addr) (m c : Nat) (news : List Nat) (hx : a.eval x = .slice (some ad) m c) (hl : news.length = m) (hnews : ∀ j u, (encI news)[j]? = some u → w.cell? (ad.add j) = some u)
    (hm : 0 < m) (h63 : n + m ≤ 1000) (hbase : B ≤ w.heap.size)
    (h : ∀ g cap w', IRow w' B (.slice (some ⟨g, 0, none⟩) (n + m) cap) (n + m) (l ++ news) → w.grownBy w' v.ownBlock → (v.ownBlock = some g ∨ g = w.heap.size) → g < w'.heap.size → wpList Tryz.prog ops Q rest (a.put o.dst (.slice (some ⟨g, 0, none⟩) (n + m) cap)) w') : wpList Tryz.prog ops Q (o :: rest) a w := by
  obtain ⟨i0, hi0, hz0, hz1, hz2⟩ := info_parts info3
  refine wpList_append_lies w hgd s x 83 ho B 3 i0 (.int .i64 0) 1 8 Tryz.underlying83 hi0 hz0 hz1 hz2 rfl (by omega) v n (encI l) hs hown.2 ad m c (encI news) hx (by rw [encI_length]; omega) hnews ?_ hm (by unfold maxLen; omega) (by omega) hbase _ rfl ?_
  · intro u hu
    obtain ⟨y, _, rfl⟩ := List.mem_map.1 hu
    rfl
  · intro g cap w' h1 h2 h3 h4
    refine h g cap w' ⟨by rw [List.length_append, hown.1, hl], ?_⟩ h2 h3 h4
    rw [encI_append]
    exact h1
theorem append_I2 (w : World) (B : Nat) (ty : TypeId) (g n cap : Nat) (l : List Nat) (h : IRow w B (.slice (some ⟨g, 0, none⟩) n cap) n l)
    (ad : Addr) (m c : Nat) (news : List Nat) (hl : news.length = m) (hnews : ∀ j u, (encI news)[j]? = some u → w.cell? (ad.add j) = some u) (h63 : n + m ≤ 1000) (hbase : B ≤ w.heap.size) :
    ∃ g' cap' w', (Builtin.append_ #[83, 83] ty #[.slice (some ⟨g, 0, none⟩) n cap, .slice (some ad) m c]).run Tryz.prog w = .ok (.slice (some ⟨g', 0, none⟩) (n + m) cap') w' ∧
      IRow w' B (.slice (some ⟨g', 0, none⟩) (n + m) cap') (n + m) (l ++ news) ∧ w.grownBy w' (some g) ∧ g' < w'.heap.size ∧ ∀ j, j < n → w'.cell? ⟨g, j, none⟩ = w.cell? ⟨g, j, none⟩ := by
  obtain ⟨i, hi, hz, hsize, hby⟩ := info_parts info3
  obtain ⟨hn, _, h2⟩ := id h
  rcases h2 with ⟨h2, _⟩ | ⟨g0, cap0, cur, he, hB, hg, hnc, hcm, hcs, htake⟩
  · cases h2
  simp only [Value.slice.injEq, Option.some.injEq, Addr.mk.injEq, and_true, true_and] at he
  obtain ⟨rfl, rfl⟩ := he
  have hgl : g < w.heap.size := (Array.getElem?_eq_some_iff.1 hg).1
  have hnl : (encI news).length = m * i.size := by rw [encI_length, hl, hsize, Nat.mul_one]
  have h1 : ∀ u ∈ encI news, u.oneCell' = true := by
    intro u hu
    obtain ⟨x, _, rfl⟩ := List.mem_map.1 hu
    rfl
  have hlen : (encI (l ++ news)).length = (n + m) * 1 := by rw [encI_length, List.length_append, hn, hl, Nat.mul_one]
  by_cases hroom : n + m ≤ cap
  · have hr := run_append_room (P := Tryz.prog) w 83 ty 3 i Tryz.underlying83 hi g n cap cur hg ad m c (encI news) hnl hnews h1 hroom (by rw [hnl, hsize, hcs]; omega)
    rw [hsize, Nat.mul_one] at hr
    have hI : IRow (w.setRow g (cur.toList.take n ++ encI news ++ cur.toList.drop (n + (encI news).length)).toArray) B (.slice (some ⟨g, 0, none⟩) (n + m) cap) (n + m) (l ++ news) := by
      refine ⟨by rw [List.length_append, hn, hl], hlen, .inr ⟨g, cap, _, rfl, hB, setRow_heap w g cur _ 3 _ hg, hroom, hcm, ?_, ?_⟩⟩
      · simp [encI_length, hl]
        omega
      · have ht : cur.toList.take n = encI l := by simpa using htake
        rw [ht, ← hlen, encI_append]
        exact List.take_left
    refine ⟨g, cap, _, hr, hI, ⟨rfl, rfl, rfl, by simp, fun k _ hk => setRow_other w g k _ (fun e => hk (by simp [e]))⟩, by simpa using hgl, ?_⟩
    intro j hj
    rw [hI.cell j (by omega), h.cell j hj]
    simp [List.getD_eq_getElem?_getD, List.getElem?_append_left (show j < l.length by omega)]
  · have holds : ∀ j u, (encI l)[j]? = some u → w.cell? ((⟨g, 0, none⟩ : Addr).add j) = some u := h.2.cells (g := g) rfl
    have hr := run_append_grow (P := Tryz.prog) w 83 ty 3 i (.int .i64 0) Tryz.underlying83 hi hz ⟨g, 0, none⟩ n cap (encI l) (by rw [encI_length, hn, hsize, Nat.mul_one]) holds ad m c (encI news) hnl hnews (by omega) (by omega) (growslice_fits (by omega) (by rw [hby]; omega))
    have hge := grownCap_ge w (n + m) cap 3
    have hcm2 : grownCap w (n + m) cap 3 ≤ maxLen := grownCap_le_maxLen w (n + m) cap 3 (by unfold maxLen; omega)
    refine ⟨w.heap.size, _, _, hr, ⟨by rw [List.length_append, hn, hl], hlen, .inr ⟨w.heap.size, _, _, rfl, hbase, heap_alloc_new w.drew _, hge, hcm2, ?_, ?_⟩⟩, ⟨rfl, rfl, rfl, by simp, fun k hk _ => heap_alloc_old w.drew _ hk⟩, by simp, ?_⟩
    · have hz1 : (Value.int IntKind.i64 0).cells.size = 1 := rfl
      simp only [Array.size_append, List.size_toArray, size_zeroCells, hz1, encI_length, hn, hl]
      omega
    · simp only [Array.toList_append]
      rw [← hlen, encI_append]
      exact List.take_left
    · intro j _
      have hb : ∀ o : Obj, (w.drew.alloc o).heap[g]? = w.heap[g]? := fun o => heap_alloc_old w.drew _ hgl
      simp only [World.cell?, hb]
theorem step_append_I {ops : Array Oper} {o : Oper} {a : Act} {K : Act → World → Prop} {Q : Exit → Act → World → Prop} {E : Prop} (w : World) (hgd : o.guard = none) (s x : Operand)
    (ho : o.op = .call { callee := .builtin .append, args := #[s, x], argTypes := #[83, 83] })
    (B g n cap : Nat) (l : List Nat) (hs : a.eval s = .slice (some ⟨g, 0, none⟩) n cap) (hown : IRow w B (.slice (some ⟨g, 0, none⟩) n cap) n l)
    (ad : Addr) (m c : Nat) (news : List Nat) (hx : a.eval x = .slice (some ad) m c) (hl : news.length = m) (hnews : ∀ j u, (encI news)[j]? = some u → w.cell? (ad.add j) = some u)
    (h63 : n + m ≤ 1000) (hbase : B ≤ w.heap.size)
    (h : ∀ g' cap' w', IRow w' B (.slice (some ⟨g', 0, none⟩) (n + m) cap') (n + m) (l ++ news) → w.grownBy w' (some g) → g' < w'.heap.size → (∀ j, j < n → w'.cell? ⟨g, j, none⟩ = w.cell? ⟨g, j, none⟩) → K (a.put o.dst (.slice (some ⟨g', 0, none⟩) (n + m) cap')) w') :
    if Region.wanted o (yielded ops a.tmps) = true then Oper.wp Tryz.prog o a w K Q else E := by
  have hw : Region.wanted o (yielded ops a.tmps) = true := by simp [Region.wanted, hgd]
  rw [if_pos hw]
  obtain ⟨g', cap', w', hr, h2, h3, h4, h5⟩ := append_I2 w B o.type g n cap l hown ad m c news hl hnews h63 hbase
  unfold Oper.wp execOp
  simp only [ho, resolve, invoke, builtin, Sem.run_bind, Sem.run_pure, Result.andThen_ok, List.map_toArray, List.map_cons, List.map_nil, hs, hx, hr]
  exact h g' cap' w' h2 h3 h4 h5
theorem IRow.nil (w : World) (B : Nat) : IRow w B (.slice none 0 0) 0 [] := ⟨rfl, World.ownsRow_nil w B 3 1⟩
theorem IRow.alloc {w : World} {B n : Nat} {v : Value} {l : List Nat} (h : IRow w B v n l) (o : Obj) : IRow (w.alloc o) B v n l := ⟨h.1, h.2.alloc o⟩
theorem IRow.ge {w : World} {B n : Nat} {v : Value} {l : List Nat} (h : IRow w B v n l) : ∀ g, v.ownBlock = some g → B ≤ g := fun g hg => (h.2.lt g hg).1
theorem cell_oneI (w : World) (x : Nat) (X : Int) (hX : X = x) : ∀ j u, (encI [x])[j]? = some u → (w.alloc (.cells #[.int .i64 X] 3)).cell? ((⟨w.heap.size, 0, none⟩ : Addr).add j) = some u := by
  subst hX
  exact fun j u hj => cell_one_new w (.int .i64 (x : Int)) 3 j u hj
theorem IRow.le {w : World} {B g n cap : Nat} {l : List Nat} (h : IRow w B (.slice (some ⟨g, 0, none⟩) n cap) n l) : n ≤ cap := by
  rcases h.2.2 with ⟨h', _⟩ | ⟨g', cap', cur, h', _, _, hnc, _⟩
  · cases h'
  · simp only [Value.slice.injEq, Option.some.injEq, Addr.mk.injEq, and_true, true_and] at h'
    obtain ⟨rfl, rfl⟩ := h'
    exact hnc
theorem IRow.one (w : World) (B A : Nat) (X : Int) (hX : X = A) (hB : B ≤ w.heap.size) : IRow (w.alloc (.cells #[.int .i64 X] 3)) B (.slice (some ⟨w.heap.size, 0, none⟩) 1 1) 1 [A] := by
  subst hX
  exact ⟨rfl, rfl, .inr ⟨w.heap.size, 1, #[.int .i64 (A : Int)], rfl, hB, heap_alloc_new w _, Nat.le_refl _, by unfold maxLen; omega, rfl, rfl⟩⟩
theorem IRow.set {w : World} {B g n cap : Nat} {l : List Nat} (h : IRow w B (.slice (some ⟨g, 0, none⟩) n cap) n l) (j e : Nat) (X : Int) (hX : X = e) : IRow (w.setCell ⟨g, j, none⟩ (.int .i64 X)) B (.slice (some ⟨g, 0, none⟩) n cap) n (l.set j e) := by
  subst hX
  refine ⟨by rw [List.length_set]; exact h.1, ?_⟩
  have := (World.ownsRow.stored h.2 j (.int .i64 (e : Int))).1
  have e2 : encI (l.set j e) = (encI l).set j (.int .i64 (e : Int)) := by simp [encI, List.map_set]
  rw [e2]
  exact this
end Go.Proofs.YtgajhmmildbkfaaGreatFmt

/- The document's own SHA-256 is the sum over lists of bytes. -/
namespace Go.Proofs.YtgajhmmildbkfaaGreatFmt
open Go.RowKit
open Go.Extern.Stop Go.Stop Go.Extern

theorem begin_at (k : Nat) (h : k < 8) (w : World) : (Instr.index 85 (.agg #[Value.int .u32 1779033703, Value.int .u32 3144134277, Value.int .u32 1013904242, Value.int .u32 2773480762, Value.int .u32 1359893119, Value.int .u32 2600822924, Value.int .u32 528734635, Value.int .u32 1541459225]) (.int .i64 (k : Int))).run Tryz.prog w = .ok (.int .u32 ((beginL.getD k 0 : Nat) : Int)) w := by
  obtain rfl | rfl | rfl | rfl | rfl | rfl | rfl | rfl : k = 0 ∨ k = 1 ∨ k = 2 ∨ k = 3 ∨ k = 4 ∨ k = 5 ∨ k = 6 ∨ k = 7 := by omega
  all_goals kernel_rfl

theorem refRor_eq (n k : Int) (h0 : 0 ≤ n) (h1 : n < 4294967296) (hk0 : 1 ≤ k) (hk : k ≤ 32) (w : World) (r : Int) (HR : Hid (r = rorN n.toNat k.toNat)) :
    Calls Tryz.prog 45 #[.int .i64 n, .int .i64 k] w fun e w' => e = .returned (.int .i64 r) ∧ w' = w := by
  refine (refRor n k h0 h1 hk0 hk w).mono ?_
  rintro e w' ⟨r', rfl, _, _, HR', rfl⟩
  rw [HR.out, HR'.out]
  exact ⟨rfl, rfl⟩
theorem sig_small (x r1 r2 : Int) (k1 k2 d : Nat) (h0 : 0 ≤ x) (h1 : x < 4294967296) (H1 : r1 = rorN x.toNat k1) (H2 : r2 = rorN x.toNat k2) (D : Int) (hD : D = d) : ∃ z : Int, bits .xor .i64 (bits .xor .i64 r1 r2) (x / D) = z ∧ 0 ≤ z ∧ z < 4294967296 ∧ Hid (z = ((rorN x.toNat k1 ^^^ rorN x.toNat k2 ^^^ x.toNat / d : Nat) : Int)) := by
  obtain ⟨n, rfl⟩ : ∃ n : Nat, x = n := ⟨x.toNat, by omega⟩
  subst hD H1 H2
  simp only [Int.toNat_natCast]
  have a1 := rorN_lt n k1 (by omega)
  have a2 := rorN_lt n k2 (by omega)
  have a3 : n / d < 4294967296 := Nat.lt_of_le_of_lt (Nat.div_le_self _ _) (by omega)
  refine ⟨_, rfl, ?_⟩
  rw [← Int.natCast_ediv, xor64 _ _ a1 a2, xor64 _ _ (xor32_lt a1 a2) a3]
  have := xor32_lt (xor32_lt a1 a2) a3
  exact ⟨by omega, by omega, rfl⟩

theorem wrapId (n : Int) (h0 : 0 ≤ n) (h1 : n < 9223372036854775808) : IntKind.i64.wrap n = n := by
  simp [IntKind.wrap, IntKind.bits, IntKind.signed]
  omega
theorem new_val (x16 x7 sa sb A B : Int) (a0 : 0 ≤ x16) (a1 : x16 < 4294967296) (b0 : 0 ≤ x7) (b1 : x7 < 4294967296) (c0 : 0 ≤ sa) (c1 : sa < 4294967296) (d0 : 0 ≤ sb) (d1 : sb < 4294967296) (hA : A = sa) (hB : B = sb) (N : Nat) (hN : (x16 + x7 + sa + sb) % 4294967296 = (N : Int)) :
    (IntKind.i64.wrap (IntKind.i64.wrap (IntKind.i64.wrap (x16 + x7) + A) + B)).tmod 4294967296 = (N : Int) := by
  subst hA hB
  rw [wrapId (x16 + x7) (by omega) (by omega), wrapId (x16 + x7 + A) (by omega) (by omega), wrapId (x16 + x7 + A + B) (by omega) (by omega), Int.tmod_eq_emod_of_nonneg (by omega)]
  exact hN
theorem sig_div (x r1 r2 z D : Int) (h0 : 0 ≤ x) (h1 : x < 4294967296) (hD : 0 < D) (h : bits .xor .i64 (bits .xor .i64 r1 r2) (x / D) = z) : bits .xor .i64 (bits .xor .i64 r1 r2) (IntKind.i64.wrap (x.tdiv D)) = z := by
  have h2 : x / D ≤ x := Int.ediv_le_self _ h0
  have h3 : 0 ≤ x / D := Int.ediv_nonneg h0 (by omega)
  rw [Int.tdiv_eq_ediv_of_nonneg h0, wrapId _ h3 (by omega)]
  exact h

theorem mixL_self (V X : List Nat) (h : X.length = 8) : mixL V X 0 = X := by
  obtain ⟨a, b, c, d, e, f, g, i, rfl⟩ := eightN h
  simp [mixL, List.range_succ]
theorem shaAdd_comm (u v : List Nat) : shaAdd u v = shaAdd v u := by
  unfold shaAdd
  apply List.map_congr_left
  intro j _
  rw [Nat.add_comm]
theorem refRor_def (n k : Int) (h0 : 0 ≤ n) (h1 : n < 4294967296) (hk0 : 1 ≤ k) (hk : k ≤ 32) (w : World) :
    Calls Tryz.prog 45 #[.int .i64 n, .int .i64 k] w fun e w' => e = .returned (.int .i64 (rorI n k)) ∧ w' = w :=
  refRor_eq n k h0 h1 hk0 hk w _ rfl
theorem sig3I (n k1 k2 k3 : Nat) (j1 j2 j3 : Int) (e1 : j1 = k1) (e2 : j2 = k2) (e3 : j3 = k3) (h1 : n < 4294967296) : ∃ z : Nat, bits .xor .i64 (bits .xor .i64 (rorI n j1) (rorI n j2)) (rorI n j3) = (z : Int) ∧ Hid (z = (rorN n k1 ^^^ rorN n k2 ^^^ rorN n k3) ∧ z < 4294967296) := by
  subst e1 e2 e3
  have a1 := rorN_lt n k1 h1
  have a2 := rorN_lt n k2 h1
  have a3 := rorN_lt n k3 h1
  have := xor32_lt (xor32_lt a1 a2) a3
  refine ⟨_, ?_, rfl, this⟩
  simp only [rorI, Int.toNat_natCast]
  rw [xor64 _ _ a1 a2, xor64 _ _ (xor32_lt a1 a2) a3]
theorem chI (n m k : Nat) (h1 : n < 4294967296) (h2 : m < 4294967296) (h3 : k < 4294967296) : ∃ z : Nat, bits .xor .i64 (bits .and .i64 (n : Int) (m : Int)) (bits .and .i64 (4294967295 - (n : Int)) (k : Int)) = (z : Int) ∧ Hid (z = ((n &&& m) ^^^ (notN n &&& k)) ∧ z < 4294967296) := by
  have a1 : n &&& m < 4294967296 := and32_lt h2
  have a2 : notN n &&& k < 4294967296 := and32_lt h3
  refine ⟨_, ?_, rfl, xor32_lt a1 a2⟩
  rw [notCast _ h1, and64 _ _ h1 h2, and64 _ _ (notN_lt _) h3, xor64 _ _ a1 a2]
theorem majI (n m k : Nat) (h1 : n < 4294967296) (h2 : m < 4294967296) (h3 : k < 4294967296) : ∃ z : Nat, bits .xor .i64 (bits .xor .i64 (bits .and .i64 (n : Int) (m : Int)) (bits .and .i64 (n : Int) (k : Int))) (bits .and .i64 (m : Int) (k : Int)) = (z : Int) ∧ Hid (z = ((n &&& m) ^^^ (n &&& k) ^^^ (m &&& k)) ∧ z < 4294967296) := by
  have a1 : n &&& m < 4294967296 := and32_lt h2
  have a2 : n &&& k < 4294967296 := and32_lt h3
  have a3 : m &&& k < 4294967296 := and32_lt h3
  refine ⟨_, ?_, rfl, xor32_lt (xor32_lt a1 a2) a3⟩
  rw [and64 _ _ h1 h2, and64 _ _ h1 h3, and64 _ _ h2 h3, xor64 _ _ a1 a2, xor64 _ _ (xor32_lt a1 a2) a3]
set_option maxHeartbeats 8000000 in
set_option maxRecDepth 100000 in
theorem refSha (F : Interp) (s : ByteArray) (hs : s.size ≤ 1000) (w : World) (hF : F.told.answers w.tape) (HB0 : Hid (Begin w)) (HR0 : Hid (Roots w)) :
    Calls Tryz.prog 32 #[.string s] w fun e w' => e = .returned (.string (bs (hexL (shaL s.data.toList)))) ∧ Below w.heap.size w w' := by
  have b0 := HB0.out.1 0 (by omega)
  have b1 := HB0.out.1 1 (by omega)
  have b2 := HB0.out.1 2 (by omega)
  have b3 := HB0.out.1 3 (by omega)
  have b4 := HB0.out.1 4 (by omega)
  have b5 := HB0.out.1 5 (by omega)
  have b6 := HB0.out.1 6 (by omega)
  have b7 := HB0.out.1 7 (by omega)
  simp only [beginL, List.getD_cons_zero, List.getD_cons_succ] at b0 b1 b2 b3 b4 b5 b6 b7
  go_enter Tryz.func32, Tryz.ntmps32
  go_wp2
  clear b0 b1 b2 b3 b4 b5 b6 b7 HB0
  go_loopw [3, 20] (fun v i wr => ∃ (k : Nat), k ≤ 8 ∧ i = .int .i64 k ∧ Hid (IRow wr w.heap.size v k (beginL.take k)) ∧ Below w.heap.size w wr) (fun _ i _ => 8 - (intOf i).toNat)
  case atStart => exact ⟨0, by omega, rfl, IRow.nil _ _, Below.refl _ _⟩
  case round =>
    obtain ⟨k, hk, rfl, HI, hb⟩ := hrel
    have hwr := hb.size
    by_cases hlt : k < 8
    · obtain ⟨X, hx⟩ : ∃ X : Int, ((beginL.getD k 0 : Nat) : Int) = X := ⟨_, rfl⟩
      have HXX : Hid (X = ((beginL.getD k 0 : Nat) : Int)) := hx.symm
      have hx0 : 0 ≤ X := by omega
      have hx1 : X < 4294967296 := by have := begin_lt k hlt; omega
      have hat := begin_at k hlt wr
      rw [hx] at hat
      have HT : Hid (beginL.take (k + 1) = beginL.take k ++ [beginL.getD k 0]) := by
        show _ = _
        rw [List.take_succ_eq_append_getElem (by simpa [beginL] using hlt)]
        simp [List.getD_eq_getElem?_getD, show k < beginL.length by simpa [beginL] using hlt]
      clear hx
      go_wp2_with (at_builtin; refine wpList_append_I _ rfl _ _ rfl w.heap.size _ k (beginL.take k) rfl (HI.out.alloc _) ⟨_, 0, none⟩ 1 1 [beginL.getD k 0] rfl rfl (cell_oneI wr _ X HXX.out) (by omega) (by omega) (by simp; omega) ?_; intro g1 cap1 w1 hM1 hg1 hat1 hlt1)
      go_roundw
      case rel =>
        refine ⟨k + 1, by omega, by go_num, ?_, (hb.alloc hwr _).grown hg1 (by simp; omega) (fun q hq => HI.out.ge q hq)⟩
        rw [HT.out]
        exact hM1
      case measure => simp [intOf]; omega
    · obtain rfl : k = 8 := by omega
      obtain ⟨gh, ch, rfl, hgh0, hgh1⟩ := HI.out.form (by omega)
      have HH : Hid (IRow wr w.heap.size (.slice (some ⟨gh, 0, none⟩) 8 ch) 8 beginL) := HI
      clear HI
      have HB1 : Hid (Below w.heap.size w wr) := hb
      clear hb
      go_wp2_with (go_at_call 43; refine (refPad false s hs _).mono ?_; rintro e w1 ⟨g, n, cap, rfl, hn, hnc, hgw, hgl, HC, hb1⟩; have HN : Hid (n = (s.size + 72) / 64 * 64) := hn; clear hn)
      obtain ⟨K, hK⟩ : ∃ K, (s.size + 72) / 64 = K := ⟨_, rfl⟩
      have hK2 : K ≤ 20 := by omega
      have HN2 : Hid (n = 64 * K) := by show _ = _; have := HN.out; omega
      obtain ⟨L, hL⟩ : ∃ L, padL false s.data.toList = L := ⟨_, rfl⟩
      have hLl : L.length = 64 * K := by rw [← hL, padL_length]; simp; omega
      rw [hL] at HC
      have HG : Hid (shaL s.data.toList = (shaBlocks L K).flatMap be4) := by
        show _ = _
        rw [shaL, hL, ← hK]
        simp
      have HB2 : Hid (Below w.heap.size w w1) := HB1.out.trans (hb1.mono HB1.out.size)
      have HH2 : Hid (IRow w1 w.heap.size (.slice (some ⟨gh, 0, none⟩) 8 ch) 8 beginL) := HH.out.below hb1 (fun q hq => by simp only [Value.ownBlock, Option.some.injEq] at hq; omega)
      have hgne : gh ≠ g := by omega
      have hghl : gh < w1.heap.size := Nat.lt_of_lt_of_le hgh1 hb1.size
      clear hL hK HN HH HB1 hb1 hgh1 hgw
      go_loopg [6] K (fun gk vs wx => ∃ (k o m c : Nat), k + gk = K ∧ Hid (0 < gk → o = 64 * k) ∧ Hid (m = 64 * gk) ∧ m ≤ c ∧ vs = .slice (some ⟨g, o, none⟩) m c ∧ Hid (IRow wx w.heap.size (.slice (some ⟨gh, 0, none⟩) 8 ch) 8 (shaBlocks L k)) ∧ Hid (Cells wx g L) ∧ Hid (Below w.heap.size w wx) ∧ gh < wx.heap.size ∧ g < wx.heap.size)
      case atStart => exact ⟨0, 0, n, cap, by omega, fun _ => rfl, HN2, hnc, rfl, HH2, HC, HB2, hghl, hgl⟩
      case round =>
        obtain ⟨k, o, m, c, hk, HO, HM, hmc, rfl, HH, HCX, HB, hghx, hgx⟩ := hrel
        clear HN2 HC HB2 HH2 hghl hgl
        cases gk with
        | zero =>
          as_aux_lemma =>
            obtain rfl : m = 0 := HM.out
            obtain rfl : k = K := by omega
            go_wp2
            go_loopw [16, 219] (fun v i wx => ∃ (j : Nat) (t : ByteArray), j ≤ 8 ∧ i = .int .i64 j ∧ v = .string t ∧ t.size = 8 * j ∧ Hid (t = bs (hexL (((shaBlocks L k).take j).flatMap be4))) ∧ Hid (Below wr.heap.size wr wx)) (fun _ i _ => 8 - (intOf i).toNat)
            case atStart => exact ⟨0, _, by omega, rfl, rfl, rfl, rfl, Below.refl _ _⟩
            case round =>
              obtain ⟨j, t, hj, rfl, rfl, htz, HT, HBX⟩ := hrel
              by_cases hlt : j < 8
              · obtain ⟨X, hX⟩ : ∃ X : Int, (((shaBlocks L k).getD j 0 : Nat) : Int) = X := ⟨_, rfl⟩
                have HX : Hid (X = (((shaBlocks L k).getD j 0 : Nat) : Int)) := hX.symm
                have hx0 : 0 ≤ X := by omega
                have hx1 : X < 4294967296 := by have := shaBlocks_lt L k j hlt; omega
                have hcell := (HH.out.below HBX.out (fun q hq => by simp only [Value.ownBlock, Option.some.injEq] at hq; omega)).cell j hlt
                rw [hX] at hcell
                clear hX
                go_wp2_with (go_at_call 47; refine (refDigits F false X hx0 hx1 _ (by rw [HBX.out.tape, HB.out.tape]; exact hF)).mono ?_; rintro e w2 ⟨u, rfl, hu, HU, hb2⟩)
                go_roundw
                case rel =>
                  refine ⟨j + 1, t ++ u, by omega, by go_num, rfl, by simp [htz, hu]; omega, ?_, HBX.out.trans (hb2.mono HBX.out.size)⟩
                  show _ = _
                  have e : (shaBlocks L k).take (j + 1) = (shaBlocks L k).take j ++ [(shaBlocks L k).getD j 0] := by
                    have hl : j < (shaBlocks L k).length := by rw [shaBlocks_length]; exact hlt
                    rw [List.take_succ_eq_append_getElem hl]
                    simp [List.getD_eq_getElem?_getD, hl]
                  rw [e, List.flatMap_append, hexL_append, bs_append, HT.out, HU.out, HX.out]
                  simp
                case measure => simp [intOf]; omega
              · obtain rfl : j = 8 := by omega
                go_wp2
                go_ret
                refine ⟨ret_str ?_, HB.out.trans (HBX.out.mono HB.out.size)⟩
                rw [HT.out, HG.out, List.take_of_length_le (by rw [shaBlocks_length]; omega)]
        | succ gk =>
          have hm2 : 64 ≤ m := by have := HM.out; omega
          have hm3 : m ≤ 1280 := by have := HM.out; omega
          obtain ⟨W0, hW0⟩ : ∃ W0 : World, W0 = wr := ⟨_, rfl⟩
          subst hW0
          go_wp2
          have hdm : decide (0 < m) = true := by simp; omega
          rw [hdm]
          clear hdm
          go_loopw [7, 36] (fun v i wx => ∃ (i' : Nat), i' ≤ 64 ∧ i = .int .i64 i' ∧ Hid (IRow wx W0.heap.size v i' (shaW L o i')) ∧ Hid (Below W0.heap.size W0 wx)) (fun _ i _ => 64 - (intOf i).toNat)
          case atStart => exact ⟨0, by omega, rfl, IRow.nil _ _, Below.refl _ _⟩
          case round =>
            obtain ⟨i, hi, rfl, HI, HBX⟩ := hrel
            have hwr := HBX.out.size
            by_cases hlt : i < 64
            · by_cases h16 : i < 16
              · obtain ⟨p, hp⟩ : ∃ p : Nat, 4 * (i : Int) = (p : Int) := ⟨4 * i, by omega⟩
                have hp1 : p ≤ 60 := by omega
                have HP : Hid (p = 4 * i) := by show _ = _; omega
                have hcne : ¬ (c = p) := by omega
                have hpm : p ≤ m := by omega
                have hoL : o + p + 4 ≤ L.length := by have := HO.out (by omega); omega
                have HCW : Hid (Cells wr g L) := HCX.out.block (HBX.out.block _ hgx)
                go_wp2_with (first
                  | (go_at_call 44; refine (refNumber false L g (o + p) _ _ (by omega) hoL (by omega) _ HCW).mono ?_; rintro e w2 ⟨r, rfl, hr0, hr1, HR, hw2⟩; rw [hw2]; clear hw2 w2)
                  | (at_builtin; refine wpList_append_I _ rfl _ _ rfl W0.heap.size _ i (shaW L o i) rfl (HI.out.alloc _) ⟨_, 0, none⟩ 1 1 [wordAt false L (o + p)] rfl rfl (cell_oneI wr _ r HR.out) (by omega) (by omega) (by simp; omega) ?_; intro g1 cap1 w1 hM1 hg1 hat1 hlt1))
                go_roundw
                case rel =>
                  refine ⟨i + 1, by omega, by go_num, ?_, (HBX.out.alloc hwr _).grown hg1 (by simp; omega) (fun q hq => HI.out.ge q hq)⟩
                  show IRow _ _ _ _ _
                  rw [shaW_succ, shaNew, if_pos h16, ← HP.out]
                  exact hM1
                case measure => simp [intOf]; omega
              · as_aux_lemma =>
                  obtain ⟨gw, cw, rfl, hgw0, hgw1⟩ := HI.out.form (by omega)
                  obtain ⟨p15, e15⟩ : ∃ p : Nat, (i : Int) - 15 = (p : Int) := ⟨i - 15, by omega⟩
                  obtain ⟨p2, e2⟩ : ∃ p : Nat, (i : Int) - 2 = (p : Int) := ⟨i - 2, by omega⟩
                  obtain ⟨p16, e16⟩ : ∃ p : Nat, (i : Int) - 16 = (p : Int) := ⟨i - 16, by omega⟩
                  obtain ⟨p7, e7⟩ : ∃ p : Nat, (i : Int) - 7 = (p : Int) := ⟨i - 7, by omega⟩
                  have l15 : p15 < i := by omega
                  have l2 : p2 < i := by omega
                  have l16 : p16 < i := by omega
                  have l7 : p7 < i := by omega
                  have w15 : IntKind.i64.wrap (p15 : Int) = p15 := wrap64 _ (by omega)
                  have w2 : IntKind.i64.wrap (p2 : Int) = p2 := wrap64 _ (by omega)
                  have w16 : IntKind.i64.wrap (p16 : Int) = p16 := wrap64 _ (by omega)
                  have w7 : IntKind.i64.wrap (p7 : Int) = p7 := wrap64 _ (by omega)
                  have HPS : Hid (p15 = i - 15 ∧ p2 = i - 2 ∧ p16 = i - 16 ∧ p7 = i - 7) := by show _ ∧ _; omega
                  obtain ⟨x15, hx15⟩ : ∃ x : Int, (((shaW L o i).getD p15 0 : Nat) : Int) = x := ⟨_, rfl⟩
                  obtain ⟨x2, hx2⟩ : ∃ x : Int, (((shaW L o i).getD p2 0 : Nat) : Int) = x := ⟨_, rfl⟩
                  obtain ⟨x16, hx16⟩ : ∃ x : Int, (((shaW L o i).getD p16 0 : Nat) : Int) = x := ⟨_, rfl⟩
                  obtain ⟨x7, hx7⟩ : ∃ x : Int, (((shaW L o i).getD p7 0 : Nat) : Int) = x := ⟨_, rfl⟩
                  have q15 := shaW_lt L o i p15
                  have q2 := shaW_lt L o i p2
                  have q16 := shaW_lt L o i p16
                  have q7 := shaW_lt L o i p7
                  have k15 := HI.out.cell p15 l15
                  have k2 := HI.out.cell p2 l2
                  have k16 := HI.out.cell p16 l16
                  have k7 := HI.out.cell p7 l7
                  rw [hx15] at k15
                  rw [hx2] at k2
                  rw [hx16] at k16
                  rw [hx7] at k7
                  have y15 : 0 ≤ x15 ∧ x15 < 4294967296 := by omega
                  have y2 : 0 ≤ x2 ∧ x2 < 4294967296 := by omega
                  have y16 : 0 ≤ x16 ∧ x16 < 4294967296 := by omega
                  have y7 : 0 ≤ x7 ∧ x7 < 4294967296 := by omega
                  obtain ⟨u15, v15⟩ := y15
                  obtain ⟨u2, v2⟩ := y2
                  obtain ⟨u16, v16⟩ := y16
                  obtain ⟨u7, v7⟩ := y7
                  have HXS : Hid (x15 = (((shaW L o i).getD p15 0 : Nat) : Int) ∧ x2 = (((shaW L o i).getD p2 0 : Nat) : Int) ∧ x16 = (((shaW L o i).getD p16 0 : Nat) : Int) ∧ x7 = (((shaW L o i).getD p7 0 : Nat) : Int)) := ⟨hx15.symm, hx2.symm, hx16.symm, hx7.symm⟩
                  clear hx15 hx2 hx16 hx7 q15 q2 q16 q7
                  obtain ⟨ra, ra0, ra1, HRA⟩ := ror_bounds x15 7 u15 v15
                  obtain ⟨rb, rb0, rb1, HRB⟩ := ror_bounds x15 18 u15 v15
                  obtain ⟨rc, rc0, rc1, HRC⟩ := ror_bounds x2 17 u2 v2
                  obtain ⟨rd, rd0, rd1, HRD⟩ := ror_bounds x2 19 u2 v2
                  obtain ⟨sa, hsa, sa0, sa1, HSA⟩ := sig_small x15 ra rb 7 18 8 u15 v15 HRA.out HRB.out 8 rfl
                  obtain ⟨sb, hsb, sb0, sb1, HSB⟩ := sig_small x2 rc rd 17 19 1024 u2 v2 HRC.out HRD.out 1024 rfl
                  have HNW : Hid ((x16 + x7 + sa + sb) % 4294967296 = ((shaNew L o i : Nat) : Int)) := by
                    show _ = _
                    obtain ⟨z1, z2, z3, z4⟩ := HPS.out
                    obtain ⟨z5, z6, z7, z8⟩ := HXS.out
                    rw [shaNew, if_neg h16, ← z1, ← z2, ← z3, ← z4, HSA.out, HSB.out]
                    have t15 : x15.toNat = (shaW L o i).getD p15 0 := by omega
                    have t2 : x2.toNat = (shaW L o i).getD p2 0 := by omega
                    rw [t15, t2, z7, z8]
                    omega
                  have HVAL : Hid ((IntKind.i64.wrap (IntKind.i64.wrap (IntKind.i64.wrap (x16 + x7) + bits .xor .i64 (bits .xor .i64 ra rb) (IntKind.i64.wrap (x15.tdiv 8))) + bits .xor .i64 (bits .xor .i64 rc rd) (IntKind.i64.wrap (x2.tdiv 1024)))).tmod 4294967296 = ((shaNew L o i : Nat) : Int)) :=
                    new_val x16 x7 sa sb _ _ u16 v16 u7 v7 sa0 sa1 sb0 sb1 (sig_div x15 ra rb sa 8 u15 v15 (by omega) hsa) (sig_div x2 rc rd sb 1024 u2 v2 (by omega) hsb) _ HNW.out
                  clear HPS HXS HSA HSB HNW
                  go_wp2
                  go_quiet (fail)
                  go_wp2
                  generalize hW1 : wr.drewN nq = W1
                  have hbW : Below wr.heap.size wr W1 := by rw [← hW1]; exact below_drewN (Below.refl _ _) _
                  have HI1 : Hid (IRow W1 W0.heap.size (.slice (some ⟨gw, 0, none⟩) i cw) i (shaW L o i)) := HI.out.below hbW (fun q hq => by simp only [Value.ownBlock, Option.some.injEq] at hq; omega)
                  have HB1 : Hid (Below W0.heap.size W0 W1) := HBX.out.trans (hbW.mono hwr)
                  have z16 : W1.cell? ⟨gw, p16, none⟩ = some (.int .i64 x16) := by rw [← k16]; simp only [World.cell?, hbW.block gw hgw1]
                  have z7 : W1.cell? ⟨gw, p7, none⟩ = some (.int .i64 x7) := by rw [← k7]; simp only [World.cell?, hbW.block gw hgw1]
                  have hgw2 : gw < W1.heap.size := Nat.lt_of_lt_of_le hgw1 hbW.size
                  have hwW : W0.heap.size ≤ W1.heap.size := HB1.out.size
                  clear hW1 hbW HI HBX k16 k7 k15 k2 hgw1 hwr e15 e2 w15 w2 l15 l2
                  clear HH HCX HB HG HR0 HO HM
                  clear hgne hghx hgx hmc hm2 hm3 hnc hF
                  go_region_held3 (fun w' => w'.cell? ⟨gw, p16, none⟩ = some (.int .i64 x16) ∧ w'.cell? ⟨gw, p7, none⟩ = some (.int .i64 x7)) (go_keep)
                    ((first
                      | (go_at_call 45; refine (refRor_eq x15 7 u15 v15 (by omega) (by omega) _ ra HRA).mono ?_; rintro e w2 ⟨rfl, rfl⟩)
                      | (go_at_call 45; refine (refRor_eq x15 18 u15 v15 (by omega) (by omega) _ rb HRB).mono ?_; rintro e w2 ⟨rfl, rfl⟩)
                      | (go_at_call 45; refine (refRor_eq x2 17 u2 v2 (by omega) (by omega) _ rc HRC).mono ?_; rintro e w2 ⟨rfl, rfl⟩)
                      | (go_at_call 45; refine (refRor_eq x2 19 u2 v2 (by omega) (by omega) _ rd HRD).mono ?_; rintro e w2 ⟨rfl, rfl⟩)
                      | (refine step_append_I _ (by rfl) _ _ (by rfl) W0.heap.size gw i cw (shaW L o i) (by rfl)
                          (HI1.out.below (H := W1.heap.size) (((Below.refl _ _).alloc (Nat.le_refl _) _).drew) (fun q hq => by simp only [Value.ownBlock, Option.some.injEq] at hq; omega))
                          ⟨_, 0, none⟩ 1 1 [shaNew L o i] (by rfl) (by rfl) (fun j u hj => cell_oneI W1 _ _ HVAL.out j u hj) (by omega) (by simp; omega) ?_; intro g3 cap3 w3 hM3 hg3 hlt3 hsame3)))
                  have hB3 : Below W0.heap.size W0 w3 := by
                    refine Below.grown ?_ hg3 ?_ ?_
                    · exact (HB1.out.alloc hwW _).drew
                    · simp; omega
                    · intro q hq
                      simp only [Option.some.injEq] at hq
                      omega
                  go_wp2
                  go_roundw
                  case rel =>
                    refine ⟨i + 1, by omega, by go_num, ?_, hB3⟩
                    show IRow _ _ _ _ _
                    rw [shaW_succ]
                    exact hM3
                  case measure => simp [intOf]; omega
            · obtain rfl : i = 64 := by omega
              obtain ⟨gw, cw, rfl, hgw0, hgw1⟩ := HI.out.form (by omega)
              have hX8 := shaBlocks_length L k
              have hXl : ∀ j, (shaBlocks L k).getD j 0 < 4294967296 := fun j => by
                by_cases hj : j < 8
                · exact shaBlocks_lt L k j hj
                · rw [List.getD_eq_getElem?_getD, List.getElem?_eq_none (by omega)]
                  decide
              have hWl := shaW_lt L o 64
              have HX1 : Hid (shaBlocks L (k + 1) = shaAdd (shaBlocks L k) (shaRounds (shaW L o 64) (shaBlocks L k) 64)) := by
                show _ = _
                rw [shaBlocks, HO.out (by omega)]
              obtain ⟨X, hX⟩ : ∃ X, shaBlocks L k = X := ⟨_, rfl⟩
              obtain ⟨WL, hWL⟩ : ∃ WL, shaW L o 64 = WL := ⟨_, rfl⟩
              rw [hX] at HH hX8 hXl HX1
              rw [hWL] at HI hWl HX1
              clear hX hWL
              have HHr : Hid (IRow wr w.heap.size (.slice (some ⟨gh, 0, none⟩) 8 ch) 8 X) := HH.out.below HBX.out (fun q hq => by simp only [Value.ownBlock, Option.some.injEq] at hq; omega)
              have hwr := HBX.out.size
              clear HH
              go_wp2_with (at_builtin; refine wpList_append_I wr rfl _ _ rfl wr.heap.size _ 0 [] rfl (IRow.nil _ _) ⟨gh, 0, none⟩ 8 ch X rfl hX8 (HHr.out.2.cells (g := gh) rfl) (by omega) (by omega) (Nat.le_refl _) ?_; intro g3 cap3 w3 hM3 hg3 hat3 hlt3; have hg3' : wr.grownBy w3 none := hg3)
              have hB3 : Below wr.heap.size wr w3 := (Below.refl _ _).grown hg3' (Nat.le_refl _) (by simp)
              have HM3 : Hid (IRow w3 wr.heap.size (.slice (some ⟨g3, 0, none⟩) 8 cap3) 8 X) := by show IRow _ _ _ _ _; simpa using hM3
              obtain ⟨B2, hB2⟩ : ∃ B2, wr.heap.size = B2 := ⟨_, rfl⟩
              rw [hB2] at HM3 hgw1 hwr hB3
              have HI3 : Hid (IRow w3 W0.heap.size (.slice (some ⟨gw, 0, none⟩) 64 cw) 64 WL) := HI.out.below hB3 (fun q hq => by simp only [Value.ownBlock, Option.some.injEq] at hq; omega)
              have HH3 : Hid (IRow w3 w.heap.size (.slice (some ⟨gh, 0, none⟩) 8 ch) 8 X) := HHr.out.below hB3 (fun q hq => by simp only [Value.ownBlock, Option.some.injEq] at hq; omega)
              have HB3 : Hid (Below W0.heap.size W0 w3) := HBX.out.trans (hB3.mono (by omega))
              have hs3 : B2 ≤ w3.heap.size := by rw [← hB2]; exact hB3.size
              clear hM3 hg3 hg3' hat3 hB3 HI HHr HBX hB2
              have hg3B : B2 ≤ g3 := HM3.out.ge g3 rfl
              go_loopw [11, 95] (fun vv vi wx => ∃ (i gv cv : Nat), i ≤ 64 ∧ vi = .int .i64 i ∧ vv = .slice (some ⟨gv, 0, none⟩) 8 cv ∧ Hid (IRow wx B2 (.slice (some ⟨gv, 0, none⟩) 8 cv) 8 (shaRounds WL X i)) ∧ B2 ≤ gv ∧ gv < wx.heap.size ∧ Hid (Below B2 w3 wx)) (fun _ i _ => 64 - (intOf i).toNat)
              case atStart => exact ⟨0, g3, cap3, by omega, rfl, rfl, HM3, hg3B, hlt3, Below.refl _ _⟩
              case round =>
                obtain ⟨i, gv, cv, hi2, rfl, rfl, HV, hgv0, hgv1, HD⟩ := hrel
                clear HM3 hlt3 hg3B
                have hwr2 := HD.out.size
                by_cases hlt : i < 64
                · as_aux_lemma =>
                    have hv8 := HV.out.1
                    have hvl := shaRounds_lt WL X hXl i
                    obtain ⟨v, hv⟩ : ∃ v, shaRounds WL X i = v := ⟨_, rfl⟩
                    have HVV : Hid (shaRounds WL X (i + 1) = shaStep WL i v) := by show _ = _; rw [shaRounds, hv]
                    rw [hv] at HV hv8 hvl
                    clear hv
                    obtain ⟨n0, n1, n2, n3, n4, n5, n6, n7, rfl⟩ := eightN hv8
                    have k0 := HV.out.cell 0 (by omega)
                    have k1 := HV.out.cell 1 (by omega)
                    have k2 := HV.out.cell 2 (by omega)
                    have k3 := HV.out.cell 3 (by omega)
                    have k4 := HV.out.cell 4 (by omega)
                    have k5 := HV.out.cell 5 (by omega)
                    have k6 := HV.out.cell 6 (by omega)
                    have k7 := HV.out.cell 7 (by omega)
                    have l0 := hvl 0
                    have l1 := hvl 1
                    have l2 := hvl 2
                    have l3 := hvl 3
                    have l4 := hvl 4
                    have l5 := hvl 5
                    have l6 := hvl 6
                    have l7 := hvl 7
                    simp only [List.getD_cons_zero, List.getD_cons_succ] at k0 k1 k2 k3 k4 k5 k6 k7 l0 l1 l2 l3 l4 l5 l6 l7
                    obtain ⟨z, hz⟩ : ∃ z : Nat, rootsL.getD i 0 = z := ⟨_, rfl⟩
                    have hz1 : z < 4294967296 := by rw [← hz]; exact roots_lt i hlt
                    have hroot : wr.cell? ⟨1, i, none⟩ = some (.int .u32 (z : Int)) := by
                      have := HR0.out.1 i hlt
                      have hgs := HR0.out.2
                      have q1 := HB.out.size
                      rw [hz] at this
                      rw [← this]
                      simp only [World.cell?, HD.out.block _ (Nat.lt_of_lt_of_le hgs (by omega)), HB3.out.block _ (Nat.lt_of_lt_of_le hgs (by omega)), HB.out.block _ hgs]
                    obtain ⟨nn, hnn⟩ : ∃ nn : Nat, WL.getD i 0 = nn := ⟨_, rfl⟩
                    have hnn1 : nn < 4294967296 := by rw [← hnn]; exact hWl i
                    have hword : wr.cell? ⟨gw, i, none⟩ = some (.int .i64 (nn : Int)) := by
                      rw [← hnn, ← HI3.out.cell i hlt]
                      simp only [World.cell?, HD.out.block gw hgw1]
                    obtain ⟨S1, hS1, HS1⟩ := sig3I n4 6 11 25 6 11 25 rfl rfl rfl l4
                    obtain ⟨S0, hS0, HS0⟩ := sig3I n0 2 13 22 2 13 22 rfl rfl rfl l0
                    obtain ⟨CH, hCH, HCH⟩ := chI n4 n5 n6 l4 l5 l6
                    obtain ⟨MJ, hMJ, HMJ⟩ := majI n0 n1 n2 l0 l1 l2
                    have b1 : S1 < 4294967296 := HS1.out.2
                    have b2 : S0 < 4294967296 := HS0.out.2
                    have b3 : CH < 4294967296 := HCH.out.2
                    have b4 : MJ < 4294967296 := HMJ.out.2
                    clear hv8 hvl
                    go_wp2
                    go_quiet ((first
                      | (go_at_call 45; exact Calls.quiet_of_same (refRor_def _ _ (by omega) (by omega) (by omega) (by omega) _))
                      | (go_at_call 46; exact Calls.quiet_of_same (refNot _ (by omega) (by omega) _))))
                    obtain ⟨T, hT⟩ : ∃ T : Nat, shaT WL i [n0, n1, n2, n3, n4, n5, n6, n7] = T := ⟨_, rfl⟩
                    obtain ⟨U, hU⟩ : ∃ U : Nat, shaU [n0, n1, n2, n3, n4, n5, n6, n7] = U := ⟨_, rfl⟩
                    have eT : (n7 : Int) + S1 + CH + z + nn = (T : Int) := by
                      rw [← hT, shaT]
                      simp only [List.getD_cons_zero, List.getD_cons_succ]
                      rw [← HS1.out.1, ← HCH.out.1, hz, hnn]
                      omega
                    have eU : (S0 : Int) + MJ = (U : Int) := by
                      rw [← hU, shaU]
                      simp only [List.getD_cons_zero, List.getD_cons_succ]
                      rw [← HS0.out.1, ← HMJ.out.1]
                      omega
                    have HT : Hid (shaT WL i [n0, n1, n2, n3, n4, n5, n6, n7] = T) := hT
                    have HU : Hid (shaU [n0, n1, n2, n3, n4, n5, n6, n7] = U) := hU
                    have bT : T < 21474836480 := by omega
                    have bU : U < 8589934592 := by omega
                    have EU : Hid ((S0 : Int) + MJ = (U : Int)) := eU
                    rw [eT]
                    clear eT eU hT hU hz hnn HS1 HCH HS0 HMJ hS1 hCH
                    generalize hW4 : World.drewN _ _ = W4
                    have hb4 : Below wr.heap.size wr W4 := by rw [← hW4]; exact below_drewN (Below.refl _ _) _
                    have HV4 : Hid (IRow W4 B2 (.slice (some ⟨gv, 0, none⟩) 8 cv) 8 [n0, n1, n2, n3, n4, n5, n6, n7]) := HV.out.below hb4 (fun q hq => by simp only [Value.ownBlock, Option.some.injEq] at hq; omega)
                    have HD4 : Hid (Below B2 w3 W4) := HD.out.trans (hb4.mono (by omega))
                    have hgv4 : gv < W4.heap.size := Nat.lt_of_lt_of_le hgv1 hb4.size
                    have hs4 : B2 ≤ W4.heap.size := by omega
                    clear k0 k1 k2 k3 k4 k5 k6 k7 hroot hword HV HD hgv1 hwr2 hW4 hb4
                    have k0 : W4.cell? ⟨gv, 0, none⟩ = some (.int .i64 (n0 : Int)) := HV4.out.cell 0 (by omega)
                    have k1 : W4.cell? ⟨gv, 1, none⟩ = some (.int .i64 (n1 : Int)) := HV4.out.cell 1 (by omega)
                    have k2 : W4.cell? ⟨gv, 2, none⟩ = some (.int .i64 (n2 : Int)) := HV4.out.cell 2 (by omega)
                    go_wp2
                    go_quiet ((go_at_call 45; exact Calls.quiet_of_same (refRor_def _ _ (by omega) (by omega) (by omega) (by omega) _)))
                    rw [EU.out]
                    generalize hW5 : World.drewN _ _ = W5
                    have hb5 : Below W4.heap.size W4 W5 := by rw [← hW5]; exact below_drewN (Below.refl _ _) _
                    have HV5 : Hid (IRow W5 B2 (.slice (some ⟨gv, 0, none⟩) 8 cv) 8 [n0, n1, n2, n3, n4, n5, n6, n7]) := HV4.out.below hb5 (fun q hq => by simp only [Value.ownBlock, Option.some.injEq] at hq; omega)
                    have HD5 : Hid (Below B2 w3 W5) := HD4.out.trans (hb5.mono (by omega))
                    have hs5 : B2 ≤ W5.heap.size := Nat.le_trans (by omega) hb5.size
                    obtain ⟨A, hA⟩ : ∃ A : Nat, (T + U) % 4294967296 = A := ⟨_, rfl⟩
                    obtain ⟨E, hE⟩ : ∃ A : Nat, (n3 + T) % 4294967296 = A := ⟨_, rfl⟩
                    have HA : Hid (((T : Int) + U) % 4294967296 = (A : Int)) := by show _ = _; omega
                    have HE : Hid (((n3 : Int) + T) % 4294967296 = (E : Int)) := by show _ = _; omega
                    have HST : Hid (shaStep WL i [n0, n1, n2, n3, n4, n5, n6, n7] = [A, n0, n1, n2, E, n4, n5, n6]) := by
                      show _ = _
                      unfold shaStep
                      rw [HT.out, HU.out]
                      simp only [List.getD_cons_zero, List.getD_cons_succ]
                      rw [hA, hE]
                    have hnews : Hid (∀ (o : Obj) j u, (encI [n0, n1, n2, n3, n4, n5, n6])[j]? = some u → (W5.alloc o).cell? ((⟨gv, 0, none⟩ : Addr).add j) = some u) := by
                      intro o j u hj
                      refine (HV5.out.alloc o).2.cells (g := gv) rfl j u ?_
                      have e : [n0, n1, n2, n3, n4, n5, n6, n7] = [n0, n1, n2, n3, n4, n5, n6] ++ [n7] := rfl
                      rw [e, encI_append, List.getElem?_append_left (List.getElem?_eq_some_iff.1 hj).1]
                      exact hj
                    have hcv : 8 ≤ cv := HV5.out.le
                    clear hA hE HT HU EU hW5 hb5 hMJ hS0 k0 k1 k2 HV4 HD4
                    go_wp2_with (at_builtin; refine wpList_append_I _ rfl _ _ rfl B2 (.slice (some ⟨W5.heap.size, 0, none⟩) 1 1) 1 [A] rfl (IRow.one W5 B2 A _ HA.out hs5) ⟨gv, 0, none⟩ 7 cv [n0, n1, n2, n3, n4, n5, n6] rfl rfl (hnews.out _) (by omega) (by omega) (by simp; omega) ?_; intro g6 cap6 w6 hM6 hg6 hat6 hlt6; have HM6 : Hid (IRow w6 B2 (.slice (some ⟨g6, 0, none⟩) 8 cap6) 8 [A, n0, n1, n2, n3, n4, n5, n6]) := hM6; have q4 : w6.cell? ⟨g6, 4, none⟩ = some (.int .i64 (n3 : Int)) := HM6.out.cell 4 (by omega); have f4 := HM6.out.fro 4; have hg6' : (W5.alloc (.cells #[.int .i64 (((T : Int) + U) % 4294967296)] 3)).grownBy w6 (some W5.heap.size) := hg6)
                    go_roundw
                    case rel =>
                      refine ⟨i + 1, g6, cap6, by omega, by go_num, rfl, ?_, HM6.out.ge g6 rfl, by simpa using hlt6, ?_⟩
                      · show IRow _ _ _ _ _
                        rw [HVV.out, HST.out]
                        exact HM6.out.set 4 E _ HE.out
                      · refine Below.setCell (Below.grown (HD5.out.alloc hs5 _) hg6' (by simp; omega) ?_) (HM6.out.ge g6 rfl) _
                        intro q hq
                        simp only [Option.some.injEq] at hq
                        omega
                    case measure => simp [intOf]; omega
                · as_aux_lemma =>
                    obtain rfl : i = 64 := by omega
                    have hV8 := HV.out.1
                    have hVl := shaRounds_lt WL X hXl 64
                    obtain ⟨V, hV⟩ : ∃ V, shaRounds WL X 64 = V := ⟨_, rfl⟩
                    rw [hV] at HV hV8 hVl HX1
                    clear hV
                    have hgh2 : gh < B2 := by omega
                    have HH4 : Hid (IRow wr w.heap.size (.slice (some ⟨gh, 0, none⟩) 8 ch) 8 (mixL V X 0)) := by
                      rw [mixL_self V X hX8]
                      exact HH3.out.below HD.out (fun q hq => by simp only [Value.ownBlock, Option.some.injEq] at hq; omega)
                    obtain ⟨W4, hW4⟩ : ∃ W4, W4 = wr := ⟨_, rfl⟩
                    subst hW4
                    have HBW : Hid (Below w.heap.size w W4) := HB.out.trans ((HB3.out.mono HB.out.size).trans (HD.out.mono (by have := HB.out.size; omega)))
                    have HCW : Hid (Cells W4 g L) := HCX.out.kept ((HD.out.block g (by omega)).trans (HB3.out.block g hgx))
                    have hgx2 : g < W4.heap.size := by omega
                    have hghx2 : gh < W4.heap.size := by omega
                    have hghB : w.heap.size ≤ gh := HH3.out.ge gh rfl
                    clear HI3 HH3 HB3 HD
                    have hgne2 : g ≠ gh := fun e => hgne e.symm
                    go_wp2
                    go_loopw [200] (fun vi wx => ∃ (j : Nat), j ≤ 8 ∧ vi = .int .i64 j ∧ Hid (IRow wx w.heap.size (.slice (some ⟨gh, 0, none⟩) 8 ch) 8 (mixL V X j)) ∧ Hid (∀ b, b ≠ gh → wx.heap[b]? = W4.heap[b]?) ∧ Hid (wx.heap.size = W4.heap.size) ∧ Hid (Below w.heap.size w wx)) (fun i _ => 8 - (intOf i).toNat)
                    case atStart => exact ⟨0, by omega, rfl, HH4, fun _ _ => rfl, rfl, HBW⟩
                    case round =>
                      obtain ⟨j, hj, rfl, HR, HF, HZ, HBX2⟩ := hrel
                      clear HH4
                      by_cases hlt2 : j < 8
                      · obtain ⟨x, hx⟩ : ∃ x, X.getD j 0 = x := ⟨_, rfl⟩
                        obtain ⟨y, hy⟩ : ∃ x, V.getD j 0 = x := ⟨_, rfl⟩
                        have hx1 : x < 4294967296 := by rw [← hx]; exact hXl j
                        have hy1 : y < 4294967296 := by rw [← hy]; exact hVl j
                        have kx : wr.cell? ⟨gh, j, none⟩ = some (.int .i64 (x : Int)) := by
                          rw [HR.out.cell j hlt2, mixL_at _ _ _ hlt2, hx]
                        have ky : wr.cell? ⟨gv, j, none⟩ = some (.int .i64 (y : Int)) := by
                          rw [← hy, ← HV.out.cell j hlt2]
                          simp only [World.cell?, HF.out gv (by omega)]
                        have kf := HR.out.fro j
                        have HN : Hid (IRow (wr.setCell ⟨gh, j, none⟩ (.int .i64 (((x : Int) + y) % 4294967296))) w.heap.size (.slice (some ⟨gh, 0, none⟩) 8 ch) 8 (mixL V X (j + 1))) := by
                          show IRow _ _ _ _ _
                          rw [mixL_succ, hx, hy]
                          exact HR.out.set j _ _ (by omega)
                        have HF2 : Hid (∀ b, b ≠ gh → (wr.setCell ⟨gh, j, none⟩ (.int .i64 (((x : Int) + y) % 4294967296))).heap[b]? = W4.heap[b]?) := by
                          intro b hb
                          rw [Below.heap_setCell _ _ _ _ hb]
                          exact HF.out b hb
                        have HZ2 : Hid ((wr.setCell ⟨gh, j, none⟩ (.int .i64 (((x : Int) + y) % 4294967296))).heap.size = W4.heap.size) := by
                          show _ = _
                          rw [← HZ.out]
                          simp
                        have HB2 : Hid (Below w.heap.size w (wr.setCell ⟨gh, j, none⟩ (.int .i64 (((x : Int) + y) % 4294967296)))) := HBX2.out.setCell hghB _
                        clear hx hy HV HCX HO HM HX1 HCW HG
                        go_wp2
                        go_region
                        generalize World.setCell _ _ _ = WX at HN HF2 HZ2 HB2 ⊢
                        go_wp2
                        go_roundw
                        case rel => exact ⟨j + 1, by omega, by go_num, HN, HF2, HZ2, HB2.out.drew⟩
                        case measure => simp [intOf]; omega
                      · obtain rfl : j = 8 := by omega
                        have hrel2 : ∀ (o' : Nat), (0 < gk → o' = o + 64) → Hid (0 < gk → o' = 64 * (k + 1)) := by
                          intro o' h
                          show 0 < gk → _
                          intro h2
                          have h3 := HO.out (by omega)
                          have h4 := h h2
                          omega
                        have HE1 : Hid (IRow wr w.heap.size (.slice (some ⟨gh, 0, none⟩) 8 ch) 8 (shaBlocks L (k + 1))) := by
                          rw [HX1.out, shaAdd_comm, ← mixL_eight]
                          exact HR
                        have HE2 : Hid (Cells wr g L) := HCW.out.kept (HF.out g hgne2)
                        have hz1 : gh < wr.heap.size := by rw [HZ.out]; exact hghx2
                        have hz2 : g < wr.heap.size := by rw [HZ.out]; exact hgx2
                        by_cases hc : c = 64
                        · subst hc
                          go_wp2
                          go_roundg gk
                          case measure => omega
                          case rel => exact ⟨k + 1, _, _, _, by omega, hrel2 _ (by have := HM.out; omega), by show _ = _; have := HM.out; omega, by omega, rfl, HE1, HE2, HBX2, hz1, hz2⟩
                        · have hc2 : 64 < c := by omega
                          go_wp2
                          go_roundg gk
                          case measure => omega
                          case rel => exact ⟨k + 1, _, _, _, by omega, hrel2 _ (fun _ => rfl), by show _ = _; have := HM.out; omega, by omega, rfl, HE1, HE2, HBX2, hz1, hz2⟩
end Go.Proofs.YtgajhmmildbkfaaGreatFmt

/- What proves a request, by the document. -/
namespace Go.Proofs.YtgajhmmildbkfaaGreatFmt
open Go.RowKit
open Go.Extern.Stop Go.Stop Go.Extern

set_option maxHeartbeats 1000000 in
theorem refH_any (F : Interp) (sch : Int) (s : ByteArray) (hs : s.size ≤ 1000) (w : World) (hF : F.told.answers w.tape) (HT : Hid (Tabs w)) :
    Calls Tryz.prog 21 #[.int .i64 sch, .string s] w fun e w' => e = .returned (.string (bs (sumL sch s.data.toList))) ∧ Below w.heap.size w w' := by
  have h1 := fun w a b => refMd5 F s hs w a b
  have h2 := fun w a b c => refSha F s hs w a b c
  unfold sumL
  by_cases h3 : sch = 3
  · have hi : (sch == 3) = true := by simp [h3]
    rw [if_pos h3]
    go_enter Tryz.func21, Tryz.ntmps21
    go_wp2_with fail
    refine (h2 _ hF HT.out.begins HT.out.roots).mono ?_
    rintro e w2 ⟨rfl, hb2⟩
    go_wp2
    go_ret
    exact ⟨rfl, hb2⟩
  · have hi : (sch == 3) = false := by simp [h3]
    rw [if_neg h3]
    go_enter Tryz.func21, Tryz.ntmps21
    go_wp2_with fail
    refine (h1 _ hF HT.out.sines).mono ?_
    rintro e w2 ⟨rfl, hb2⟩
    go_wp2
    go_ret
    exact ⟨rfl, hb2⟩
/-- The same where the text is known by its bytes. -/
theorem refH_of (F : Interp) (sch : Int) (s X : ByteArray) (l : List (List UInt8)) (hs : s.size ≤ 1000) (hl : s.data.toList = Lib.join l [58]) (hX : bs (sumT sch l) = X) (w : World) (hF : F.told.answers w.tape) (HT : Hid (Tabs w)) :
    Calls Tryz.prog 21 #[.int .i64 sch, .string s] w fun e w' => e = .returned (.string X) ∧ Below w.heap.size w w' := by
  have h := refH_any F sch s hs w hF HT
  rw [hl] at h
  rw [← hX]
  exact h
theorem PfK.heldR {w W : World} {a : PfA} {r : PfR} (h : PfK w W a r) : W.cell? ⟨w.heap.size, 0, none⟩ = some (.int .i64 a.scheme) ∧ W.cell? ⟨w.heap.size, 5, none⟩ = some (.string a.qop) ∧ Hid (PfK w W a r) := ⟨h.c0, h.c5, h⟩
theorem PfK.heldRI {w W : World} {a : PfA} {r : PfR} (H : Hid (a.qop = ⟨#[97, 117, 116, 104, 45, 105, 110, 116]⟩)) (h : PfK w W a r) : W.cell? ⟨w.heap.size, 0, none⟩ = some (.int .i64 a.scheme) ∧ W.cell? ⟨w.heap.size, 5, none⟩ = some (.string ⟨#[97, 117, 116, 104, 45, 105, 110, 116]⟩) ∧ Hid (PfK w W a r) := ⟨h.c0, by rw [← H.out]; exact h.c5, h⟩
theorem PfK.heldRE {w W : World} {a : PfA} {r : PfR} (H : Hid (a.qop = ⟨#[]⟩)) (h : PfK w W a r) : W.cell? ⟨w.heap.size, 0, none⟩ = some (.int .i64 a.scheme) ∧ W.cell? ⟨w.heap.size, 5, none⟩ = some (.string ⟨#[]⟩) ∧ Hid (PfK w W a r) := ⟨h.c0, by rw [← H.out]; exact h.c5, h⟩
theorem one58 : (⟨#[58]⟩ : ByteArray).size = 1 := rfl
set_option maxRecDepth 100000 in
set_option maxHeartbeats 4000000 in
theorem rresp_plain_no (F : Interp) (a : PfA) (r : PfR) (st : Bool) (dv : Value) (n : Nat) (_hn : n < 9223372036854775808) (hf : Fits a r) (hs : a.sess = false) (hq : a.qop.data.toList = []) (w : World) (hF : F.told.answers w.tape) (HT : Hid (Tabs w)) :
    Calls Tryz.prog 9 #[.agg #[.int .i64 a.scheme, .string a.realm, .string a.nonce, .string a.opq, .bool a.sess, .string a.qop, .bool st, dv], .agg #[.string r.user, .string r.pass], .string r.method, .string r.target, .string r.body, .string r.cnonce, .int .i64 (n : Int)] w fun e w' => e = .returned (.string (bs (respL a r n))) ∧ Below w.heap.size w w' := by
  have HK := pfK_start w a r st dv HT
  have HFT : Hid (F.told.answers w.tape) := hF
  clear hF
  have HQE : Hid (a.qop = ⟨#[]⟩) := by show _ = _; rw [← bs_self a.qop, hq]; rfl
  have HR : Hid (respL a r n = sumT a.scheme [whoL a r, a.nonce.data.toList, sumT a.scheme [r.method.data.toList, r.target.data.toList]]) := by
    show _ = _
    unfold respL oneL twoL
    have h0 : ¬ ([] : List UInt8) = qInt := by decide
    rw [if_pos hq, hs, hq, if_neg h0]
    rfl
  unfold Fits at hf
  obtain ⟨X, HX⟩ : ∃ X, Hid (bs (whoL a r) = X) := ⟨_, rfl⟩
  have hxz : X.size ≤ 64 := by rw [← HX.out, bs_size]; exact sumT_len _ _
  have h1 : ∀ w, F.told.answers w.tape → Hid (Tabs w) → Calls Tryz.prog 21 #[.int .i64 a.scheme, .string (r.user ++ ⟨#[58]⟩ ++ a.realm ++ ⟨#[58]⟩ ++ r.pass)] w fun e w' => e = .returned (.string X) ∧ Below w.heap.size w w' := fun w hF HT => refH_of F a.scheme _ X [r.user.data.toList, a.realm.data.toList, r.pass.data.toList] (by simp only [ByteArray.size_append]; show _ ≤ _; simp only [one58]; omega) (by simp [join_cons, join_one]) HX.out w hF HT
  obtain ⟨Y, HY⟩ : ∃ Y, Hid (bs (sumT a.scheme [r.method.data.toList, r.target.data.toList]) = Y) := ⟨_, rfl⟩
  have hyz : Y.size ≤ 64 := by rw [← HY.out, bs_size]; exact sumT_len _ _
  have h2 : ∀ w, F.told.answers w.tape → Hid (Tabs w) → Calls Tryz.prog 21 #[.int .i64 a.scheme, .string (r.method ++ ⟨#[58]⟩ ++ r.target)] w fun e w' => e = .returned (.string Y) ∧ Below w.heap.size w w' := fun w hF HT => refH_of F a.scheme _ Y [r.method.data.toList, r.target.data.toList] (by simp only [ByteArray.size_append]; show _ ≤ _; simp only [one58]; omega) (by simp [join_cons, join_one]) HY.out w hF HT
  obtain ⟨V, HV⟩ : ∃ V, Hid (bs (respL a r n) = V) := ⟨_, rfl⟩
  have HE : Hid (bs (sumT a.scheme [X.data.toList, a.nonce.data.toList, Y.data.toList]) = V) := by
    show _ = _
    rw [← HV.out, HR.out, ← HX.out, bs_data, ← HY.out, bs_data]
  have h3 : ∀ w, F.told.answers w.tape → Hid (Tabs w) → Calls Tryz.prog 21 #[.int .i64 a.scheme, .string (X ++ ⟨#[58]⟩ ++ a.nonce ++ ⟨#[58]⟩ ++ Y)] w fun e w' => e = .returned (.string V) ∧ Below w.heap.size w w' := fun w hF HT => refH_of F a.scheme _ V [X.data.toList, a.nonce.data.toList, Y.data.toList] (by simp only [ByteArray.size_append]; show _ ≤ _; simp only [one58]; omega) (by simp [join_cons, join_one]) HE.out w hF HT
  rw [HV.out]
  have s0 := fun W => run_string_add_sum (P := Tryz.prog) W (X) (⟨#[58]⟩) (by have h58 := one58; omega)
  have s1 := fun W => run_string_add_sum (P := Tryz.prog) W (X ++ ⟨#[58]⟩) (a.nonce) (by have h58 := one58; simp only [ByteArray.size_append]; omega)
  have s2 := fun W => run_string_add_sum (P := Tryz.prog) W (X ++ ⟨#[58]⟩ ++ a.nonce) (⟨#[58]⟩) (by have h58 := one58; simp only [ByteArray.size_append]; omega)
  have s3 := fun W => run_string_add_sum (P := Tryz.prog) W (X ++ ⟨#[58]⟩ ++ a.nonce ++ ⟨#[58]⟩) (Y) (by have h58 := one58; simp only [ByteArray.size_append]; omega)
  have HK0 : Hid (PfK w _ a r) := HK
  clear HK hq
  rw [hs]
  rw [hs] at HK0
  obtain ⟨c0, c1, c2, c4, c5, d0, d1, _, _, _⟩ := HK0.out
  rw [HQE.out] at c5
  rw [hs] at c4
  go_enter Tryz.func9, Tryz.ntmps9
  go_wp2_with fail
  refine (h1 _ (by rw [HK0.out.bel.tape]; exact HFT.out) HK0.out.tabs).mono ?_
  rintro e w1 ⟨rfl, hb1⟩
  have HK1 : Hid (PfK w w1 a r) := HK0.out.below hb1
  clear hb1 c0 c1 c2 c4 c5 d0 d1
  obtain ⟨c0, c1, c2, c4, c5, d0, d1, _, _, _⟩ := HK1.out
  rw [HQE.out] at c5
  rw [hs] at c4
  have hQ : w1.drew.cell? ⟨w.heap.size, 0, none⟩ = some (.int .i64 a.scheme) ∧ w1.drew.cell? ⟨w.heap.size, 5, none⟩ = some (.string ⟨#[]⟩) ∧ Hid (PfK w (w1.drew) a r) := PfK.heldRE HQE (HK1.out.drew)
  go_wp2
  go_region_held3 (fun W => W.cell? ⟨w.heap.size, 0, none⟩ = some (.int .i64 a.scheme) ∧ W.cell? ⟨w.heap.size, 5, none⟩ = some (.string ⟨#[]⟩) ∧ Hid (PfK w W a r)) (with_reducible assumption) (first
    | (go_at_call 21; refine (h3 _ (by rw [hKd.bel.tape]; exact HFT.out) hKd.tabs).mono ?_; rintro e we ⟨rfl, hbe⟩; have hKe := hKd.below hbe; have hQe : we.cell? ⟨w.heap.size, 0, none⟩ = some (.int .i64 a.scheme) ∧ we.cell? ⟨w.heap.size, 5, none⟩ = some (.string ⟨#[]⟩) ∧ Hid (PfK w (we) a r) := PfK.heldRE HQE (hKe))
    | (go_at_call 21; refine (h2 _ (by rw [HK1.out.drew.bel.tape]; exact HFT.out) HK1.out.drew.tabs).mono ?_; rintro e wd ⟨rfl, hbd⟩; have hKd := HK1.out.drew.below hbd; have hQd : wd.cell? ⟨w.heap.size, 0, none⟩ = some (.int .i64 a.scheme) ∧ wd.cell? ⟨w.heap.size, 5, none⟩ = some (.string ⟨#[]⟩) ∧ Hid (PfK w (wd) a r) := PfK.heldRE HQE (hKd)))
  go_wp2
  go_ret
  exact ⟨rfl, hKe.bel⟩
end Go.Proofs.YtgajhmmildbkfaaGreatFmt

/- What proves a request, by the document: the walks. -/
namespace Go.Proofs.YtgajhmmildbkfaaGreatFmt
open Go.RowKit
open Go.Extern.Stop Go.Stop Go.Extern

set_option maxRecDepth 100000 in
set_option maxHeartbeats 4000000 in
theorem rresp_full_no (F : Interp) (a : PfA) (r : PfR) (st : Bool) (dv : Value) (n : Nat) (hn : n < 9223372036854775808) (hf : Fits a r) (hs : a.sess = false) (hq : a.qop.data.toList ≠ []) (hi : a.qop.data.toList ≠ qInt) (w : World) (hF : F.told.answers w.tape) (HT : Hid (Tabs w)) :
    Calls Tryz.prog 9 #[.agg #[.int .i64 a.scheme, .string a.realm, .string a.nonce, .string a.opq, .bool a.sess, .string a.qop, .bool st, dv], .agg #[.string r.user, .string r.pass], .string r.method, .string r.target, .string r.body, .string r.cnonce, .int .i64 (n : Int)] w fun e w' => e = .returned (.string (bs (respL a r n))) ∧ Below w.heap.size w w' := by
  have HK := pfK_start w a r st dv HT
  have HFT : Hid (F.told.answers w.tape) := hF
  clear hF
  have hq1 := not_list a.qop _ hi
  have hq2 := not_empty a.qop hq
  unfold qInt at hq1
  have HR : Hid (respL a r n = sumT a.scheme [whoL a r, a.nonce.data.toList, countL n, r.cnonce.data.toList, a.qop.data.toList, sumT a.scheme [r.method.data.toList, r.target.data.toList]]) := by
    show _ = _
    unfold respL oneL twoL
    rw [if_neg hq, hs, if_neg hi]
    rfl
  unfold Fits at hf
  obtain ⟨X, HX⟩ : ∃ X, Hid (bs (whoL a r) = X) := ⟨_, rfl⟩
  have hxz : X.size ≤ 64 := by rw [← HX.out, bs_size]; exact sumT_len _ _
  have h1 : ∀ w, F.told.answers w.tape → Hid (Tabs w) → Calls Tryz.prog 21 #[.int .i64 a.scheme, .string (r.user ++ ⟨#[58]⟩ ++ a.realm ++ ⟨#[58]⟩ ++ r.pass)] w fun e w' => e = .returned (.string X) ∧ Below w.heap.size w w' := fun w hF HT => refH_of F a.scheme _ X [r.user.data.toList, a.realm.data.toList, r.pass.data.toList] (by simp only [ByteArray.size_append]; show _ ≤ _; simp only [one58]; omega) (by simp [join_cons, join_one]) HX.out w hF HT
  obtain ⟨Y, HY⟩ : ∃ Y, Hid (bs (sumT a.scheme [r.method.data.toList, r.target.data.toList]) = Y) := ⟨_, rfl⟩
  have hyz : Y.size ≤ 64 := by rw [← HY.out, bs_size]; exact sumT_len _ _
  have h2 : ∀ w, F.told.answers w.tape → Hid (Tabs w) → Calls Tryz.prog 21 #[.int .i64 a.scheme, .string (r.method ++ ⟨#[58]⟩ ++ r.target)] w fun e w' => e = .returned (.string Y) ∧ Below w.heap.size w w' := fun w hF HT => refH_of F a.scheme _ Y [r.method.data.toList, r.target.data.toList] (by simp only [ByteArray.size_append]; show _ ≤ _; simp only [one58]; omega) (by simp [join_cons, join_one]) HY.out w hF HT
  obtain ⟨K, HKK⟩ : ∃ K, Hid (bs (countL n) = K) := ⟨_, rfl⟩
  have hcz : K.size ≤ 16 := by rw [← HKK.out, bs_size]; exact countL_len _
  have h4 : ∀ w, Hid (Bruijn w) → Calls Tryz.prog 11 #[.int .i64 (n : Int)] w fun e w' => e = .returned (.string K) ∧ Below w.heap.size w w' := fun w HD => by rw [← HKK.out]; exact refCount_any n hn w HD
  obtain ⟨V, HV⟩ : ∃ V, Hid (bs (respL a r n) = V) := ⟨_, rfl⟩
  have HE : Hid (bs (sumT a.scheme [X.data.toList, a.nonce.data.toList, K.data.toList, r.cnonce.data.toList, a.qop.data.toList, Y.data.toList]) = V) := by
    show _ = _
    rw [← HV.out, HR.out, ← HX.out, bs_data, ← HY.out, bs_data, ← HKK.out, bs_data]
  have h3 : ∀ w, F.told.answers w.tape → Hid (Tabs w) → Calls Tryz.prog 21 #[.int .i64 a.scheme, .string (X ++ ⟨#[58]⟩ ++ (a.nonce ++ (⟨#[58]⟩ ++ K ++ ⟨#[58]⟩ ++ r.cnonce ++ ⟨#[58]⟩ ++ a.qop)) ++ ⟨#[58]⟩ ++ Y)] w fun e w' => e = .returned (.string V) ∧ Below w.heap.size w w' := fun w hF HT => refH_of F a.scheme _ V [X.data.toList, a.nonce.data.toList, K.data.toList, r.cnonce.data.toList, (a.qop : ByteArray).data.toList, Y.data.toList] (by simp only [ByteArray.size_append]; show _ ≤ _; simp only [one58]; omega) (by simp [join_cons, join_one]) HE.out w hF HT
  rw [HV.out]
  have s0 := fun W => run_string_add_sum (P := Tryz.prog) W (⟨#[58]⟩) (K) (by have h58 := one58; omega)
  have s1 := fun W => run_string_add_sum (P := Tryz.prog) W (⟨#[58]⟩ ++ K) (⟨#[58]⟩) (by have h58 := one58; simp only [ByteArray.size_append]; omega)
  have s2 := fun W => run_string_add_sum (P := Tryz.prog) W (⟨#[58]⟩ ++ K ++ ⟨#[58]⟩) (r.cnonce) (by have h58 := one58; simp only [ByteArray.size_append]; omega)
  have s3 := fun W => run_string_add_sum (P := Tryz.prog) W (⟨#[58]⟩ ++ K ++ ⟨#[58]⟩ ++ r.cnonce) (⟨#[58]⟩) (by have h58 := one58; simp only [ByteArray.size_append]; omega)
  have s4 := fun W => run_string_add_sum (P := Tryz.prog) W (⟨#[58]⟩ ++ K ++ ⟨#[58]⟩ ++ r.cnonce ++ ⟨#[58]⟩) (a.qop) (by have h58 := one58; simp only [ByteArray.size_append]; omega)
  have s5 := fun W => run_string_add_sum (P := Tryz.prog) W (a.nonce) (⟨#[58]⟩ ++ K ++ ⟨#[58]⟩ ++ r.cnonce ++ ⟨#[58]⟩ ++ a.qop) (by have h58 := one58; simp only [ByteArray.size_append]; omega)
  have s6 := fun W => run_string_add_sum (P := Tryz.prog) W (X) (⟨#[58]⟩) (by have h58 := one58; omega)
  have s7 := fun W => run_string_add_sum (P := Tryz.prog) W (X ++ ⟨#[58]⟩) ((a.nonce ++ (⟨#[58]⟩ ++ K ++ ⟨#[58]⟩ ++ r.cnonce ++ ⟨#[58]⟩ ++ a.qop))) (by have h58 := one58; simp only [ByteArray.size_append]; omega)
  have s8 := fun W => run_string_add_sum (P := Tryz.prog) W (X ++ ⟨#[58]⟩ ++ (a.nonce ++ (⟨#[58]⟩ ++ K ++ ⟨#[58]⟩ ++ r.cnonce ++ ⟨#[58]⟩ ++ a.qop))) (⟨#[58]⟩) (by have h58 := one58; simp only [ByteArray.size_append]; omega)
  have s9 := fun W => run_string_add_sum (P := Tryz.prog) W (X ++ ⟨#[58]⟩ ++ (a.nonce ++ (⟨#[58]⟩ ++ K ++ ⟨#[58]⟩ ++ r.cnonce ++ ⟨#[58]⟩ ++ a.qop)) ++ ⟨#[58]⟩) (Y) (by have h58 := one58; simp only [ByteArray.size_append]; omega)
  have HK0 : Hid (PfK w _ a r) := HK
  clear HK hq hi
  rw [hs]
  rw [hs] at HK0
  obtain ⟨c0, c1, c2, c4, c5, d0, d1, _, _, _⟩ := HK0.out
  rw [hs] at c4
  go_enter Tryz.func9, Tryz.ntmps9
  go_wp2_with fail
  refine (h1 _ (by rw [HK0.out.bel.tape]; exact HFT.out) HK0.out.tabs).mono ?_
  rintro e w1 ⟨rfl, hb1⟩
  have HK1 : Hid (PfK w w1 a r) := HK0.out.below hb1
  clear hb1 c0 c1 c2 c4 c5 d0 d1
  obtain ⟨c0, c1, c2, c4, c5, d0, d1, _, _, _⟩ := HK1.out
  rw [hs] at c4
  have hQ : w1.drew.cell? ⟨w.heap.size, 0, none⟩ = some (.int .i64 a.scheme) ∧ w1.drew.cell? ⟨w.heap.size, 5, none⟩ = some (.string a.qop) ∧ Hid (PfK w (w1.drew) a r) := PfK.heldR (HK1.out.drew)
  go_wp2
  go_region_held3 (fun W => W.cell? ⟨w.heap.size, 0, none⟩ = some (.int .i64 a.scheme) ∧ W.cell? ⟨w.heap.size, 5, none⟩ = some (.string a.qop) ∧ Hid (PfK w W a r)) (with_reducible assumption) (
    (go_at_call 11; refine (h4 _ HK1.out.drew.tabs.bruijn).mono ?_; rintro e wc ⟨rfl, hbc⟩; have hKc := HK1.out.drew.below hbc; have hQc : wc.cell? ⟨w.heap.size, 0, none⟩ = some (.int .i64 a.scheme) ∧ wc.cell? ⟨w.heap.size, 5, none⟩ = some (.string a.qop) ∧ Hid (PfK w (wc) a r) := PfK.heldR (hKc)))
  have HK2 : Hid (PfK w wc a r) := hKc
  clear hQ hQc hKc hbc c0 c1 c2 c4 c5 d0 d1
  obtain ⟨c0, c1, c2, c4, c5, d0, d1, _, _, _⟩ := HK2.out
  rw [hs] at c4
  have hQ : wc.drew.cell? ⟨w.heap.size, 0, none⟩ = some (.int .i64 a.scheme) ∧ wc.drew.cell? ⟨w.heap.size, 5, none⟩ = some (.string a.qop) ∧ Hid (PfK w (wc.drew) a r) := PfK.heldR (HK2.out.drew)
  go_wp2
  go_region_held3 (fun W => W.cell? ⟨w.heap.size, 0, none⟩ = some (.int .i64 a.scheme) ∧ W.cell? ⟨w.heap.size, 5, none⟩ = some (.string a.qop) ∧ Hid (PfK w W a r)) (with_reducible assumption) (first
    | (go_at_call 21; refine (h3 _ (by rw [hKd.bel.tape]; exact HFT.out) hKd.tabs).mono ?_; rintro e we ⟨rfl, hbe⟩; have hKe := hKd.below hbe; have hQe : we.cell? ⟨w.heap.size, 0, none⟩ = some (.int .i64 a.scheme) ∧ we.cell? ⟨w.heap.size, 5, none⟩ = some (.string a.qop) ∧ Hid (PfK w (we) a r) := PfK.heldR (hKe))
    | (go_at_call 21; refine (h2 _ (by rw [HK2.out.drew.bel.tape]; exact HFT.out) HK2.out.drew.tabs).mono ?_; rintro e wd ⟨rfl, hbd⟩; have hKd := HK2.out.drew.below hbd; have hQd : wd.cell? ⟨w.heap.size, 0, none⟩ = some (.int .i64 a.scheme) ∧ wd.cell? ⟨w.heap.size, 5, none⟩ = some (.string a.qop) ∧ Hid (PfK w (wd) a r) := PfK.heldR (hKd)))
  go_wp2
  go_ret
  exact ⟨rfl, hKe.bel⟩
set_option maxRecDepth 100000 in
set_option maxHeartbeats 4000000 in
theorem rresp_int_no (F : Interp) (a : PfA) (r : PfR) (st : Bool) (dv : Value) (n : Nat) (hn : n < 9223372036854775808) (hf : Fits a r) (hs : a.sess = false) (hi : a.qop.data.toList = qInt) (w : World) (hF : F.told.answers w.tape) (HT : Hid (Tabs w)) :
    Calls Tryz.prog 9 #[.agg #[.int .i64 a.scheme, .string a.realm, .string a.nonce, .string a.opq, .bool a.sess, .string a.qop, .bool st, dv], .agg #[.string r.user, .string r.pass], .string r.method, .string r.target, .string r.body, .string r.cnonce, .int .i64 (n : Int)] w fun e w' => e = .returned (.string (bs (respL a r n))) ∧ Below w.heap.size w w' := by
  have HK := pfK_start w a r st dv HT
  have HFT : Hid (F.told.answers w.tape) := hF
  clear hF
  have HQE : Hid (a.qop = ⟨#[97, 117, 116, 104, 45, 105, 110, 116]⟩) := eq_int _ hi
  have HR : Hid (respL a r n = sumT a.scheme [whoL a r, a.nonce.data.toList, countL n, r.cnonce.data.toList, a.qop.data.toList, sumT a.scheme [r.method.data.toList, r.target.data.toList, sumT a.scheme [r.body.data.toList]]]) := by
    show _ = _
    unfold respL oneL twoL
    have h0 : ¬ qInt = [] := by decide
    rw [hi, if_neg h0, hs, if_pos rfl]
    rfl
  unfold Fits at hf
  obtain ⟨X, HX⟩ : ∃ X, Hid (bs (whoL a r) = X) := ⟨_, rfl⟩
  have hxz : X.size ≤ 64 := by rw [← HX.out, bs_size]; exact sumT_len _ _
  have h1 : ∀ w, F.told.answers w.tape → Hid (Tabs w) → Calls Tryz.prog 21 #[.int .i64 a.scheme, .string (r.user ++ ⟨#[58]⟩ ++ a.realm ++ ⟨#[58]⟩ ++ r.pass)] w fun e w' => e = .returned (.string X) ∧ Below w.heap.size w w' := fun w hF HT => refH_of F a.scheme _ X [r.user.data.toList, a.realm.data.toList, r.pass.data.toList] (by simp only [ByteArray.size_append]; show _ ≤ _; simp only [one58]; omega) (by simp [join_cons, join_one]) HX.out w hF HT
  obtain ⟨B, HB⟩ : ∃ B, Hid (bs (sumT a.scheme [r.body.data.toList]) = B) := ⟨_, rfl⟩
  have hbz : B.size ≤ 64 := by rw [← HB.out, bs_size]; exact sumT_len _ _
  have h5 : ∀ w, F.told.answers w.tape → Hid (Tabs w) → Calls Tryz.prog 21 #[.int .i64 a.scheme, .string (r.body)] w fun e w' => e = .returned (.string B) ∧ Below w.heap.size w w' := fun w hF HT => refH_of F a.scheme _ B [r.body.data.toList] (by omega) (by simp [join_one]) HB.out w hF HT
  obtain ⟨Y, HY⟩ : ∃ Y, Hid (bs (sumT a.scheme [r.method.data.toList, r.target.data.toList, B.data.toList]) = Y) := ⟨_, rfl⟩
  have hyz : Y.size ≤ 64 := by rw [← HY.out, bs_size]; exact sumT_len _ _
  have h2 : ∀ w, F.told.answers w.tape → Hid (Tabs w) → Calls Tryz.prog 21 #[.int .i64 a.scheme, .string (r.method ++ ⟨#[58]⟩ ++ r.target ++ (⟨#[58]⟩ ++ B))] w fun e w' => e = .returned (.string Y) ∧ Below w.heap.size w w' := fun w hF HT => refH_of F a.scheme _ Y [r.method.data.toList, r.target.data.toList, B.data.toList] (by simp only [ByteArray.size_append]; show _ ≤ _; simp only [one58]; omega) (by simp [join_cons, join_one]) HY.out w hF HT
  obtain ⟨K, HKK⟩ : ∃ K, Hid (bs (countL n) = K) := ⟨_, rfl⟩
  have hcz : K.size ≤ 16 := by rw [← HKK.out, bs_size]; exact countL_len _
  have h4 : ∀ w, Hid (Bruijn w) → Calls Tryz.prog 11 #[.int .i64 (n : Int)] w fun e w' => e = .returned (.string K) ∧ Below w.heap.size w w' := fun w HD => by rw [← HKK.out]; exact refCount_any n hn w HD
  obtain ⟨V, HV⟩ : ∃ V, Hid (bs (respL a r n) = V) := ⟨_, rfl⟩
  have HE : Hid (bs (sumT a.scheme [X.data.toList, a.nonce.data.toList, K.data.toList, r.cnonce.data.toList, a.qop.data.toList, Y.data.toList]) = V) := by
    show _ = _
    rw [← HV.out, HR.out, ← HX.out, bs_data, ← HY.out, bs_data, ← HB.out, bs_data, ← HKK.out, bs_data]
  have hqz : (⟨#[97, 117, 116, 104, 45, 105, 110, 116]⟩ : ByteArray).size = 8 := rfl
  have h3 : ∀ w, F.told.answers w.tape → Hid (Tabs w) → Calls Tryz.prog 21 #[.int .i64 a.scheme, .string (X ++ ⟨#[58]⟩ ++ (a.nonce ++ (⟨#[58]⟩ ++ K ++ ⟨#[58]⟩ ++ r.cnonce ++ ⟨#[58]⟩ ++ ⟨#[97, 117, 116, 104, 45, 105, 110, 116]⟩)) ++ ⟨#[58]⟩ ++ Y)] w fun e w' => e = .returned (.string V) ∧ Below w.heap.size w w' := fun w hF HT => refH_of F a.scheme _ V [X.data.toList, a.nonce.data.toList, K.data.toList, r.cnonce.data.toList, (⟨#[97, 117, 116, 104, 45, 105, 110, 116]⟩ : ByteArray).data.toList, Y.data.toList] (by simp only [ByteArray.size_append]; show _ ≤ _; simp only [one58, hqz]; omega) (by simp [join_cons, join_one]) (by rw [← HE.out, HQE.out]) w hF HT
  rw [HV.out]
  have s0 := fun W => run_string_add_sum (P := Tryz.prog) W (⟨#[58]⟩) (K) (by have h58 := one58; omega)
  have s1 := fun W => run_string_add_sum (P := Tryz.prog) W (⟨#[58]⟩ ++ K) (⟨#[58]⟩) (by have h58 := one58; simp only [ByteArray.size_append]; omega)
  have s2 := fun W => run_string_add_sum (P := Tryz.prog) W (⟨#[58]⟩ ++ K ++ ⟨#[58]⟩) (r.cnonce) (by have h58 := one58; simp only [ByteArray.size_append]; omega)
  have s3 := fun W => run_string_add_sum (P := Tryz.prog) W (⟨#[58]⟩ ++ K ++ ⟨#[58]⟩ ++ r.cnonce) (⟨#[58]⟩) (by have h58 := one58; simp only [ByteArray.size_append]; omega)
  have s4 := fun W => run_string_add_sum (P := Tryz.prog) W (⟨#[58]⟩ ++ K ++ ⟨#[58]⟩ ++ r.cnonce ++ ⟨#[58]⟩) (⟨#[97, 117, 116, 104, 45, 105, 110, 116]⟩) (by have h58 := one58; simp only [ByteArray.size_append]; omega)
  have s5 := fun W => run_string_add_sum (P := Tryz.prog) W (a.nonce) (⟨#[58]⟩ ++ K ++ ⟨#[58]⟩ ++ r.cnonce ++ ⟨#[58]⟩ ++ ⟨#[97, 117, 116, 104, 45, 105, 110, 116]⟩) (by have h58 := one58; simp only [ByteArray.size_append]; omega)
  have s6 := fun W => run_string_add_sum (P := Tryz.prog) W (X) (⟨#[58]⟩) (by have h58 := one58; omega)
  have s7 := fun W => run_string_add_sum (P := Tryz.prog) W (X ++ ⟨#[58]⟩) ((a.nonce ++ (⟨#[58]⟩ ++ K ++ ⟨#[58]⟩ ++ r.cnonce ++ ⟨#[58]⟩ ++ ⟨#[97, 117, 116, 104, 45, 105, 110, 116]⟩))) (by have h58 := one58; simp only [ByteArray.size_append]; omega)
  have s8 := fun W => run_string_add_sum (P := Tryz.prog) W (X ++ ⟨#[58]⟩ ++ (a.nonce ++ (⟨#[58]⟩ ++ K ++ ⟨#[58]⟩ ++ r.cnonce ++ ⟨#[58]⟩ ++ ⟨#[97, 117, 116, 104, 45, 105, 110, 116]⟩))) (⟨#[58]⟩) (by have h58 := one58; simp only [ByteArray.size_append]; omega)
  have s9 := fun W => run_string_add_sum (P := Tryz.prog) W (X ++ ⟨#[58]⟩ ++ (a.nonce ++ (⟨#[58]⟩ ++ K ++ ⟨#[58]⟩ ++ r.cnonce ++ ⟨#[58]⟩ ++ ⟨#[97, 117, 116, 104, 45, 105, 110, 116]⟩)) ++ ⟨#[58]⟩) (Y) (by have h58 := one58; simp only [ByteArray.size_append]; omega)
  have HK0 : Hid (PfK w _ a r) := HK
  clear HK hi
  rw [hs]
  rw [hs] at HK0
  obtain ⟨c0, c1, c2, c4, c5, d0, d1, _, _, _⟩ := HK0.out
  rw [HQE.out] at c5
  rw [hs] at c4
  go_enter Tryz.func9, Tryz.ntmps9
  go_wp2_with fail
  refine (h1 _ (by rw [HK0.out.bel.tape]; exact HFT.out) HK0.out.tabs).mono ?_
  rintro e w1 ⟨rfl, hb1⟩
  have HK1 : Hid (PfK w w1 a r) := HK0.out.below hb1
  clear hb1 c0 c1 c2 c4 c5 d0 d1
  obtain ⟨c0, c1, c2, c4, c5, d0, d1, _, _, _⟩ := HK1.out
  rw [HQE.out] at c5
  rw [hs] at c4
  go_wp2_with fail
  refine (h5 _ (by rw [HK1.out.bel.tape]; exact HFT.out) HK1.out.tabs).mono ?_
  rintro e w2 ⟨rfl, hb2⟩
  have HK2 : Hid (PfK w w2 a r) := HK1.out.below hb2
  clear hb2 c0 c1 c2 c4 c5 d0 d1
  obtain ⟨c0, c1, c2, c4, c5, d0, d1, _, _, _⟩ := HK2.out
  rw [HQE.out] at c5
  rw [hs] at c4
  have hQ : w2.drew.cell? ⟨w.heap.size, 0, none⟩ = some (.int .i64 a.scheme) ∧ w2.drew.cell? ⟨w.heap.size, 5, none⟩ = some (.string ⟨#[97, 117, 116, 104, 45, 105, 110, 116]⟩) ∧ Hid (PfK w (w2.drew) a r) := PfK.heldRI HQE (HK2.out.drew)
  go_wp2
  go_region_held3 (fun W => W.cell? ⟨w.heap.size, 0, none⟩ = some (.int .i64 a.scheme) ∧ W.cell? ⟨w.heap.size, 5, none⟩ = some (.string ⟨#[97, 117, 116, 104, 45, 105, 110, 116]⟩) ∧ Hid (PfK w W a r)) (with_reducible assumption) (
    (go_at_call 11; refine (h4 _ HK2.out.drew.tabs.bruijn).mono ?_; rintro e wc ⟨rfl, hbc⟩; have hKc := HK2.out.drew.below hbc; have hQc : wc.cell? ⟨w.heap.size, 0, none⟩ = some (.int .i64 a.scheme) ∧ wc.cell? ⟨w.heap.size, 5, none⟩ = some (.string ⟨#[97, 117, 116, 104, 45, 105, 110, 116]⟩) ∧ Hid (PfK w (wc) a r) := PfK.heldRI HQE (hKc)))
  have HK3 : Hid (PfK w wc a r) := hKc
  clear hQ hQc hKc hbc c0 c1 c2 c4 c5 d0 d1
  obtain ⟨c0, c1, c2, c4, c5, d0, d1, _, _, _⟩ := HK3.out
  rw [HQE.out] at c5
  rw [hs] at c4
  have hQ : wc.drew.cell? ⟨w.heap.size, 0, none⟩ = some (.int .i64 a.scheme) ∧ wc.drew.cell? ⟨w.heap.size, 5, none⟩ = some (.string ⟨#[97, 117, 116, 104, 45, 105, 110, 116]⟩) ∧ Hid (PfK w (wc.drew) a r) := PfK.heldRI HQE (HK3.out.drew)
  go_wp2
  go_region_held3 (fun W => W.cell? ⟨w.heap.size, 0, none⟩ = some (.int .i64 a.scheme) ∧ W.cell? ⟨w.heap.size, 5, none⟩ = some (.string ⟨#[97, 117, 116, 104, 45, 105, 110, 116]⟩) ∧ Hid (PfK w W a r)) (with_reducible assumption) (first
    | (go_at_call 21; refine (h3 _ (by rw [hKd.bel.tape]; exact HFT.out) hKd.tabs).mono ?_; rintro e we ⟨rfl, hbe⟩; have hKe := hKd.below hbe; have hQe : we.cell? ⟨w.heap.size, 0, none⟩ = some (.int .i64 a.scheme) ∧ we.cell? ⟨w.heap.size, 5, none⟩ = some (.string ⟨#[97, 117, 116, 104, 45, 105, 110, 116]⟩) ∧ Hid (PfK w (we) a r) := PfK.heldRI HQE (hKe))
    | (go_at_call 21; refine (h2 _ (by rw [HK3.out.drew.bel.tape]; exact HFT.out) HK3.out.drew.tabs).mono ?_; rintro e wd ⟨rfl, hbd⟩; have hKd := HK3.out.drew.below hbd; have hQd : wd.cell? ⟨w.heap.size, 0, none⟩ = some (.int .i64 a.scheme) ∧ wd.cell? ⟨w.heap.size, 5, none⟩ = some (.string ⟨#[97, 117, 116, 104, 45, 105, 110, 116]⟩) ∧ Hid (PfK w (wd) a r) := PfK.heldRI HQE (hKd)))
  go_wp2
  go_ret
  exact ⟨rfl, hKe.bel⟩
end Go.Proofs.YtgajhmmildbkfaaGreatFmt

/- What proves a request, by the document: the walks. -/
namespace Go.Proofs.YtgajhmmildbkfaaGreatFmt
open Go.RowKit
open Go.Extern.Stop Go.Stop Go.Extern

set_option maxRecDepth 100000 in
set_option maxHeartbeats 4000000 in
theorem rresp_plain_sess (F : Interp) (a : PfA) (r : PfR) (st : Bool) (dv : Value) (n : Nat) (_hn : n < 9223372036854775808) (hf : Fits a r) (hs : a.sess = true) (hq : a.qop.data.toList = []) (w : World) (hF : F.told.answers w.tape) (HT : Hid (Tabs w)) :
    Calls Tryz.prog 9 #[.agg #[.int .i64 a.scheme, .string a.realm, .string a.nonce, .string a.opq, .bool a.sess, .string a.qop, .bool st, dv], .agg #[.string r.user, .string r.pass], .string r.method, .string r.target, .string r.body, .string r.cnonce, .int .i64 (n : Int)] w fun e w' => e = .returned (.string (bs (respL a r n))) ∧ Below w.heap.size w w' := by
  have HK := pfK_start w a r st dv HT
  have HFT : Hid (F.told.answers w.tape) := hF
  clear hF
  have HQE : Hid (a.qop = ⟨#[]⟩) := by show _ = _; rw [← bs_self a.qop, hq]; rfl
  have HR : Hid (respL a r n = sumT a.scheme [sumT a.scheme [whoL a r, a.nonce.data.toList, r.cnonce.data.toList], a.nonce.data.toList, sumT a.scheme [r.method.data.toList, r.target.data.toList]]) := by
    show _ = _
    unfold respL oneL twoL
    have h0 : ¬ ([] : List UInt8) = qInt := by decide
    rw [if_pos hq, hs, hq, if_neg h0]
    rfl
  unfold Fits at hf
  obtain ⟨X, HX⟩ : ∃ X, Hid (bs (whoL a r) = X) := ⟨_, rfl⟩
  have hxz : X.size ≤ 64 := by rw [← HX.out, bs_size]; exact sumT_len _ _
  have h1 : ∀ w, F.told.answers w.tape → Hid (Tabs w) → Calls Tryz.prog 21 #[.int .i64 a.scheme, .string (r.user ++ ⟨#[58]⟩ ++ a.realm ++ ⟨#[58]⟩ ++ r.pass)] w fun e w' => e = .returned (.string X) ∧ Below w.heap.size w w' := fun w hF HT => refH_of F a.scheme _ X [r.user.data.toList, a.realm.data.toList, r.pass.data.toList] (by simp only [ByteArray.size_append]; show _ ≤ _; simp only [one58]; omega) (by simp [join_cons, join_one]) HX.out w hF HT
  obtain ⟨Z, HZ⟩ : ∃ Z, Hid (bs (sumT a.scheme [X.data.toList, a.nonce.data.toList, r.cnonce.data.toList]) = Z) := ⟨_, rfl⟩
  have hzz : Z.size ≤ 64 := by rw [← HZ.out, bs_size]; exact sumT_len _ _
  have hS : ∀ w, F.told.answers w.tape → Hid (Tabs w) → Calls Tryz.prog 21 #[.int .i64 a.scheme, .string (X ++ ⟨#[58]⟩ ++ a.nonce ++ ⟨#[58]⟩ ++ r.cnonce)] w fun e w' => e = .returned (.string Z) ∧ Below w.heap.size w w' := fun w hF HT => refH_of F a.scheme _ Z [X.data.toList, a.nonce.data.toList, r.cnonce.data.toList] (by simp only [ByteArray.size_append]; show _ ≤ _; simp only [one58]; omega) (by simp [join_cons, join_one]) HZ.out w hF HT
  obtain ⟨Y, HY⟩ : ∃ Y, Hid (bs (sumT a.scheme [r.method.data.toList, r.target.data.toList]) = Y) := ⟨_, rfl⟩
  have hyz : Y.size ≤ 64 := by rw [← HY.out, bs_size]; exact sumT_len _ _
  have h2 : ∀ w, F.told.answers w.tape → Hid (Tabs w) → Calls Tryz.prog 21 #[.int .i64 a.scheme, .string (r.method ++ ⟨#[58]⟩ ++ r.target)] w fun e w' => e = .returned (.string Y) ∧ Below w.heap.size w w' := fun w hF HT => refH_of F a.scheme _ Y [r.method.data.toList, r.target.data.toList] (by simp only [ByteArray.size_append]; show _ ≤ _; simp only [one58]; omega) (by simp [join_cons, join_one]) HY.out w hF HT
  obtain ⟨V, HV⟩ : ∃ V, Hid (bs (respL a r n) = V) := ⟨_, rfl⟩
  have HE : Hid (bs (sumT a.scheme [Z.data.toList, a.nonce.data.toList, Y.data.toList]) = V) := by
    show _ = _
    rw [← HV.out, HR.out, ← HZ.out, bs_data, ← HX.out, bs_data, ← HY.out, bs_data]
  have h3 : ∀ w, F.told.answers w.tape → Hid (Tabs w) → Calls Tryz.prog 21 #[.int .i64 a.scheme, .string (Z ++ ⟨#[58]⟩ ++ a.nonce ++ ⟨#[58]⟩ ++ Y)] w fun e w' => e = .returned (.string V) ∧ Below w.heap.size w w' := fun w hF HT => refH_of F a.scheme _ V [Z.data.toList, a.nonce.data.toList, Y.data.toList] (by simp only [ByteArray.size_append]; show _ ≤ _; simp only [one58]; omega) (by simp [join_cons, join_one]) HE.out w hF HT
  rw [HV.out]
  have s0 := fun W => run_string_add_sum (P := Tryz.prog) W (Z) (⟨#[58]⟩) (by have h58 := one58; omega)
  have s1 := fun W => run_string_add_sum (P := Tryz.prog) W (Z ++ ⟨#[58]⟩) (a.nonce) (by have h58 := one58; simp only [ByteArray.size_append]; omega)
  have s2 := fun W => run_string_add_sum (P := Tryz.prog) W (Z ++ ⟨#[58]⟩ ++ a.nonce) (⟨#[58]⟩) (by have h58 := one58; simp only [ByteArray.size_append]; omega)
  have s3 := fun W => run_string_add_sum (P := Tryz.prog) W (Z ++ ⟨#[58]⟩ ++ a.nonce ++ ⟨#[58]⟩) (Y) (by have h58 := one58; simp only [ByteArray.size_append]; omega)
  have HK0 : Hid (PfK w _ a r) := HK
  clear HK hq
  rw [hs]
  rw [hs] at HK0
  obtain ⟨c0, c1, c2, c4, c5, d0, d1, _, _, _⟩ := HK0.out
  rw [HQE.out] at c5
  rw [hs] at c4
  go_enter Tryz.func9, Tryz.ntmps9
  go_wp2_with fail
  refine (h1 _ (by rw [HK0.out.bel.tape]; exact HFT.out) HK0.out.tabs).mono ?_
  rintro e w1 ⟨rfl, hb1⟩
  have HK1 : Hid (PfK w w1 a r) := HK0.out.below hb1
  clear hb1 c0 c1 c2 c4 c5 d0 d1
  obtain ⟨c0, c1, c2, c4, c5, d0, d1, _, _, _⟩ := HK1.out
  rw [HQE.out] at c5
  rw [hs] at c4
  go_wp2_with fail
  refine (hS _ (by rw [HK1.out.bel.tape]; exact HFT.out) HK1.out.tabs).mono ?_
  rintro e w2 ⟨rfl, hb2⟩
  have HK2 : Hid (PfK w w2 a r) := HK1.out.below hb2
  clear hb2 c0 c1 c2 c4 c5 d0 d1
  obtain ⟨c0, c1, c2, c4, c5, d0, d1, _, _, _⟩ := HK2.out
  rw [HQE.out] at c5
  rw [hs] at c4
  have hQ : w2.drew.cell? ⟨w.heap.size, 0, none⟩ = some (.int .i64 a.scheme) ∧ w2.drew.cell? ⟨w.heap.size, 5, none⟩ = some (.string ⟨#[]⟩) ∧ Hid (PfK w (w2.drew) a r) := PfK.heldRE HQE (HK2.out.drew)
  go_wp2
  go_region_held3 (fun W => W.cell? ⟨w.heap.size, 0, none⟩ = some (.int .i64 a.scheme) ∧ W.cell? ⟨w.heap.size, 5, none⟩ = some (.string ⟨#[]⟩) ∧ Hid (PfK w W a r)) (with_reducible assumption) (first
    | (go_at_call 21; refine (h3 _ (by rw [hKd.bel.tape]; exact HFT.out) hKd.tabs).mono ?_; rintro e we ⟨rfl, hbe⟩; have hKe := hKd.below hbe; have hQe : we.cell? ⟨w.heap.size, 0, none⟩ = some (.int .i64 a.scheme) ∧ we.cell? ⟨w.heap.size, 5, none⟩ = some (.string ⟨#[]⟩) ∧ Hid (PfK w (we) a r) := PfK.heldRE HQE (hKe))
    | (go_at_call 21; refine (h2 _ (by rw [HK2.out.drew.bel.tape]; exact HFT.out) HK2.out.drew.tabs).mono ?_; rintro e wd ⟨rfl, hbd⟩; have hKd := HK2.out.drew.below hbd; have hQd : wd.cell? ⟨w.heap.size, 0, none⟩ = some (.int .i64 a.scheme) ∧ wd.cell? ⟨w.heap.size, 5, none⟩ = some (.string ⟨#[]⟩) ∧ Hid (PfK w (wd) a r) := PfK.heldRE HQE (hKd)))
  go_wp2
  go_ret
  exact ⟨rfl, hKe.bel⟩
set_option maxRecDepth 100000 in
set_option maxHeartbeats 4000000 in
theorem rresp_full_sess (F : Interp) (a : PfA) (r : PfR) (st : Bool) (dv : Value) (n : Nat) (hn : n < 9223372036854775808) (hf : Fits a r) (hs : a.sess = true) (hq : a.qop.data.toList ≠ []) (hi : a.qop.data.toList ≠ qInt) (w : World) (hF : F.told.answers w.tape) (HT : Hid (Tabs w)) :
    Calls Tryz.prog 9 #[.agg #[.int .i64 a.scheme, .string a.realm, .string a.nonce, .string a.opq, .bool a.sess, .string a.qop, .bool st, dv], .agg #[.string r.user, .string r.pass], .string r.method, .string r.target, .string r.body, .string r.cnonce, .int .i64 (n : Int)] w fun e w' => e = .returned (.string (bs (respL a r n))) ∧ Below w.heap.size w w' := by
  have HK := pfK_start w a r st dv HT
  have HFT : Hid (F.told.answers w.tape) := hF
  clear hF
  have hq1 := not_list a.qop _ hi
  have hq2 := not_empty a.qop hq
  unfold qInt at hq1
  have HR : Hid (respL a r n = sumT a.scheme [sumT a.scheme [whoL a r, a.nonce.data.toList, r.cnonce.data.toList], a.nonce.data.toList, countL n, r.cnonce.data.toList, a.qop.data.toList, sumT a.scheme [r.method.data.toList, r.target.data.toList]]) := by
    show _ = _
    unfold respL oneL twoL
    rw [if_neg hq, hs, if_neg hi]
    rfl
  unfold Fits at hf
  obtain ⟨X, HX⟩ : ∃ X, Hid (bs (whoL a r) = X) := ⟨_, rfl⟩
  have hxz : X.size ≤ 64 := by rw [← HX.out, bs_size]; exact sumT_len _ _
  have h1 : ∀ w, F.told.answers w.tape → Hid (Tabs w) → Calls Tryz.prog 21 #[.int .i64 a.scheme, .string (r.user ++ ⟨#[58]⟩ ++ a.realm ++ ⟨#[58]⟩ ++ r.pass)] w fun e w' => e = .returned (.string X) ∧ Below w.heap.size w w' := fun w hF HT => refH_of F a.scheme _ X [r.user.data.toList, a.realm.data.toList, r.pass.data.toList] (by simp only [ByteArray.size_append]; show _ ≤ _; simp only [one58]; omega) (by simp [join_cons, join_one]) HX.out w hF HT
  obtain ⟨Z, HZ⟩ : ∃ Z, Hid (bs (sumT a.scheme [X.data.toList, a.nonce.data.toList, r.cnonce.data.toList]) = Z) := ⟨_, rfl⟩
  have hzz : Z.size ≤ 64 := by rw [← HZ.out, bs_size]; exact sumT_len _ _
  have hS : ∀ w, F.told.answers w.tape → Hid (Tabs w) → Calls Tryz.prog 21 #[.int .i64 a.scheme, .string (X ++ ⟨#[58]⟩ ++ a.nonce ++ ⟨#[58]⟩ ++ r.cnonce)] w fun e w' => e = .returned (.string Z) ∧ Below w.heap.size w w' := fun w hF HT => refH_of F a.scheme _ Z [X.data.toList, a.nonce.data.toList, r.cnonce.data.toList] (by simp only [ByteArray.size_append]; show _ ≤ _; simp only [one58]; omega) (by simp [join_cons, join_one]) HZ.out w hF HT
  obtain ⟨Y, HY⟩ : ∃ Y, Hid (bs (sumT a.scheme [r.method.data.toList, r.target.data.toList]) = Y) := ⟨_, rfl⟩
  have hyz : Y.size ≤ 64 := by rw [← HY.out, bs_size]; exact sumT_len _ _
  have h2 : ∀ w, F.told.answers w.tape → Hid (Tabs w) → Calls Tryz.prog 21 #[.int .i64 a.scheme, .string (r.method ++ ⟨#[58]⟩ ++ r.target)] w fun e w' => e = .returned (.string Y) ∧ Below w.heap.size w w' := fun w hF HT => refH_of F a.scheme _ Y [r.method.data.toList, r.target.data.toList] (by simp only [ByteArray.size_append]; show _ ≤ _; simp only [one58]; omega) (by simp [join_cons, join_one]) HY.out w hF HT
  obtain ⟨K, HKK⟩ : ∃ K, Hid (bs (countL n) = K) := ⟨_, rfl⟩
  have hcz : K.size ≤ 16 := by rw [← HKK.out, bs_size]; exact countL_len _
  have h4 : ∀ w, Hid (Bruijn w) → Calls Tryz.prog 11 #[.int .i64 (n : Int)] w fun e w' => e = .returned (.string K) ∧ Below w.heap.size w w' := fun w HD => by rw [← HKK.out]; exact refCount_any n hn w HD
  obtain ⟨V, HV⟩ : ∃ V, Hid (bs (respL a r n) = V) := ⟨_, rfl⟩
  have HE : Hid (bs (sumT a.scheme [Z.data.toList, a.nonce.data.toList, K.data.toList, r.cnonce.data.toList, a.qop.data.toList, Y.data.toList]) = V) := by
    show _ = _
    rw [← HV.out, HR.out, ← HZ.out, bs_data, ← HX.out, bs_data, ← HY.out, bs_data, ← HKK.out, bs_data]
  have h3 : ∀ w, F.told.answers w.tape → Hid (Tabs w) → Calls Tryz.prog 21 #[.int .i64 a.scheme, .string (Z ++ ⟨#[58]⟩ ++ (a.nonce ++ (⟨#[58]⟩ ++ K ++ ⟨#[58]⟩ ++ r.cnonce ++ ⟨#[58]⟩ ++ a.qop)) ++ ⟨#[58]⟩ ++ Y)] w fun e w' => e = .returned (.string V) ∧ Below w.heap.size w w' := fun w hF HT => refH_of F a.scheme _ V [Z.data.toList, a.nonce.data.toList, K.data.toList, r.cnonce.data.toList, (a.qop : ByteArray).data.toList, Y.data.toList] (by simp only [ByteArray.size_append]; show _ ≤ _; simp only [one58]; omega) (by simp [join_cons, join_one]) HE.out w hF HT
  rw [HV.out]
  have s0 := fun W => run_string_add_sum (P := Tryz.prog) W (⟨#[58]⟩) (K) (by have h58 := one58; omega)
  have s1 := fun W => run_string_add_sum (P := Tryz.prog) W (⟨#[58]⟩ ++ K) (⟨#[58]⟩) (by have h58 := one58; simp only [ByteArray.size_append]; omega)
  have s2 := fun W => run_string_add_sum (P := Tryz.prog) W (⟨#[58]⟩ ++ K ++ ⟨#[58]⟩) (r.cnonce) (by have h58 := one58; simp only [ByteArray.size_append]; omega)
  have s3 := fun W => run_string_add_sum (P := Tryz.prog) W (⟨#[58]⟩ ++ K ++ ⟨#[58]⟩ ++ r.cnonce) (⟨#[58]⟩) (by have h58 := one58; simp only [ByteArray.size_append]; omega)
  have s4 := fun W => run_string_add_sum (P := Tryz.prog) W (⟨#[58]⟩ ++ K ++ ⟨#[58]⟩ ++ r.cnonce ++ ⟨#[58]⟩) (a.qop) (by have h58 := one58; simp only [ByteArray.size_append]; omega)
  have s5 := fun W => run_string_add_sum (P := Tryz.prog) W (a.nonce) (⟨#[58]⟩ ++ K ++ ⟨#[58]⟩ ++ r.cnonce ++ ⟨#[58]⟩ ++ a.qop) (by have h58 := one58; simp only [ByteArray.size_append]; omega)
  have s6 := fun W => run_string_add_sum (P := Tryz.prog) W (Z) (⟨#[58]⟩) (by have h58 := one58; omega)
  have s7 := fun W => run_string_add_sum (P := Tryz.prog) W (Z ++ ⟨#[58]⟩) ((a.nonce ++ (⟨#[58]⟩ ++ K ++ ⟨#[58]⟩ ++ r.cnonce ++ ⟨#[58]⟩ ++ a.qop))) (by have h58 := one58; simp only [ByteArray.size_append]; omega)
  have s8 := fun W => run_string_add_sum (P := Tryz.prog) W (Z ++ ⟨#[58]⟩ ++ (a.nonce ++ (⟨#[58]⟩ ++ K ++ ⟨#[58]⟩ ++ r.cnonce ++ ⟨#[58]⟩ ++ a.qop))) (⟨#[58]⟩) (by have h58 := one58; simp only [ByteArray.size_append]; omega)
  have s9 := fun W => run_string_add_sum (P := Tryz.prog) W (Z ++ ⟨#[58]⟩ ++ (a.nonce ++ (⟨#[58]⟩ ++ K ++ ⟨#[58]⟩ ++ r.cnonce ++ ⟨#[58]⟩ ++ a.qop)) ++ ⟨#[58]⟩) (Y) (by have h58 := one58; simp only [ByteArray.size_append]; omega)
  have HK0 : Hid (PfK w _ a r) := HK
  clear HK hq hi
  rw [hs]
  rw [hs] at HK0
  obtain ⟨c0, c1, c2, c4, c5, d0, d1, _, _, _⟩ := HK0.out
  rw [hs] at c4
  go_enter Tryz.func9, Tryz.ntmps9
  go_wp2_with fail
  refine (h1 _ (by rw [HK0.out.bel.tape]; exact HFT.out) HK0.out.tabs).mono ?_
  rintro e w1 ⟨rfl, hb1⟩
  have HK1 : Hid (PfK w w1 a r) := HK0.out.below hb1
  clear hb1 c0 c1 c2 c4 c5 d0 d1
  obtain ⟨c0, c1, c2, c4, c5, d0, d1, _, _, _⟩ := HK1.out
  rw [hs] at c4
  go_wp2_with fail
  refine (hS _ (by rw [HK1.out.bel.tape]; exact HFT.out) HK1.out.tabs).mono ?_
  rintro e w2 ⟨rfl, hb2⟩
  have HK2 : Hid (PfK w w2 a r) := HK1.out.below hb2
  clear hb2 c0 c1 c2 c4 c5 d0 d1
  obtain ⟨c0, c1, c2, c4, c5, d0, d1, _, _, _⟩ := HK2.out
  rw [hs] at c4
  have hQ : w2.drew.cell? ⟨w.heap.size, 0, none⟩ = some (.int .i64 a.scheme) ∧ w2.drew.cell? ⟨w.heap.size, 5, none⟩ = some (.string a.qop) ∧ Hid (PfK w (w2.drew) a r) := PfK.heldR (HK2.out.drew)
  go_wp2
  go_region_held3 (fun W => W.cell? ⟨w.heap.size, 0, none⟩ = some (.int .i64 a.scheme) ∧ W.cell? ⟨w.heap.size, 5, none⟩ = some (.string a.qop) ∧ Hid (PfK w W a r)) (with_reducible assumption) (
    (go_at_call 11; refine (h4 _ HK2.out.drew.tabs.bruijn).mono ?_; rintro e wc ⟨rfl, hbc⟩; have hKc := HK2.out.drew.below hbc; have hQc : wc.cell? ⟨w.heap.size, 0, none⟩ = some (.int .i64 a.scheme) ∧ wc.cell? ⟨w.heap.size, 5, none⟩ = some (.string a.qop) ∧ Hid (PfK w (wc) a r) := PfK.heldR (hKc)))
  have HK3 : Hid (PfK w wc a r) := hKc
  clear hQ hQc hKc hbc c0 c1 c2 c4 c5 d0 d1
  obtain ⟨c0, c1, c2, c4, c5, d0, d1, _, _, _⟩ := HK3.out
  rw [hs] at c4
  have hQ : wc.drew.cell? ⟨w.heap.size, 0, none⟩ = some (.int .i64 a.scheme) ∧ wc.drew.cell? ⟨w.heap.size, 5, none⟩ = some (.string a.qop) ∧ Hid (PfK w (wc.drew) a r) := PfK.heldR (HK3.out.drew)
  go_wp2
  go_region_held3 (fun W => W.cell? ⟨w.heap.size, 0, none⟩ = some (.int .i64 a.scheme) ∧ W.cell? ⟨w.heap.size, 5, none⟩ = some (.string a.qop) ∧ Hid (PfK w W a r)) (with_reducible assumption) (first
    | (go_at_call 21; refine (h3 _ (by rw [hKd.bel.tape]; exact HFT.out) hKd.tabs).mono ?_; rintro e we ⟨rfl, hbe⟩; have hKe := hKd.below hbe; have hQe : we.cell? ⟨w.heap.size, 0, none⟩ = some (.int .i64 a.scheme) ∧ we.cell? ⟨w.heap.size, 5, none⟩ = some (.string a.qop) ∧ Hid (PfK w (we) a r) := PfK.heldR (hKe))
    | (go_at_call 21; refine (h2 _ (by rw [HK3.out.drew.bel.tape]; exact HFT.out) HK3.out.drew.tabs).mono ?_; rintro e wd ⟨rfl, hbd⟩; have hKd := HK3.out.drew.below hbd; have hQd : wd.cell? ⟨w.heap.size, 0, none⟩ = some (.int .i64 a.scheme) ∧ wd.cell? ⟨w.heap.size, 5, none⟩ = some (.string a.qop) ∧ Hid (PfK w (wd) a r) := PfK.heldR (hKd)))
  go_wp2
  go_ret
  exact ⟨rfl, hKe.bel⟩
set_option maxRecDepth 100000 in
set_option maxHeartbeats 4000000 in
theorem rresp_int_sess (F : Interp) (a : PfA) (r : PfR) (st : Bool) (dv : Value) (n : Nat) (hn : n < 9223372036854775808) (hf : Fits a r) (hs : a.sess = true) (hi : a.qop.data.toList = qInt) (w : World) (hF : F.told.answers w.tape) (HT : Hid (Tabs w)) :
    Calls Tryz.prog 9 #[.agg #[.int .i64 a.scheme, .string a.realm, .string a.nonce, .string a.opq, .bool a.sess, .string a.qop, .bool st, dv], .agg #[.string r.user, .string r.pass], .string r.method, .string r.target, .string r.body, .string r.cnonce, .int .i64 (n : Int)] w fun e w' => e = .returned (.string (bs (respL a r n))) ∧ Below w.heap.size w w' := by
  have HK := pfK_start w a r st dv HT
  have HFT : Hid (F.told.answers w.tape) := hF
  clear hF
  have HQE : Hid (a.qop = ⟨#[97, 117, 116, 104, 45, 105, 110, 116]⟩) := eq_int _ hi
  have HR : Hid (respL a r n = sumT a.scheme [sumT a.scheme [whoL a r, a.nonce.data.toList, r.cnonce.data.toList], a.nonce.data.toList, countL n, r.cnonce.data.toList, a.qop.data.toList, sumT a.scheme [r.method.data.toList, r.target.data.toList, sumT a.scheme [r.body.data.toList]]]) := by
    show _ = _
    unfold respL oneL twoL
    have h0 : ¬ qInt = [] := by decide
    rw [hi, if_neg h0, hs, if_pos rfl]
    rfl
  unfold Fits at hf
  obtain ⟨X, HX⟩ : ∃ X, Hid (bs (whoL a r) = X) := ⟨_, rfl⟩
  have hxz : X.size ≤ 64 := by rw [← HX.out, bs_size]; exact sumT_len _ _
  have h1 : ∀ w, F.told.answers w.tape → Hid (Tabs w) → Calls Tryz.prog 21 #[.int .i64 a.scheme, .string (r.user ++ ⟨#[58]⟩ ++ a.realm ++ ⟨#[58]⟩ ++ r.pass)] w fun e w' => e = .returned (.string X) ∧ Below w.heap.size w w' := fun w hF HT => refH_of F a.scheme _ X [r.user.data.toList, a.realm.data.toList, r.pass.data.toList] (by simp only [ByteArray.size_append]; show _ ≤ _; simp only [one58]; omega) (by simp [join_cons, join_one]) HX.out w hF HT
  obtain ⟨Z, HZ⟩ : ∃ Z, Hid (bs (sumT a.scheme [X.data.toList, a.nonce.data.toList, r.cnonce.data.toList]) = Z) := ⟨_, rfl⟩
  have hzz : Z.size ≤ 64 := by rw [← HZ.out, bs_size]; exact sumT_len _ _
  have hS : ∀ w, F.told.answers w.tape → Hid (Tabs w) → Calls Tryz.prog 21 #[.int .i64 a.scheme, .string (X ++ ⟨#[58]⟩ ++ a.nonce ++ ⟨#[58]⟩ ++ r.cnonce)] w fun e w' => e = .returned (.string Z) ∧ Below w.heap.size w w' := fun w hF HT => refH_of F a.scheme _ Z [X.data.toList, a.nonce.data.toList, r.cnonce.data.toList] (by simp only [ByteArray.size_append]; show _ ≤ _; simp only [one58]; omega) (by simp [join_cons, join_one]) HZ.out w hF HT
  obtain ⟨B, HB⟩ : ∃ B, Hid (bs (sumT a.scheme [r.body.data.toList]) = B) := ⟨_, rfl⟩
  have hbz : B.size ≤ 64 := by rw [← HB.out, bs_size]; exact sumT_len _ _
  have h5 : ∀ w, F.told.answers w.tape → Hid (Tabs w) → Calls Tryz.prog 21 #[.int .i64 a.scheme, .string (r.body)] w fun e w' => e = .returned (.string B) ∧ Below w.heap.size w w' := fun w hF HT => refH_of F a.scheme _ B [r.body.data.toList] (by omega) (by simp [join_one]) HB.out w hF HT
  obtain ⟨Y, HY⟩ : ∃ Y, Hid (bs (sumT a.scheme [r.method.data.toList, r.target.data.toList, B.data.toList]) = Y) := ⟨_, rfl⟩
  have hyz : Y.size ≤ 64 := by rw [← HY.out, bs_size]; exact sumT_len _ _
  have h2 : ∀ w, F.told.answers w.tape → Hid (Tabs w) → Calls Tryz.prog 21 #[.int .i64 a.scheme, .string (r.method ++ ⟨#[58]⟩ ++ r.target ++ (⟨#[58]⟩ ++ B))] w fun e w' => e = .returned (.string Y) ∧ Below w.heap.size w w' := fun w hF HT => refH_of F a.scheme _ Y [r.method.data.toList, r.target.data.toList, B.data.toList] (by simp only [ByteArray.size_append]; show _ ≤ _; simp only [one58]; omega) (by simp [join_cons, join_one]) HY.out w hF HT
  obtain ⟨K, HKK⟩ : ∃ K, Hid (bs (countL n) = K) := ⟨_, rfl⟩
  have hcz : K.size ≤ 16 := by rw [← HKK.out, bs_size]; exact countL_len _
  have h4 : ∀ w, Hid (Bruijn w) → Calls Tryz.prog 11 #[.int .i64 (n : Int)] w fun e w' => e = .returned (.string K) ∧ Below w.heap.size w w' := fun w HD => by rw [← HKK.out]; exact refCount_any n hn w HD
  obtain ⟨V, HV⟩ : ∃ V, Hid (bs (respL a r n) = V) := ⟨_, rfl⟩
  have HE : Hid (bs (sumT a.scheme [Z.data.toList, a.nonce.data.toList, K.data.toList, r.cnonce.data.toList, a.qop.data.toList, Y.data.toList]) = V) := by
    show _ = _
    rw [← HV.out, HR.out, ← HZ.out, bs_data, ← HX.out, bs_data, ← HY.out, bs_data, ← HB.out, bs_data, ← HKK.out, bs_data]
  have hqz : (⟨#[97, 117, 116, 104, 45, 105, 110, 116]⟩ : ByteArray).size = 8 := rfl
  have h3 : ∀ w, F.told.answers w.tape → Hid (Tabs w) → Calls Tryz.prog 21 #[.int .i64 a.scheme, .string (Z ++ ⟨#[58]⟩ ++ (a.nonce ++ (⟨#[58]⟩ ++ K ++ ⟨#[58]⟩ ++ r.cnonce ++ ⟨#[58]⟩ ++ ⟨#[97, 117, 116, 104, 45, 105, 110, 116]⟩)) ++ ⟨#[58]⟩ ++ Y)] w fun e w' => e = .returned (.string V) ∧ Below w.heap.size w w' := fun w hF HT => refH_of F a.scheme _ V [Z.data.toList, a.nonce.data.toList, K.data.toList, r.cnonce.data.toList, (⟨#[97, 117, 116, 104, 45, 105, 110, 116]⟩ : ByteArray).data.toList, Y.data.toList] (by simp only [ByteArray.size_append]; show _ ≤ _; simp only [one58, hqz]; omega) (by simp [join_cons, join_one]) (by rw [← HE.out, HQE.out]) w hF HT
  rw [HV.out]
  have s0 := fun W => run_string_add_sum (P := Tryz.prog) W (⟨#[58]⟩) (K) (by have h58 := one58; omega)
  have s1 := fun W => run_string_add_sum (P := Tryz.prog) W (⟨#[58]⟩ ++ K) (⟨#[58]⟩) (by have h58 := one58; simp only [ByteArray.size_append]; omega)
  have s2 := fun W => run_string_add_sum (P := Tryz.prog) W (⟨#[58]⟩ ++ K ++ ⟨#[58]⟩) (r.cnonce) (by have h58 := one58; simp only [ByteArray.size_append]; omega)
  have s3 := fun W => run_string_add_sum (P := Tryz.prog) W (⟨#[58]⟩ ++ K ++ ⟨#[58]⟩ ++ r.cnonce) (⟨#[58]⟩) (by have h58 := one58; simp only [ByteArray.size_append]; omega)
  have s4 := fun W => run_string_add_sum (P := Tryz.prog) W (⟨#[58]⟩ ++ K ++ ⟨#[58]⟩ ++ r.cnonce ++ ⟨#[58]⟩) (⟨#[97, 117, 116, 104, 45, 105, 110, 116]⟩) (by have h58 := one58; simp only [ByteArray.size_append]; omega)
  have s5 := fun W => run_string_add_sum (P := Tryz.prog) W (a.nonce) (⟨#[58]⟩ ++ K ++ ⟨#[58]⟩ ++ r.cnonce ++ ⟨#[58]⟩ ++ ⟨#[97, 117, 116, 104, 45, 105, 110, 116]⟩) (by have h58 := one58; simp only [ByteArray.size_append]; omega)
  have s6 := fun W => run_string_add_sum (P := Tryz.prog) W (Z) (⟨#[58]⟩) (by have h58 := one58; omega)
  have s7 := fun W => run_string_add_sum (P := Tryz.prog) W (Z ++ ⟨#[58]⟩) ((a.nonce ++ (⟨#[58]⟩ ++ K ++ ⟨#[58]⟩ ++ r.cnonce ++ ⟨#[58]⟩ ++ ⟨#[97, 117, 116, 104, 45, 105, 110, 116]⟩))) (by have h58 := one58; simp only [ByteArray.size_append]; omega)
  have s8 := fun W => run_string_add_sum (P := Tryz.prog) W (Z ++ ⟨#[58]⟩ ++ (a.nonce ++ (⟨#[58]⟩ ++ K ++ ⟨#[58]⟩ ++ r.cnonce ++ ⟨#[58]⟩ ++ ⟨#[97, 117, 116, 104, 45, 105, 110, 116]⟩))) (⟨#[58]⟩) (by have h58 := one58; simp only [ByteArray.size_append]; omega)
  have s9 := fun W => run_string_add_sum (P := Tryz.prog) W (Z ++ ⟨#[58]⟩ ++ (a.nonce ++ (⟨#[58]⟩ ++ K ++ ⟨#[58]⟩ ++ r.cnonce ++ ⟨#[58]⟩ ++ ⟨#[97, 117, 116, 104, 45, 105, 110, 116]⟩)) ++ ⟨#[58]⟩) (Y) (by have h58 := one58; simp only [ByteArray.size_append]; omega)
  have HK0 : Hid (PfK w _ a r) := HK
  clear HK hi
  rw [hs]
  rw [hs] at HK0
  obtain ⟨c0, c1, c2, c4, c5, d0, d1, _, _, _⟩ := HK0.out
  rw [HQE.out] at c5
  rw [hs] at c4
  go_enter Tryz.func9, Tryz.ntmps9
  go_wp2_with fail
  refine (h1 _ (by rw [HK0.out.bel.tape]; exact HFT.out) HK0.out.tabs).mono ?_
  rintro e w1 ⟨rfl, hb1⟩
  have HK1 : Hid (PfK w w1 a r) := HK0.out.below hb1
  clear hb1 c0 c1 c2 c4 c5 d0 d1
  obtain ⟨c0, c1, c2, c4, c5, d0, d1, _, _, _⟩ := HK1.out
  rw [HQE.out] at c5
  rw [hs] at c4
  go_wp2_with fail
  refine (hS _ (by rw [HK1.out.bel.tape]; exact HFT.out) HK1.out.tabs).mono ?_
  rintro e w2 ⟨rfl, hb2⟩
  have HK2 : Hid (PfK w w2 a r) := HK1.out.below hb2
  clear hb2 c0 c1 c2 c4 c5 d0 d1
  obtain ⟨c0, c1, c2, c4, c5, d0, d1, _, _, _⟩ := HK2.out
  rw [HQE.out] at c5
  rw [hs] at c4
  go_wp2_with fail
  refine (h5 _ (by rw [HK2.out.bel.tape]; exact HFT.out) HK2.out.tabs).mono ?_
  rintro e w3 ⟨rfl, hb3⟩
  have HK3 : Hid (PfK w w3 a r) := HK2.out.below hb3
  clear hb3 c0 c1 c2 c4 c5 d0 d1
  obtain ⟨c0, c1, c2, c4, c5, d0, d1, _, _, _⟩ := HK3.out
  rw [HQE.out] at c5
  rw [hs] at c4
  have hQ : w3.drew.cell? ⟨w.heap.size, 0, none⟩ = some (.int .i64 a.scheme) ∧ w3.drew.cell? ⟨w.heap.size, 5, none⟩ = some (.string ⟨#[97, 117, 116, 104, 45, 105, 110, 116]⟩) ∧ Hid (PfK w (w3.drew) a r) := PfK.heldRI HQE (HK3.out.drew)
  go_wp2
  go_region_held3 (fun W => W.cell? ⟨w.heap.size, 0, none⟩ = some (.int .i64 a.scheme) ∧ W.cell? ⟨w.heap.size, 5, none⟩ = some (.string ⟨#[97, 117, 116, 104, 45, 105, 110, 116]⟩) ∧ Hid (PfK w W a r)) (with_reducible assumption) (
    (go_at_call 11; refine (h4 _ HK3.out.drew.tabs.bruijn).mono ?_; rintro e wc ⟨rfl, hbc⟩; have hKc := HK3.out.drew.below hbc; have hQc : wc.cell? ⟨w.heap.size, 0, none⟩ = some (.int .i64 a.scheme) ∧ wc.cell? ⟨w.heap.size, 5, none⟩ = some (.string ⟨#[97, 117, 116, 104, 45, 105, 110, 116]⟩) ∧ Hid (PfK w (wc) a r) := PfK.heldRI HQE (hKc)))
  have HK4 : Hid (PfK w wc a r) := hKc
  clear hQ hQc hKc hbc c0 c1 c2 c4 c5 d0 d1
  obtain ⟨c0, c1, c2, c4, c5, d0, d1, _, _, _⟩ := HK4.out
  rw [HQE.out] at c5
  rw [hs] at c4
  have hQ : wc.drew.cell? ⟨w.heap.size, 0, none⟩ = some (.int .i64 a.scheme) ∧ wc.drew.cell? ⟨w.heap.size, 5, none⟩ = some (.string ⟨#[97, 117, 116, 104, 45, 105, 110, 116]⟩) ∧ Hid (PfK w (wc.drew) a r) := PfK.heldRI HQE (HK4.out.drew)
  go_wp2
  go_region_held3 (fun W => W.cell? ⟨w.heap.size, 0, none⟩ = some (.int .i64 a.scheme) ∧ W.cell? ⟨w.heap.size, 5, none⟩ = some (.string ⟨#[97, 117, 116, 104, 45, 105, 110, 116]⟩) ∧ Hid (PfK w W a r)) (with_reducible assumption) (first
    | (go_at_call 21; refine (h3 _ (by rw [hKd.bel.tape]; exact HFT.out) hKd.tabs).mono ?_; rintro e we ⟨rfl, hbe⟩; have hKe := hKd.below hbe; have hQe : we.cell? ⟨w.heap.size, 0, none⟩ = some (.int .i64 a.scheme) ∧ we.cell? ⟨w.heap.size, 5, none⟩ = some (.string ⟨#[97, 117, 116, 104, 45, 105, 110, 116]⟩) ∧ Hid (PfK w (we) a r) := PfK.heldRI HQE (hKe))
    | (go_at_call 21; refine (h2 _ (by rw [HK4.out.drew.bel.tape]; exact HFT.out) HK4.out.drew.tabs).mono ?_; rintro e wd ⟨rfl, hbd⟩; have hKd := HK4.out.drew.below hbd; have hQd : wd.cell? ⟨w.heap.size, 0, none⟩ = some (.int .i64 a.scheme) ∧ wd.cell? ⟨w.heap.size, 5, none⟩ = some (.string ⟨#[97, 117, 116, 104, 45, 105, 110, 116]⟩) ∧ Hid (PfK w (wd) a r) := PfK.heldRI HQE (hKd)))
  go_wp2
  go_ret
  exact ⟨rfl, hKe.bel⟩
/-- What proves a request, by the document. -/
theorem refResp_any (F : Interp) (a : PfA) (r : PfR) (st : Bool) (dv : Value) (n : Nat) (hn : n < 9223372036854775808) (hf : Fits a r) (w : World) (hF : F.told.answers w.tape) (HT : Hid (Tabs w)) :
    Calls Tryz.prog 9 #[.agg #[.int .i64 a.scheme, .string a.realm, .string a.nonce, .string a.opq, .bool a.sess, .string a.qop, .bool st, dv], .agg #[.string r.user, .string r.pass], .string r.method, .string r.target, .string r.body, .string r.cnonce, .int .i64 (n : Int)] w fun e w' => e = .returned (.string (bs (respL a r n))) ∧ Below w.heap.size w w' := by
  by_cases hq : a.qop.data.toList = []
  · cases hs : a.sess
    · have h := rresp_plain_no F a r st dv n hn hf hs hq w hF HT
      rw [hs] at h
      exact h
    · have h := rresp_plain_sess F a r st dv n hn hf hs hq w hF HT
      rw [hs] at h
      exact h
  · by_cases hi : a.qop.data.toList = qInt
    · cases hs : a.sess
      · have h := rresp_int_no F a r st dv n hn hf hs hi w hF HT
        rw [hs] at h
        exact h
      · have h := rresp_int_sess F a r st dv n hn hf hs hi w hF HT
        rw [hs] at h
        exact h
    · cases hs : a.sess
      · have h := rresp_full_no F a r st dv n hn hf hs hq hi w hF HT
        rw [hs] at h
        exact h
      · have h := rresp_full_sess F a r st dv n hn hf hs hq hi w hF HT
        rw [hs] at h
        exact h
end Go.Proofs.YtgajhmmildbkfaaGreatFmt

/- The header that proves a request, by the document: the walk. -/
namespace Go.Proofs.YtgajhmmildbkfaaGreatFmt
open Go.RowKit Go.Maps
open Go.Extern.Stop Go.Stop Go.Extern
set_option linter.unusedVariables false
set_option linter.unusedSimpArgs false

theorem ps_five (a : PfA) (r : PfR) (m : Nat) (X : ByteArray) (h : bs (respL a r m) = X) : psI (fiveI a r m) = [(⟨#[117, 115, 101, 114, 110, 97, 109, 101]⟩, r.user), (⟨#[114, 101, 97, 108, 109]⟩, a.realm), (⟨#[110, 111, 110, 99, 101]⟩, a.nonce), (⟨#[117, 114, 105]⟩, r.target), (⟨#[114, 101, 115, 112, 111, 110, 115, 101]⟩, X)] := by
  unfold psI fiveI
  simp only [List.map_cons, List.map_nil, bs_self, h]
  rfl
theorem five_marked (a : PfA) (r : PfR) (m : Nat) : ∀ x ∈ fiveI a r m, x.2.2 = true := by
  unfold fiveI
  simp
theorem five_in (a : PfA) (r : PfR) (m : Nat) : ∀ x ∈ fiveI a r m, x ∈ items a r m := by
  intro x hx
  unfold items
  simp only [List.mem_append]
  exact .inl (.inl (.inl (.inl hx)))
theorem take_one {α : Type} {l : List α} {k : Nat} {x : α} (h : l[k]? = some x) : l.take (k + 1) = l.take k ++ [x] := by
  rw [List.take_add_one, h]
  rfl
theorem all_false {l : List Item} {x : Item} (hx : x ∈ l) (h : itemOk x = false) : l.all itemOk = false := by
  rw [List.all_eq_false]
  exact ⟨x, hx, by simp [h]⟩
theorem item_bad {x : Item} (h2 : x.2.2 = true) (h : quoteO x.2.1 = none) : itemOk x = false := by
  unfold quoteO at h
  unfold itemOk
  rw [h2]
  split at h
  · cases h
  · rename_i h1
    simp at h1 ⊢
    exact h1
theorem item_good {x : Item} {q : List UInt8} (h : quoteO x.2.1 = some q) : itemOk x = true := by
  unfold quoteO at h
  unfold itemOk
  split at h
  · rename_i h1
    simp [h1]
  · cases h
theorem itemT_marked {x : Item} (h2 : x.2.2 = true) : bs (itemT x) = bs x.1 ++ ⟨#[61]⟩ ++ bs (quoteL x.2.1) := by
  unfold itemT
  rw [h2, if_pos rfl, show (x.1 ++ 61 :: quoteL x.2.1) = x.1 ++ [61] ++ quoteL x.2.1 by simp, bs_append, bs_append]
  rfl
theorem dig_none : bs (digT []) = ⟨#[68, 105, 103, 101, 115, 116, 32]⟩ := by rfl
theorem dig_first (x : Item) : bs (digT [x]) = bs (digT []) ++ bs (itemT x) := by
  rw [digT_one, dig_none, show (digW ++ 32 :: itemT x) = (digW ++ [32]) ++ itemT x by simp, bs_append]
  rfl
theorem dig_next (L : List Item) (x : Item) (h : L ≠ []) : bs (digT (L ++ [x])) = bs (digT L) ++ ⟨#[44, 32]⟩ ++ bs (itemT x) := by
  rw [digT_snoc L x h, bs_append, bs_append, ← ByteArray.append_assoc]
  rfl
theorem bs_assoc (x y z : ByteArray) : x ++ y ++ z = x ++ (y ++ z) := ByteArray.append_assoc
theorem plain_next (L : List Item) (n t : List UInt8) (lit : ByteArray) (h : L ≠ []) (hl : ⟨#[44, 32]⟩ ++ bs n ++ ⟨#[61]⟩ = lit) : bs (digT (L ++ [(n, t, false)])) = bs (digT L) ++ (lit ++ bs t) := by
  have e : bs (itemT (n, t, false)) = bs n ++ ⟨#[61]⟩ ++ bs t := by
    unfold itemT
    rw [if_neg (by simp), show (n ++ 61 :: t) = n ++ [61] ++ t by simp, bs_append, bs_append]
    rfl
  rw [dig_next L _ h, e, ← hl]
  simp only [bs_assoc]
theorem marked_next (L : List Item) (n t : List UInt8) (lit : ByteArray) (h : L ≠ []) (hl : ⟨#[44, 32]⟩ ++ bs n ++ ⟨#[61]⟩ = lit) : bs (digT (L ++ [(n, t, true)])) = bs (digT L) ++ (lit ++ bs (quoteL t)) := by
  rw [dig_next L _ h, itemT_marked rfl, ← hl]
  simp only [bs_assoc]
theorem dig_fit {a : PfA} {r : PfR} {m : Nat} (h : ∀ x ∈ items a r m, x.1.length ≤ 20 ∧ x.2.1.length ≤ 500) (L : List Item) (hL : ∀ x ∈ L, x ∈ items a r m) (hl : L.length ≤ 20) : (bs (digT L)).size ≤ 30000 := by
  rw [bs_size]
  have h1 := digT_len L (fun x hx => itemT_len x (h x (hL x hx)).1 (h x (hL x hx)).2)
  have h2 : L.length * 1102 ≤ 20 * 1102 := Nat.mul_le_mul_right _ hl
  omega
theorem one_ne (a : PfA) (r : PfR) (m : Nat) : fiveI a r m ≠ [] := by unfold fiveI; simp
theorem two_ne (a : PfA) (r : PfR) (m : Nat) (l : List Item) : fiveI a r m ++ l ≠ [] := by unfold fiveI; simp
def algI (a : PfA) : List Item := [(nAlgo, algT a, false)]
theorem items_eq (a : PfA) (r : PfR) (m : Nat) : items a r m = fiveI a r m ++ algI a ++ qopI a m ++ cnI a r ++ opqI a := rfl
set_option maxRecDepth 100000 in
set_option maxHeartbeats 8000000 in
theorem refDig_yes (F : Interp) (a : PfA) (r : PfR) (st : Bool) (dv : Value) (m : Nat) (hm : m < 4294967296) (hm1 : 1 ≤ m) (hf : Fits a r) (ho : a.opq.size ≤ 500) (hpv : prvO a (m : Int) = none) (he : digO a r (m : Int) = if (items a r m).all itemOk then .ok (digT (items a r m)) else .error 3) (w : World) (hF : F.told.answers w.tape) (HT : Hid (Tabs w)) :
    Calls Tryz.prog 5 #[.agg #[.int .i64 a.scheme, .string a.realm, .string a.nonce, .string a.opq, .bool a.sess, .string a.qop, .bool st, dv], .agg #[.string r.user, .string r.pass], .string r.method, .string r.target, .string r.body, .string r.cnonce, .int .i64 (m : Int)] w fun e w' => e = .returned (refV (digO a r (m : Int))) ∧ Below w.heap.size w w' := by
  have HFT : Hid (F.told.answers w.tape) := hF
  clear hF
  have HE : Hid (digO a r (m : Int) = if (items a r m).all itemOk then .ok (digT (items a r m)) else .error 3) := he
  clear he
  have HZ : Hid (DgZ a r) := dgZ_of hf ho
  have HSM : Hid (∀ x ∈ items a r m, x.1.length ≤ 20 ∧ x.2.1.length ≤ 500) := items_small a r m hf ho
  have HK0 : Hid (AcK w ((w.alloc (.cells #[.int .i64 a.scheme, .string a.realm, .string a.nonce, .string a.opq, .bool a.sess, .string a.qop, .bool st, dv] 24)).alloc (.cells #[.string r.user, .string r.pass] 26)) a st dv r.user r.pass) := acK_start w a st dv r.user r.pass HT
  obtain ⟨q0, e3⟩ : ∃ b, a.qop.toList.isEmpty = b := ⟨_, rfl⟩
  obtain ⟨q1, e4⟩ : ∃ b, (a.qop.toList == [97, 117, 116, 104]) = b := ⟨_, rfl⟩
  obtain ⟨q2, e5⟩ : ∃ b, (a.qop.toList == [97, 117, 116, 104, 45, 105, 110, 116]) = b := ⟨_, rfl⟩
  have hE := prv_form a (m : Int) q0 q1 q2 e3 e4 e5
  rw [hpv] at hE
  have hok : (2 ≤ a.scheme ∧ a.scheme ≤ 3) ∧ (q0 || q1 || q2) = true := by
    by_cases h : (2 ≤ a.scheme ∧ a.scheme ≤ 3) ∧ (q0 || q1 || q2) = true
    · exact h
    · rw [if_neg h] at hE
      cases hE
  clear hE hpv
  have HSC : Hid (a.scheme = 2 ∨ a.scheme = 3) := by show _ ∨ _; omega
  have h1 := fun w => within_yes a.scheme 2 3 hok.1.1 hok.1.2 w
  have h2 := fun w => within_yes (m : Int) 1 4294967295 (by omega) (by omega) w
  obtain ⟨X, HX⟩ : ∃ X, Hid (bs (respL a r m) = X) := ⟨_, rfl⟩
  have HXZ : Hid (X.size ≤ 64) := by show _ ≤ _; rw [← HX.out, bs_size]; exact respL_len a r m
  have hrs : ∀ w, F.told.answers w.tape → Hid (Tabs w) → Calls Tryz.prog 9 #[.agg #[.int .i64 a.scheme, .string a.realm, .string a.nonce, .string a.opq, .bool a.sess, .string a.qop, .bool st, dv], .agg #[.string r.user, .string r.pass], .string r.method, .string r.target, .string r.body, .string r.cnonce, .int .i64 (m : Int)] w fun e w' => e = .returned (.string X) ∧ Below w.heap.size w w' := fun w hF HT => by rw [← HX.out]; exact refResp_any F a r st dv m (by omega) hf w hF HT
  have hq := hok.2
  clear hok hf ho
  obtain ⟨c0, c1, c2, c3, c4, c5, c6, c7, d0, d1, _, _, _⟩ := HK0.out
  go_enter Tryz.func5, Tryz.ntmps5
  go_upto_region 1 with fail
  clear c0 c1 c2 c3 c4 c5 c6 c7 d0 d1
  generalize ((w.alloc (.cells #[.int .i64 a.scheme, .string a.realm, .string a.nonce, .string a.opq, .bool a.sess, .string a.qop, .bool st, dv] 24)).alloc (.cells #[.string r.user, .string r.pass] 26)) = W0 at HK0 ⊢
  go_cut [44] (fun v wc => v = .bool false ∧ Hid (AcK w wc a st dv r.user r.pass))
  case first =>
    obtain ⟨c0, c1, c2, c3, c4, c5, c6, c7, d0, d1, _, _, _⟩ := HK0.out
    clear HSC
    rcases q_three hq with h | ⟨h, h'⟩ | ⟨h, h', h''⟩
    all_goals
      subst_vars
      go_wp2_with fail
      refine (h1 _).mono ?_
      rintro e w1 ⟨rfl, rfl⟩
      go_wp2
      go_meet
      exact ⟨rfl, HK0⟩
  case rest =>
    obtain ⟨rfl, HK1⟩ := hcut
    clear HK0 hq e4 e5 h1
    obtain ⟨c0, c1, c2, c3, c4, c5, c6, c7, d0, d1, _, _, _⟩ := HK1.out
    go_wp2_with fail
    refine (h2 _).mono ?_
    rintro e w9 ⟨rfl, hw⟩
    obtain rfl := hw.symm
    clear hw
    go_upto_region 5 with fail
    clear h2
    have hmm := @run_makeMap Tryz.prog
    have law : Maps.Keyed Tryz.prog 3 := Maps.int_keyed Tryz.underlying3
    have p0 := World.ownsMap_made (H := Unit) wc Tryz.prog 3 (plainElem Tryz.prog 9)
    obtain ⟨w1, r1, o1, g1⟩ := p0.update law Tryz.underlying38 (by unfold maxLen; omega) (keyOf_int_mk Tryz.underlying3 (a := 2) (by decide)) (plainElem_string (s := ⟨#[77, 68, 53]⟩) Tryz.underlying9 (by decide))
    obtain ⟨w2, r2, o2, g2⟩ := o1.update law Tryz.underlying38 (by unfold maxLen; omega) (keyOf_int_mk Tryz.underlying3 (a := 3) (by decide)) (plainElem_string (s := ⟨#[83, 72, 65, 45, 50, 53, 54]⟩) Tryz.underlying9 (by decide))
    obtain ⟨v, ps, r3, hv⟩ := o2.lookup law Tryz.underlying38 (zeroS _) (plainElem_string (s := ⟨#[]⟩) Tryz.underlying9 (by decide)) (keyOf_int_mk Tryz.underlying3 (a := a.scheme) (by rcases HSC.out with h | h <;> rw [h] <;> decide))
    obtain ⟨nm, rfl, hnm, hnx⟩ := plainElem_string_inv Tryz.underlying9 hv
    have HB2 : Hid (Below wc.heap.size wc w2) := (((Below.refl _ _).alloc (Nat.le_refl _) _).grown g1 (by simp) (by simp)).grown g2 (Nat.le_trans (by simp) g1.size) (by simp)
    have HN : Hid (nm = bs (nmO a.scheme)) := by
      show _ = _
      have h4 := (Prod.mk.inj hnm).1
      erw [name_at a.scheme HSC.out] at h4
      simp only [DataW.lit.injEq, Lit.string.injEq] at h4
      rw [h4, bs_self]
    clear hv hnm hnx p0 o1 o2 g1 g2
    have HK2 : Hid (AcK w w2 a st dv r.user r.pass) := HK1.out.below HB2.out
    clear c0 c1 c2 c3 c4 c5 c6 c7 d0 d1
    obtain ⟨c0, c1, c2, c3, c4, c5, c6, c7, d0, d1, _, _, _⟩ := HK2.out
    go_upto_region 6 with fail
    clear hmm law r1 r2 r3
    obtain ⟨NM, HNM⟩ : ∃ N, Hid (bs (algT a) = N) := ⟨_, rfl⟩
    have HNZ : Hid (NM.size ≤ 100) := by
      show _ ≤ _
      rw [← HNM.out, bs_size]
      unfold algT
      split <;> split <;> decide
    have hnz : nm.size ≤ 20 := by
      rw [HN.out, bs_size]
      unfold nmO
      split <;> decide
    have HA : Hid (algT a = nmO a.scheme ++ if a.sess then aSess else []) := rfl
    go_cut [54] (fun v wc => ∃ b, v = .bool b ∧ a.sess = b ∧ Hid (AcK w wc a st dv r.user r.pass))
    case first =>
      go_wp2
      go_meet
      exact ⟨_, rfl, rfl, HK2⟩
    obtain ⟨b, rfl, hs, HK2b⟩ := hcut
    clear c0 c1 c2 c3 c4 c5 c6 c7 d0 d1
    go_upto_if 54 with fail
    go_cut [16] (fun v wc => v = .string NM ∧ Hid (AcK w wc a st dv r.user r.pass))
    case first =>
      have hA := HA.out
      rw [hs] at hA
      clear hs
      cases b
      · have HX2 : Hid (nm = NM) := by show _ = _; rw [← HNM.out, hA, HN.out]; simp
        clear hA
        go_wp2
        go_meet
        exact ⟨by rw [HX2.out], HK2b⟩
      · have HX2 : Hid (nm ++ ⟨#[45, 115, 101, 115, 115]⟩ = NM) := by show _ = _; rw [← HNM.out, hA, HN.out, if_pos rfl, bs_append]; rfl
        have s0 := fun W => run_string_add_sum (P := Tryz.prog) W nm ⟨#[45, 115, 101, 115, 115]⟩ (by have : (⟨#[45, 115, 101, 115, 115]⟩ : ByteArray).size = 5 := rfl; omega)
        clear hA
        go_wp2
        go_meet
        exact ⟨by rw [HX2.out], HK2b⟩
    case rest =>
      obtain ⟨rfl, HK3⟩ := hcut
      clear HK2 HK2b HK1 HB2 hnz HN hs b
      go_upto_region 9 with fail
      have hK : AcK w wc.drew a st dv r.user r.pass := HK3.out.below (Below.refl _ _).drew
      have hQ : wc.drew.cell? ⟨w.heap.size, 0, none⟩ = some (.int .i64 a.scheme) ∧ wc.drew.cell? ⟨w.heap.size, 1, none⟩ = some (.string a.realm) ∧ wc.drew.cell? ⟨w.heap.size, 2, none⟩ = some (.string a.nonce) ∧ wc.drew.cell? ⟨w.heap.size, 3, none⟩ = some (.string a.opq) ∧ wc.drew.cell? ⟨w.heap.size, 4, none⟩ = some (.bool a.sess) ∧ wc.drew.cell? ⟨w.heap.size, 5, none⟩ = some (.string a.qop) ∧ wc.drew.cell? ⟨w.heap.size, 6, none⟩ = some (.bool st) ∧ wc.drew.cell? ⟨w.heap.size, 7, none⟩ = some dv ∧ wc.drew.cell? ⟨w.heap.size + 1, 0, none⟩ = some (.string r.user) ∧ wc.drew.cell? ⟨w.heap.size + 1, 1, none⟩ = some (.string r.pass) ∧ Hid (AcK w (wc.drew) a st dv r.user r.pass) := hK.held
      go_region_held3 (fun W => W.cell? ⟨w.heap.size, 0, none⟩ = some (.int .i64 a.scheme) ∧ W.cell? ⟨w.heap.size, 1, none⟩ = some (.string a.realm) ∧ W.cell? ⟨w.heap.size, 2, none⟩ = some (.string a.nonce) ∧ W.cell? ⟨w.heap.size, 3, none⟩ = some (.string a.opq) ∧ W.cell? ⟨w.heap.size, 4, none⟩ = some (.bool a.sess) ∧ W.cell? ⟨w.heap.size, 5, none⟩ = some (.string a.qop) ∧ W.cell? ⟨w.heap.size, 6, none⟩ = some (.bool st) ∧ W.cell? ⟨w.heap.size, 7, none⟩ = some dv ∧ W.cell? ⟨w.heap.size + 1, 0, none⟩ = some (.string r.user) ∧ W.cell? ⟨w.heap.size + 1, 1, none⟩ = some (.string r.pass) ∧ Hid (AcK w W a st dv r.user r.pass)) (first | with_reducible assumption | exact (hKb.below ((Below.refl _ _).alloc (Nat.le_refl _) _)).held)
        (first | (go_at_call 9; refine (hrs _ (by rw [hK.bel.tape]; exact HFT.out) hK.tabs).mono ?_; rintro e wb ⟨rfl, hbb⟩; have hKb := hK.below hbb; have hQb : wb.cell? ⟨w.heap.size, 0, none⟩ = some (.int .i64 a.scheme) ∧ wb.cell? ⟨w.heap.size, 1, none⟩ = some (.string a.realm) ∧ wb.cell? ⟨w.heap.size, 2, none⟩ = some (.string a.nonce) ∧ wb.cell? ⟨w.heap.size, 3, none⟩ = some (.string a.opq) ∧ wb.cell? ⟨w.heap.size, 4, none⟩ = some (.bool a.sess) ∧ wb.cell? ⟨w.heap.size, 5, none⟩ = some (.string a.qop) ∧ wb.cell? ⟨w.heap.size, 6, none⟩ = some (.bool st) ∧ wb.cell? ⟨w.heap.size, 7, none⟩ = some dv ∧ wb.cell? ⟨w.heap.size + 1, 0, none⟩ = some (.string r.user) ∧ wb.cell? ⟨w.heap.size + 1, 1, none⟩ = some (.string r.pass) ∧ Hid (AcK w (wb) a st dv r.user r.pass) := hKb.held))
      have HP7 : Hid (Pars (wb.alloc (.cells #[.string ⟨#[117, 115, 101, 114, 110, 97, 109, 101]⟩, .string r.user, .string ⟨#[114, 101, 97, 108, 109]⟩, .string a.realm, .string ⟨#[110, 111, 110, 99, 101]⟩, .string a.nonce, .string ⟨#[117, 114, 105]⟩, .string r.target, .string ⟨#[114, 101, 115, 112, 111, 110, 115, 101]⟩, .string X] 40)) (some ⟨wb.heap.size, 0, none⟩) 5 wb.heap.size 0 (psI (fiveI a r m))) := by
        show Pars _ _ _ _ _ _
        rw [ps_five a r m X HX.out]
        exact five_pars wb _ (⟨#[117, 115, 101, 114, 110, 97, 109, 101]⟩, r.user) (⟨#[114, 101, 97, 108, 109]⟩, a.realm) (⟨#[110, 111, 110, 99, 101]⟩, a.nonce) (⟨#[117, 114, 105]⟩, r.target) (⟨#[114, 101, 115, 112, 111, 110, 115, 101]⟩, X)
      have HK7 : Hid (AcK w (wb.alloc (.cells #[.string ⟨#[117, 115, 101, 114, 110, 97, 109, 101]⟩, .string r.user, .string ⟨#[114, 101, 97, 108, 109]⟩, .string a.realm, .string ⟨#[110, 111, 110, 99, 101]⟩, .string a.nonce, .string ⟨#[117, 114, 105]⟩, .string r.target, .string ⟨#[114, 101, 115, 112, 111, 110, 115, 101]⟩, .string X] 40)) a st dv r.user r.pass) := hKb.below ((Below.refl _ _).alloc (Nat.le_refl _) _)
      clear hKb hbb hK HK3 hrs
      try clear hQb
      try clear hQ
      try clear hHeld
      try clear hHeld
      generalize (wb.alloc (.cells #[.string ⟨#[117, 115, 101, 114, 110, 97, 109, 101]⟩, .string r.user, .string ⟨#[114, 101, 97, 108, 109]⟩, .string a.realm, .string ⟨#[110, 111, 110, 99, 101]⟩, .string a.nonce, .string ⟨#[117, 114, 105]⟩, .string r.target, .string ⟨#[114, 101, 115, 112, 111, 110, 115, 101]⟩, .string X] 40)) = W7 at HP7 HK7 ⊢
      generalize wb.heap.size = B at HP7 ⊢
      have HFI : Hid (∀ x ∈ fiveI a r m, x.1.length ≤ 20 ∧ x.2.1.length ≤ 500 ∧ x.2.2 = true) := fun x hx => ⟨(HSM.out x (five_in a r m x hx)).1, (HSM.out x (five_in a r m x hx)).2, five_marked a r m x hx⟩
      have HFL : Hid ((fiveI a r m).length = 5) := rfl
      go_wp2
      go_loopw [17, 79] (fun v i wr => ∃ (k : Nat) (x : ByteArray), k ≤ 5 ∧ i = .int .i64 k ∧ v = .string x ∧ x.size ≤ 6000 ∧ Hid (x = bs (digT ((fiveI a r m).take k))) ∧ Hid (((fiveI a r m).take k).all itemOk = true) ∧ Hid (AcK w wr a st dv r.user r.pass) ∧ Hid (Pars wr (some ⟨B, 0, none⟩) 5 B 0 (psI (fiveI a r m)))) (fun _ i _ => 5 - (intOf i).toNat)
      case atStart => exact ⟨0, _, Nat.zero_le _, rfl, rfl, by decide, dig_none.symm, rfl, HK7, HP7⟩
      case round =>
        obtain ⟨k, x, hk, rfl, rfl, hxz, HXS, HOK, HKR, HPR⟩ := hrel
        clear HK7 HP7
        by_cases hlt : k < 5
        · have hltz : (k : Int) < 5 := by omega
          obtain ⟨it, hit⟩ : ∃ it, (fiveI a r m)[k]? = some it := ⟨(fiveI a r m)[k]'(by have := HFL.out; omega), List.getElem?_eq_getElem _⟩
          have HIT : Hid ((fiveI a r m)[k]? = some it) := hit
          obtain ⟨z1, z2, z3⟩ := HFI.out it (List.mem_of_getElem? hit)
          have HMK : Hid (it.2.2 = true) := z3
          have hp : (psI (fiveI a r m))[k]? = some (bs it.1, bs it.2.1) := by unfold psI; rw [List.getElem?_map, hit]; rfl
          obtain ⟨pn, HPN⟩ : ∃ y, Hid (bs it.1 = y) := ⟨_, rfl⟩
          obtain ⟨pv, HPV⟩ : ∃ y, Hid (bs it.2.1 = y) := ⟨_, rfl⟩
          obtain ⟨V, HV⟩ : ∃ y, Hid (bs (quoteL it.2.1) = y) := ⟨_, rfl⟩
          have hn1 : pn.size ≤ 20 := by rw [← HPN.out, bs_size]; exact z1
          have hn2 : pv.size ≤ 500 := by rw [← HPV.out, bs_size]; exact z2
          have hn3 : V.size ≤ 1100 := by
            rw [← HV.out, bs_size]
            unfold quoteL
            have := escL_length it.2.1
            simp
            omega
          have c1 := HPR.out.one k _ hp
          have c2 := HPR.out.two k _ hp
          dsimp only at c1 c2
          rw [HPN.out, Nat.zero_add] at c1
          rw [HPV.out, Nat.zero_add] at c2
          have hqt := fun w => refQuote_any pv (by omega) w
          have hpd : pv.data.toList = it.2.1 := by rw [← HPV.out, bs_data]
          simp only [hpd, HV.out] at hqt
          have HB1 : Hid (Below wr.heap.size wr (wr.alloc (.cells #[.string pn, .string pv] 40))) := (Below.refl _ _).alloc (Nat.le_refl _) _
          have HK8 : Hid (AcK w (wr.alloc (.cells #[.string pn, .string pv] 40)) a st dv r.user r.pass) := HKR.out.below HB1.out
          have HP8 : Hid (Pars (wr.alloc (.cells #[.string pn, .string pv] 40)) (some ⟨B, 0, none⟩) 5 B 0 (psI (fiveI a r m))) := HPR.out.below HB1.out
          have HTK : Hid ((fiveI a r m).take (k + 1) = (fiveI a r m).take k ++ [it]) := take_one hit
          have hn4 : (⟨#[44, 32]⟩ : ByteArray).size = 2 := rfl
          have hn5 : (⟨#[61]⟩ : ByteArray).size = 1 := rfl
          clear hit hp z1 z2 z3 hpd
          by_cases hk0 : k = 0
          · have HNX : Hid (bs (digT ((fiveI a r m).take (k + 1))) = x ++ (pn ++ ⟨#[61]⟩ ++ V)) := by
              show _ = _
              rw [HTK.out, HXS.out, hk0, List.take_zero, List.nil_append, dig_first, itemT_marked HMK.out, HPN.out, HV.out]
            have HNZ2 : Hid ((x ++ (pn ++ ⟨#[61]⟩ ++ V)).size ≤ 6000) := by
              show _ ≤ _
              rw [← HNX.out, bs_size]
              have h := digT_len ((fiveI a r m).take (k + 1)) (fun y hy => itemT_len y (HFI.out y (List.mem_of_mem_take hy)).1 (HFI.out y (List.mem_of_mem_take hy)).2.1)
              rw [List.length_take, HFL.out] at h
              omega
            have s1 := fun W => run_string_add_sum (P := Tryz.prog) W pn ⟨#[61]⟩ (by omega)
            have s2 := fun W => run_string_add_sum (P := Tryz.prog) W (pn ++ ⟨#[61]⟩) V (by simp only [ByteArray.size_append]; omega)
            have s3 := fun W => run_string_add_sum (P := Tryz.prog) W x (pn ++ ⟨#[61]⟩ ++ V) (by simp only [ByteArray.size_append]; omega)
            subst hk0
            go_wp2_with fail
            refine (hqt _).mono ?_
            rintro e w2 ⟨hw, ⟨rfl, hqq⟩ | ⟨rfl, hqq⟩⟩
            · obtain rfl := hw.symm
              have HQQ : Hid (itemOk it = true) := item_good hqq
              clear hw hqq
              go_wp2
              go_roundw
              case rel => exact ⟨0 + 1, _, by omega, by go_num, rfl, HNZ2.out, HNX.out.symm, by show _ = _; rw [HTK.out, List.all_append, HOK.out, List.all_cons, List.all_nil, HQQ.out]; rfl, HK8, HP8⟩
              case measure => simp [intOf]
            · obtain rfl := hw.symm
              have HQQ : Hid (itemOk it = false) := item_bad HMK.out hqq
              clear hw hqq
              go_wp2
              go_ret2
              exact ⟨by rw [HE.out, all_false (five_in a r m it (List.mem_of_getElem? HIT.out)) HQQ.out]; rfl, HK8.out.bel⟩
          · have hkp : (0 : Int) < (k : Int) := by omega
            have HNX : Hid (bs (digT ((fiveI a r m).take (k + 1))) = x ++ ⟨#[44, 32]⟩ ++ (pn ++ ⟨#[61]⟩ ++ V)) := by
              show _ = _
              have hne : (fiveI a r m).take k ≠ [] := by
                intro h
                have h2 := congrArg List.length h
                rw [List.length_take, HFL.out] at h2
                simp at h2
                omega
              rw [HTK.out, dig_next _ _ hne, HXS.out, itemT_marked HMK.out, HPN.out, HV.out]
            have HNZ2 : Hid ((x ++ ⟨#[44, 32]⟩ ++ (pn ++ ⟨#[61]⟩ ++ V)).size ≤ 6000) := by
              show _ ≤ _
              rw [← HNX.out, bs_size]
              have h := digT_len ((fiveI a r m).take (k + 1)) (fun y hy => itemT_len y (HFI.out y (List.mem_of_mem_take hy)).1 (HFI.out y (List.mem_of_mem_take hy)).2.1)
              rw [List.length_take, HFL.out] at h
              omega
            have s0 := fun W => run_string_add_sum (P := Tryz.prog) W x ⟨#[44, 32]⟩ (by omega)
            have s1 := fun W => run_string_add_sum (P := Tryz.prog) W pn ⟨#[61]⟩ (by omega)
            have s2 := fun W => run_string_add_sum (P := Tryz.prog) W (pn ++ ⟨#[61]⟩) V (by simp only [ByteArray.size_append]; omega)
            have s3 := fun W => run_string_add_sum (P := Tryz.prog) W (x ++ ⟨#[44, 32]⟩) (pn ++ ⟨#[61]⟩ ++ V) (by simp only [ByteArray.size_append]; omega)
            go_wp2_with fail
            refine (hqt _).mono ?_
            rintro e w2 ⟨hw, ⟨rfl, hqq⟩ | ⟨rfl, hqq⟩⟩
            · obtain rfl := hw.symm
              have HQQ : Hid (itemOk it = true) := item_good hqq
              clear hw hqq
              go_wp2
              go_roundw
              case rel => exact ⟨k + 1, _, by omega, by go_num, rfl, HNZ2.out, HNX.out.symm, by show _ = _; rw [HTK.out, List.all_append, HOK.out, List.all_cons, List.all_nil, HQQ.out]; rfl, HK8, HP8⟩
              case measure => simp [intOf]; omega
            · obtain rfl := hw.symm
              have HQQ : Hid (itemOk it = false) := item_bad HMK.out hqq
              clear hw hqq
              go_wp2
              go_ret2
              exact ⟨by rw [HE.out, all_false (five_in a r m it (List.mem_of_getElem? HIT.out)) HQQ.out]; rfl, HK8.out.bel⟩
        · have hltz : ¬ (k : Int) < 5 := by omega
          obtain rfl : k = 5 := by omega
          have HX5 : Hid (x = bs (digT (fiveI a r m))) := HXS
          have HO5 : Hid ((fiveI a r m).all itemOk = true) := HOK
          clear HXS HOK HPR HFI hlt hltz
          have hx6 : x.size ≤ 6000 := hxz
          have hnz : NM.size ≤ 100 := HNZ.out
          have hl1 : (⟨#[44, 32, 97, 108, 103, 111, 114, 105, 116, 104, 109, 61]⟩ : ByteArray).size = 12 := rfl
          have s1 := fun W => run_string_add_sum (P := Tryz.prog) W ⟨#[44, 32, 97, 108, 103, 111, 114, 105, 116, 104, 109, 61]⟩ NM (by omega)
          have s2 := fun W => run_string_add_sum (P := Tryz.prog) W x (⟨#[44, 32, 97, 108, 103, 111, 114, 105, 116, 104, 109, 61]⟩ ++ NM) (by simp only [ByteArray.size_append]; omega)
          have HY : Hid (x ++ (⟨#[44, 32, 97, 108, 103, 111, 114, 105, 116, 104, 109, 61]⟩ ++ NM) = bs (digT (fiveI a r m ++ algI a))) := by
            show _ = _
            unfold algI
            rw [plain_next (fiveI a r m) nAlgo (algT a) _ (one_ne a r m) rfl, HX5.out, HNM.out]
            rfl
          go_upto_region 20 with fail
          clear s1 s2
          generalize x ++ (⟨#[44, 32, 97, 108, 103, 111, 114, 105, 116, 104, 109, 61]⟩ ++ NM) = y at HY ⊢
          go_cut [111] (fun v wd => ∃ b, v = .bool b ∧ Hid (a.qop.toList.isEmpty = !b) ∧ Hid (AcK w wd a st dv r.user r.pass))
          case first =>
            obtain ⟨c0, c1, c2, c3, c4, c5, c6, c7, d0, d1, _, _, _⟩ := HKR.out
            go_wp2
            go_meet
            exact ⟨_, rfl, by show _ = _; rw [e3]; simp, HKR⟩
          obtain ⟨b, rfl, HBQ, HKS⟩ := hcut
          clear HKR
          go_upto_if 111 with fail
          go_cut [17] (fun v we => ∃ y2, v = .string y2 ∧ y2.size ≤ 30000 ∧ Hid (y2 = bs (digT (fiveI a r m ++ algI a ++ qopI a m))) ∧ Hid (AcK w we a st dv r.user r.pass))
          case first =>
            cases b
            · have HQE : Hid (qopI a m = []) := by
                show _ = _
                unfold qopI
                rw [if_pos]
                have h := HBQ.out
                rw [ByteArray.toList_eq] at h
                simpa using h
              have hyz : y.size ≤ 30000 := by rw [HY.out]; exact dig_fit HSM.out _ (fun z hz => by rw [items_eq]; simp only [List.mem_append] at hz ⊢; exact .inl (.inl (.inl hz))) (by unfold fiveI algI; simp)
              go_wp2
              go_meet
              exact ⟨y, rfl, hyz, by show _ = _; rw [HQE.out, List.append_nil]; exact HY.out, HKS⟩
            · have HQE : Hid (qopI a m = [(nQop, a.qop.data.toList, false), (nNc, countL m, false)]) := by
                show _ = _
                unfold qopI
                rw [if_neg]
                have h := HBQ.out
                rw [ByteArray.toList_eq] at h
                simpa using h
              have hyz : y.size ≤ 30000 := by rw [HY.out]; exact dig_fit HSM.out _ (fun z hz => by rw [items_eq]; simp only [List.mem_append] at hz ⊢; exact .inl (.inl (.inl hz))) (by unfold fiveI algI; simp)
              obtain ⟨C, HC⟩ : ∃ C, Hid (bs (countL m) = C) := ⟨_, rfl⟩
              have hcz : C.size ≤ 3000 := by rw [← HC.out, bs_size]; exact Nat.le_trans (countL_len _) (by decide)
              have hct := fun w hB => refCount_any m (by omega) w hB
              simp only [HC.out] at hct
              have hqz : a.qop.size ≤ 3000 := by have h1 : a.qop.data.toList.length = a.qop.size := Array.length_toList; have h2 := HZ.out.hzq; omega
              have hl2 : (⟨#[44, 32, 113, 111, 112, 61]⟩ : ByteArray).size = 6 := rfl
              have hl3 : (⟨#[44, 32, 110, 99, 61]⟩ : ByteArray).size = 5 := rfl
              have s1 := fun W => run_string_add_sum (P := Tryz.prog) W ⟨#[44, 32, 113, 111, 112, 61]⟩ a.qop (by omega)
              have s2 := fun W => run_string_add_sum (P := Tryz.prog) W (⟨#[44, 32, 113, 111, 112, 61]⟩ ++ a.qop) ⟨#[44, 32, 110, 99, 61]⟩ (by simp only [ByteArray.size_append]; omega)
              have s3 := fun W => run_string_add_sum (P := Tryz.prog) W (⟨#[44, 32, 113, 111, 112, 61]⟩ ++ a.qop ++ ⟨#[44, 32, 110, 99, 61]⟩) C (by simp only [ByteArray.size_append]; omega)
              have s4 := fun W => run_string_add_sum (P := Tryz.prog) W y (⟨#[44, 32, 113, 111, 112, 61]⟩ ++ a.qop ++ ⟨#[44, 32, 110, 99, 61]⟩ ++ C) (by simp only [ByteArray.size_append]; omega)
              have HY2 : Hid (y ++ (⟨#[44, 32, 113, 111, 112, 61]⟩ ++ a.qop ++ ⟨#[44, 32, 110, 99, 61]⟩ ++ C) = bs (digT (fiveI a r m ++ algI a ++ qopI a m))) := by
                show _ = _
                rw [HQE.out, show (fiveI a r m ++ algI a ++ [(nQop, a.qop.data.toList, false), (nNc, countL m, false)]) = (fiveI a r m ++ algI a ++ [(nQop, a.qop.data.toList, false)]) ++ [(nNc, countL m, false)] by simp, plain_next _ nNc (countL m) ⟨#[44, 32, 110, 99, 61]⟩ (by rw [List.append_assoc]; exact two_ne a r m _) rfl, plain_next _ nQop a.qop.data.toList ⟨#[44, 32, 113, 111, 112, 61]⟩ (two_ne a r m _) rfl, HY.out, HC.out, bs_self]
                simp only [bs_assoc]
              have HYZ2 : Hid ((y ++ (⟨#[44, 32, 113, 111, 112, 61]⟩ ++ a.qop ++ ⟨#[44, 32, 110, 99, 61]⟩ ++ C)).size ≤ 30000) := by
                show _ ≤ _
                rw [HY2.out]
                exact dig_fit HSM.out _ (fun z hz => by rw [items_eq]; simp only [List.mem_append] at hz ⊢; exact .inl (.inl hz)) (by rw [HQE.out]; unfold fiveI algI; simp)
              have hK : AcK w wc.drew a st dv r.user r.pass := HKS.out.below (Below.refl _ _).drew
              go_upto_region 21 with fail
              have hQ : wc.drew.cell? ⟨w.heap.size, 0, none⟩ = some (.int .i64 a.scheme) ∧ wc.drew.cell? ⟨w.heap.size, 1, none⟩ = some (.string a.realm) ∧ wc.drew.cell? ⟨w.heap.size, 2, none⟩ = some (.string a.nonce) ∧ wc.drew.cell? ⟨w.heap.size, 3, none⟩ = some (.string a.opq) ∧ wc.drew.cell? ⟨w.heap.size, 4, none⟩ = some (.bool a.sess) ∧ wc.drew.cell? ⟨w.heap.size, 5, none⟩ = some (.string a.qop) ∧ wc.drew.cell? ⟨w.heap.size, 6, none⟩ = some (.bool st) ∧ wc.drew.cell? ⟨w.heap.size, 7, none⟩ = some dv ∧ wc.drew.cell? ⟨w.heap.size + 1, 0, none⟩ = some (.string r.user) ∧ wc.drew.cell? ⟨w.heap.size + 1, 1, none⟩ = some (.string r.pass) ∧ Hid (AcK w (wc.drew) a st dv r.user r.pass) := hK.held
              go_region_held3 (fun W => W.cell? ⟨w.heap.size, 0, none⟩ = some (.int .i64 a.scheme) ∧ W.cell? ⟨w.heap.size, 1, none⟩ = some (.string a.realm) ∧ W.cell? ⟨w.heap.size, 2, none⟩ = some (.string a.nonce) ∧ W.cell? ⟨w.heap.size, 3, none⟩ = some (.string a.opq) ∧ W.cell? ⟨w.heap.size, 4, none⟩ = some (.bool a.sess) ∧ W.cell? ⟨w.heap.size, 5, none⟩ = some (.string a.qop) ∧ W.cell? ⟨w.heap.size, 6, none⟩ = some (.bool st) ∧ W.cell? ⟨w.heap.size, 7, none⟩ = some dv ∧ W.cell? ⟨w.heap.size + 1, 0, none⟩ = some (.string r.user) ∧ W.cell? ⟨w.heap.size + 1, 1, none⟩ = some (.string r.pass) ∧ Hid (AcK w W a st dv r.user r.pass)) (with_reducible assumption)
                (first | (go_at_call 11; refine (hct _ hK.tabs.bruijn).mono ?_; rintro e wb ⟨rfl, hbb⟩; have hKb := hK.below hbb; have hQb : wb.cell? ⟨w.heap.size, 0, none⟩ = some (.int .i64 a.scheme) ∧ wb.cell? ⟨w.heap.size, 1, none⟩ = some (.string a.realm) ∧ wb.cell? ⟨w.heap.size, 2, none⟩ = some (.string a.nonce) ∧ wb.cell? ⟨w.heap.size, 3, none⟩ = some (.string a.opq) ∧ wb.cell? ⟨w.heap.size, 4, none⟩ = some (.bool a.sess) ∧ wb.cell? ⟨w.heap.size, 5, none⟩ = some (.string a.qop) ∧ wb.cell? ⟨w.heap.size, 6, none⟩ = some (.bool st) ∧ wb.cell? ⟨w.heap.size, 7, none⟩ = some dv ∧ wb.cell? ⟨w.heap.size + 1, 0, none⟩ = some (.string r.user) ∧ wb.cell? ⟨w.heap.size + 1, 1, none⟩ = some (.string r.pass) ∧ Hid (AcK w (wb) a st dv r.user r.pass) := hKb.held))
              have HKB : Hid (AcK w wb a st dv r.user r.pass) := hKb
              clear hKb hbb hK
              go_wp2
              go_meet
              exact ⟨_, rfl, HYZ2.out, HY2, HKB⟩
          case rest =>
            obtain ⟨y2, rfl, hy2, HY2, HKT⟩ := hcut
            clear HKS HY y HBQ b
            have HQL : Hid (a.qop.data.toList = [] ↔ q0 = true) := by
              show _ ↔ _
              rw [← e3, ByteArray.toList_eq]
              simp
            go_upto_region 22 with fail
            go_cut [127] (fun v wf => ∃ b, v = .bool b ∧ Hid (cnI a r = if b then [(nCn, r.cnonce.data.toList, true)] else []) ∧ Hid (AcK w wf a st dv r.user r.pass))
            case first =>
              obtain ⟨c0, c1, c2, c3, c4, c5, c6, c7, d0, d1, _, _, _⟩ := HKT.out
              cases q0
              · have HCN : Hid (cnI a r = [(nCn, r.cnonce.data.toList, true)]) := by
                  show _ = _
                  unfold cnI
                  rw [if_neg]
                  intro h
                  have := HQL.out.1 h.1
                  cases this
                go_wp2
                go_meet
                exact ⟨true, rfl, HCN, HKT⟩
              · obtain ⟨b, hs⟩ : ∃ b, a.sess = b := ⟨_, rfl⟩
                have HCN : Hid (cnI a r = if b then [(nCn, r.cnonce.data.toList, true)] else []) := by
                  show _ = _
                  unfold cnI
                  rw [hs, HQL.out.2 rfl]
                  cases b <;> simp
                rw [hs] at c4
                clear hs
                cases b
                · go_wp2
                  go_meet
                  exact ⟨false, rfl, HCN, HKT⟩
                · go_wp2
                  go_meet
                  exact ⟨true, rfl, HCN, HKT⟩
            case rest =>
              obtain ⟨b, rfl, HCN, HKU⟩ := hcut
              clear HKT HQL e3
              go_upto_if 127 with fail
              go_cut [17] (fun v wg => ∃ y3, v = .string y3 ∧ y3.size ≤ 30000 ∧ Hid (y3 = bs (digT (fiveI a r m ++ algI a ++ qopI a m ++ cnI a r))) ∧ Hid ((cnI a r).all itemOk = true) ∧ Hid (AcK w wg a st dv r.user r.pass))
              case first =>
                cases b
                · go_wp2
                  go_meet
                  exact ⟨y2, rfl, hy2, by show _ = _; rw [HCN.out, if_neg (by decide), List.append_nil]; exact HY2.out, by show _ = _; rw [HCN.out]; rfl, HKU⟩
                · have hcz : r.cnonce.size ≤ 3000 := by have h1 : r.cnonce.data.toList.length = r.cnonce.size := Array.length_toList; have h2 := HZ.out.hzc; omega
                  have hqt := fun w => refQuote_any r.cnonce hcz w
                  obtain ⟨V, HV⟩ : ∃ y, Hid (bs (quoteL r.cnonce.data.toList) = y) := ⟨_, rfl⟩
                  simp only [HV.out] at hqt
                  have hvz : V.size ≤ 6002 := by
                    rw [← HV.out, bs_size]
                    unfold quoteL
                    have h1 := escL_length r.cnonce.data.toList
                    have h2 : r.cnonce.data.toList.length = r.cnonce.size := Array.length_toList
                    simp
                    omega
                  have hl2 : (⟨#[44, 32, 99, 110, 111, 110, 99, 101, 61]⟩ : ByteArray).size = 9 := rfl
                  have s1 := fun W => run_string_add_sum (P := Tryz.prog) W ⟨#[44, 32, 99, 110, 111, 110, 99, 101, 61]⟩ V (by omega)
                  have s2 := fun W => run_string_add_sum (P := Tryz.prog) W y2 (⟨#[44, 32, 99, 110, 111, 110, 99, 101, 61]⟩ ++ V) (by simp only [ByteArray.size_append]; omega)
                  have HY3 : Hid (y2 ++ (⟨#[44, 32, 99, 110, 111, 110, 99, 101, 61]⟩ ++ V) = bs (digT (fiveI a r m ++ algI a ++ qopI a m ++ cnI a r))) := by
                    show _ = _
                    rw [HCN.out, if_pos rfl, marked_next _ nCn r.cnonce.data.toList ⟨#[44, 32, 99, 110, 111, 110, 99, 101, 61]⟩ (by rw [List.append_assoc]; exact two_ne a r m _) rfl, HY2.out, HV.out]
                  have HYZ3 : Hid ((y2 ++ (⟨#[44, 32, 99, 110, 111, 110, 99, 101, 61]⟩ ++ V)).size ≤ 30000) := by
                    show _ ≤ _
                    rw [HY3.out]
                    exact dig_fit HSM.out _ (fun z hz => by rw [items_eq]; simp only [List.mem_append] at hz ⊢; exact .inl hz) (by rw [HCN.out, if_pos rfl]; unfold fiveI algI qopI; split <;> simp)
                  have HCI : Hid ((nCn, r.cnonce.data.toList, true) ∈ items a r m) := by
                    show _ ∈ _
                    rw [items_eq, HCN.out, if_pos rfl]
                    simp
                  clear hl2 hvz hcz
                  go_wp2_with fail
                  refine (hqt _).mono ?_
                  rintro e w2 ⟨hw, ⟨rfl, hqq⟩ | ⟨rfl, hqq⟩⟩
                  · obtain rfl := hw.symm
                    have HQQ : Hid (itemOk (nCn, r.cnonce.data.toList, true) = true) := item_good (x := (nCn, r.cnonce.data.toList, true)) hqq
                    clear hw hqq
                    go_wp2
                    go_meet
                    exact ⟨_, rfl, HYZ3.out, HY3, by show _ = _; rw [HCN.out]; show ([(nCn, r.cnonce.data.toList, true)] : List Item).all itemOk = true; rw [List.all_cons, HQQ.out]; rfl, HKU⟩
                  · obtain rfl := hw.symm
                    have HQQ : Hid (itemOk (nCn, r.cnonce.data.toList, true) = false) := item_bad (x := (nCn, r.cnonce.data.toList, true)) rfl hqq
                    clear hw hqq
                    go_wp2
                    go_ret2
                    exact ⟨by rw [HE.out, all_false HCI.out HQQ.out]; rfl, HKU.out.bel⟩
              case rest =>
                obtain ⟨y3, rfl, hy3, HY3, HOC, HKV⟩ := hcut
                clear HKU HY2 hy2 y2 HCN b
                have HOK4 : Hid ((fiveI a r m ++ algI a ++ qopI a m ++ cnI a r).all itemOk = true) := by
                  show _ = _
                  rw [List.all_append, List.all_append, List.all_append, HO5.out, HOC.out]
                  unfold algI qopI
                  split <;> rfl
                go_upto_region 27 with fail
                go_cut [142] (fun v wf => ∃ b, v = .bool b ∧ Hid (opqI a = if b then [(nOpq, a.opq.data.toList, true)] else []) ∧ Hid (AcK w wf a st dv r.user r.pass))
                case first =>
                  obtain ⟨c0, c1, c2, c3, c4, c5, c6, c7, d0, d1, _, _, _⟩ := HKV.out
                  obtain ⟨o0, eo⟩ : ∃ b, a.opq.toList.isEmpty = b := ⟨_, rfl⟩
                  have HOP : Hid (opqI a = if !o0 then [(nOpq, a.opq.data.toList, true)] else []) := by
                    show _ = _
                    unfold opqI
                    rw [← eo, ByteArray.toList_eq]
                    by_cases h : a.opq.data.toList = []
                    · rw [if_pos h, h]; rfl
                    · rw [if_neg h]
                      cases hl : a.opq.data.toList with
                      | nil => exact absurd hl h
                      | cons x l => rfl
                  go_wp2
                  go_meet
                  exact ⟨!o0, by first | rfl | (rw [← eo]; simp) | simp [eo], HOP, HKV⟩
                case rest =>
                  obtain ⟨b, rfl, HOP, HKX⟩ := hcut
                  clear HKV
                  go_upto_if 142 with fail
                  cases b
                  · have HIE : Hid (items a r m = fiveI a r m ++ algI a ++ qopI a m ++ cnI a r) := by
                      show _ = _
                      rw [items_eq, HOP.out, if_neg (by decide), List.append_nil]
                    go_wp2
                    go_ret2
                    exact ⟨by rw [HE.out, HIE.out, HOK4.out, if_pos rfl, HY3.out]; rfl, HKX.out.bel⟩
                  · have HIE : Hid (items a r m = fiveI a r m ++ algI a ++ qopI a m ++ cnI a r ++ [(nOpq, a.opq.data.toList, true)]) := by
                      show _ = _
                      rw [items_eq, HOP.out, if_pos rfl]
                    have hcz : a.opq.size ≤ 3000 := by have h1 : a.opq.data.toList.length = a.opq.size := Array.length_toList; have h2 := HZ.out.hzo; omega
                    have hqt := fun w => refQuote_any a.opq hcz w
                    obtain ⟨V, HV⟩ : ∃ y, Hid (bs (quoteL a.opq.data.toList) = y) := ⟨_, rfl⟩
                    simp only [HV.out] at hqt
                    have hvz : V.size ≤ 6002 := by
                      rw [← HV.out, bs_size]
                      unfold quoteL
                      have h1 := escL_length a.opq.data.toList
                      have h2 : a.opq.data.toList.length = a.opq.size := Array.length_toList
                      simp
                      omega
                    have hl2 : (⟨#[44, 32, 111, 112, 97, 113, 117, 101, 61]⟩ : ByteArray).size = 9 := rfl
                    have s1 := fun W => run_string_add_sum (P := Tryz.prog) W ⟨#[44, 32, 111, 112, 97, 113, 117, 101, 61]⟩ V (by omega)
                    have s2 := fun W => run_string_add_sum (P := Tryz.prog) W y3 (⟨#[44, 32, 111, 112, 97, 113, 117, 101, 61]⟩ ++ V) (by simp only [ByteArray.size_append]; omega)
                    have HY4 : Hid (bs (digT (fiveI a r m ++ algI a ++ qopI a m ++ cnI a r ++ [(nOpq, a.opq.data.toList, true)])) = y3 ++ (⟨#[44, 32, 111, 112, 97, 113, 117, 101, 61]⟩ ++ V)) := by
                      show _ = _
                      rw [marked_next _ nOpq a.opq.data.toList ⟨#[44, 32, 111, 112, 97, 113, 117, 101, 61]⟩ (by rw [List.append_assoc, List.append_assoc]; exact two_ne a r m _) rfl, HY3.out, HV.out]
                    have HCI : Hid ((nOpq, a.opq.data.toList, true) ∈ items a r m) := by
                      show _ ∈ _
                      rw [HIE.out]
                      simp
                    clear hl2 hvz hcz
                    obtain ⟨c0, c1, c2, c3, c4, c5, c6, c7, d0, d1, _, _, _⟩ := HKX.out
                    go_wp2_with fail
                    refine (hqt _).mono ?_
                    rintro e w2 ⟨hw, ⟨rfl, hqq⟩ | ⟨rfl, hqq⟩⟩
                    · obtain rfl := hw.symm
                      have HQQ : Hid (itemOk (nOpq, a.opq.data.toList, true) = true) := item_good (x := (nOpq, a.opq.data.toList, true)) hqq
                      clear hw hqq
                      go_wp2
                      go_ret2
                      exact ⟨by rw [HE.out, HIE.out, List.all_append, HOK4.out, List.all_cons, HQQ.out, List.all_nil, show (if (true && (true && true)) = true then (Except.ok (digT (fiveI a r m ++ algI a ++ qopI a m ++ cnI a r ++ [(nOpq, a.opq.data.toList, true)])) : Except Nat (List UInt8)) else Except.error 3) = Except.ok (digT (fiveI a r m ++ algI a ++ qopI a m ++ cnI a r ++ [(nOpq, a.opq.data.toList, true)])) from rfl]; show _ = Ending.returned (.tuple #[.string (bs _), .int .i64 0]); rw [HY4.out]; rfl, HKX.out.bel⟩
                    · obtain rfl := hw.symm
                      have HQQ : Hid (itemOk (nOpq, a.opq.data.toList, true) = false) := item_bad (x := (nOpq, a.opq.data.toList, true)) rfl hqq
                      clear hw hqq
                      go_wp2
                      go_ret2
                      exact ⟨by rw [HE.out, all_false HCI.out HQQ.out]; rfl, HKX.out.bel⟩
/-- The header that proves a request, by the document. -/
theorem refDig_any (F : Interp) (a : PfA) (r : PfR) (st : Bool) (dv : Value) (n : Int) (hf : Fits a r) (ho : a.opq.size ≤ 500) (w : World) (hF : F.told.answers w.tape) (HT : Hid (Tabs w)) :
    Calls Tryz.prog 5 #[.agg #[.int .i64 a.scheme, .string a.realm, .string a.nonce, .string a.opq, .bool a.sess, .string a.qop, .bool st, dv], .agg #[.string r.user, .string r.pass], .string r.method, .string r.target, .string r.body, .string r.cnonce, .int .i64 n] w fun e w' => e = .returned (refV (digO a r n)) ∧ Below w.heap.size w w' := by
  cases hpv : prvO a n with
  | some k =>
    rw [digO_bad a r n k hpv]
    exact refDig_no a r st dv n k hpv w HT
  | none =>
    obtain ⟨⟨m, rfl, hm⟩, he⟩ := digO_fit a r n hpv
    have hm1 : 1 ≤ m := by
      unfold prvO at hpv
      split at hpv
      · cases hpv
      · split at hpv
        · cases hpv
        · omega
    exact refDig_yes F a r st dv m hm hm1 hf ho hpv he w hF HT
end Go.Proofs.YtgajhmmildbkfaaGreatFmt

/- Which number an error is, by errors.As: of no error, and of one that is such a number itself. -/
namespace Go.Proofs.YtgajhmmildbkfaaGreatFmt
open Go.RowKit Go.Extern.Stop Go.Stop Go.Extern

theorem asValueOfP (t : Addr) (w : World) : (ReflectliteValue.unpack (.iface 82 (.pointer (some t)))).run Tryz.prog w
    = .ok (.agg #[.pointer (some ⟨9, 82, none⟩), .pointer (some ⟨w.heap.size, 0, none⟩), .int .u64 150]) (w.alloc (.cells #[.pointer (some t)] 82)) := by kernel_rfl
theorem asTypeP (a : Addr) (w : World) : (ReflectliteValue.methodAny (ReflectliteValue.valueError "reflectlite.Value.Type" 0) (fun t _ _ _ => ReflectliteType.toType t) #[.agg #[.pointer (some ⟨9, 82, none⟩), .pointer (some a), .int .u64 150]]).run Tryz.prog w
    = .ok (.iface 140 (.agg #[.pointer (some ⟨9, 82, none⟩)])) w := by kernel_rfl
theorem asKindP (w : World) : ((ReflectliteType.abiMethod fun t => (fun a : Nat => Value.int IntKind.u8 (a : Int)) <$> Rtype.kind t) #[.pointer (some ⟨9, 82, none⟩)]).run Tryz.prog w = .ok (.int .u8 22) w := by kernel_rfl
theorem asKindE (w : World) : ((ReflectliteType.abiMethod fun t => (fun a : Nat => Value.int IntKind.u8 (a : Int)) <$> Rtype.kind t) #[.pointer (some ⟨9, 28, none⟩)]).run Tryz.prog w = .ok (.int .u8 2) w := by kernel_rfl
theorem asMKind (h : Value) (w : World) : (Go.method 281 140 (.agg #[h]) "Kind").run Tryz.prog w = .ok (98, h) w := by kernel_rfl
theorem asMElem (h : Value) (w : World) : (Go.method 281 140 (.agg #[h]) "Elem").run Tryz.prog w = .ok (111, .agg #[h]) w := by kernel_rfl
theorem asMImpl (h : Value) (w : World) : (Go.method 281 140 (.agg #[h]) "Implements").run Tryz.prog w = .ok (112, .agg #[h]) w := by kernel_rfl
theorem asMAssign (h : Value) (w : World) : (Go.method 281 140 (.agg #[h]) "AssignableTo").run Tryz.prog w = .ok (109, .agg #[h]) w := by kernel_rfl
theorem asPartsP (a : Addr) (w : World) : (ReflectliteValue.parts (.agg #[.pointer (some ⟨9, 82, none⟩), .pointer (some a), .int .u64 150])).run Tryz.prog w = .ok (some (82, a, 150)) w := by kernel_rfl
theorem asIsNilP (a p : Addr) (W : World) (ha : W.cell? a = some (.pointer (some p))) :
    (ReflectliteValue.method (ReflectliteValue.valueError "reflectlite.Value.IsNil" 0) ReflectliteValue.isNil #[.agg #[.pointer (some ⟨9, 82, none⟩), .pointer (some a), .int .u64 150]]).run Tryz.prog W = .ok (.bool false) W := by
  refine Eq.trans (congrArg (fun z => Sem.run Tryz.prog z W) (show ReflectliteValue.method _ _ #[.agg #[.pointer (some ⟨9, 82, none⟩), .pointer (some a), .int .u64 150]] = _ >>= _ from rfl)) ?_
  simp only [Array.getLit, List.getElem_toArray, List.getElem_cons_zero]
  simp only [Sem.run_bind, asPartsP, Result.andThen]
  simp [ReflectliteValue.isNil, loadVar, isAgg, underlying, Tryz.underlying82, ha, Result.andThen]
theorem asElemP (w : World) : (ReflectliteType.method ReflectliteType.elem #[.agg #[.pointer (some ⟨9, 82, none⟩)]]).run Tryz.prog w = .ok (.iface 140 (.agg #[.pointer (some ⟨9, 28, none⟩)])) w := by kernel_rfl
theorem asImplE (w : World) : (ReflectliteType.relation "Implements" ReflectliteType.implements_ #[.agg #[.pointer (some ⟨9, 28, none⟩)], .iface 140 (.agg #[.pointer (some ⟨9, 32, none⟩)])]).run Tryz.prog w = .ok (.bool true) w := by kernel_rfl
theorem asTypeOfE (v : Value) (w : World) : (ReflectliteType.typeOf #[.iface 28 v]).run Tryz.prog w = .ok (.iface 140 (.agg #[.pointer (some ⟨9, 28, none⟩)])) w := by kernel_rfl
theorem asAssignE (w : World) : (ReflectliteType.relation "AssignableTo" ReflectliteType.assignableTo #[.agg #[.pointer (some ⟨9, 28, none⟩)], .iface 140 (.agg #[.pointer (some ⟨9, 28, none⟩)])]).run Tryz.prog w = .ok (.bool true) w := by kernel_rfl
theorem asValueOfE (n : Int) (w : World) : (ReflectliteValue.unpack (.iface 28 (.int .i64 n))).run Tryz.prog w
    = .ok (.agg #[.pointer (some ⟨9, 28, none⟩), .pointer (some ⟨w.heap.size, 0, none⟩), .int .u64 130]) (w.alloc (.cells #[.int .i64 n] 28)) := by kernel_rfl
theorem asElemOfP (w : World) : (Rtype.elem? 82).run Tryz.prog w = .ok (some 28) w := by kernel_rfl
theorem asMkE (p : Addr) (w : World) : (ReflectliteValue.mk 28 p ReflectliteValue.flagAddr).run Tryz.prog w = .ok (.agg #[.pointer (some ⟨9, 28, none⟩), .pointer (some p), .int .u64 386]) w := by kernel_rfl
theorem asElemVP (a p : Addr) (W : World) (ha : W.cell? a = some (.pointer (some p))) :
    (ReflectliteValue.method (ReflectliteValue.valueError "reflectlite.Value.Elem" 0) ReflectliteValue.elem #[.agg #[.pointer (some ⟨9, 82, none⟩), .pointer (some a), .int .u64 150]]).run Tryz.prog W
      = .ok (.agg #[.pointer (some ⟨9, 28, none⟩), .pointer (some p), .int .u64 386]) W := by
  refine Eq.trans (congrArg (fun z => Sem.run Tryz.prog z W) (show ReflectliteValue.method _ _ #[.agg #[.pointer (some ⟨9, 82, none⟩), .pointer (some a), .int .u64 150]] = _ >>= _ from rfl)) ?_
  simp only [Array.getLit, List.getElem_toArray, List.getElem_cons_zero]
  simp only [Sem.run_bind, asPartsP, Result.andThen]
  simp [ReflectliteValue.elem, loadVar, isAgg, underlying, Tryz.underlying82, ha, Result.andThen, asElemOfP, asMkE]
theorem asPartsE (a : Addr) (w : World) : (ReflectliteValue.parts (.agg #[.pointer (some ⟨9, 28, none⟩), .pointer (some a), .int .u64 386])).run Tryz.prog w = .ok (some (28, a, 386)) w := by kernel_rfl
theorem asPartsF (a : Addr) (w : World) : (ReflectliteValue.parts (.agg #[.pointer (some ⟨9, 28, none⟩), .pointer (some a), .int .u64 130])).run Tryz.prog w = .ok (some (28, a, 130)) w := by kernel_rfl
theorem asDirect (w : World) : (Rtype.directlyAssignable 28 28).run Tryz.prog w = .ok true w := by kernel_rfl
theorem asSet (ta b : Addr) (n : Int) (old : Value) (W : World) (hb : W.cell? b = some (.int .i64 n)) (ht : W.cell? ta = some old) (hf : W.frozen? ta = false) :
    (ReflectliteValue.set #[.agg #[.pointer (some ⟨9, 28, none⟩), .pointer (some ta), .int .u64 386], .agg #[.pointer (some ⟨9, 28, none⟩), .pointer (some b), .int .u64 130]]).run Tryz.prog W
      = .ok (.tuple #[]) (W.setCell ta (.int .i64 n)) := by
  refine Eq.trans (congrArg (fun z => Sem.run Tryz.prog z W) (show ReflectliteValue.set #[.agg #[.pointer (some ⟨9, 28, none⟩), .pointer (some ta), .int .u64 386], .agg #[.pointer (some ⟨9, 28, none⟩), .pointer (some b), .int .u64 130]] = _ >>= _ from rfl)) ?_
  simp only [Array.getLit, List.getElem_toArray, List.getElem_cons_zero, List.getElem_cons_succ]
  simp only [Sem.run_bind, asPartsE, asPartsF, Result.andThen]
  simp [ReflectliteValue.flagAddr, loadVar, isAgg, underlying, Tryz.underlying28, hb, Result.andThen, asDirect, storeVar, Value.cells, storeCells, Addr.add]
  rw [run_store Tryz.prog W ta _ _ (by rfl)]
  simp [ht, hf]

set_option maxHeartbeats 1600000 in
theorem as_hit (n : Int) (t : Addr) (old : Value) (w : World) (hg : w.cell? ⟨3, 0, none⟩ = some (.iface 140 (.agg #[.pointer (some ⟨9, 32, none⟩)]))) (hlt : 3 < w.heap.size) (ht0 : w.cell? t = some old) (hf0 : w.frozen? t = false) (htl : t.block < w.heap.size) :
    Calls Tryz.prog 42 #[.iface 28 (.int .i64 n), .iface 82 (.pointer (some t))] w fun ev w' => ev = .returned (.bool true) ∧ w' = ((((w.alloc (.cells #[.pointer (some t)] 82)).alloc (.cells #[.pointer (some ⟨9, 82, none⟩), .pointer (some ⟨w.heap.size, 0, none⟩), .int .u64 150] 118)).alloc (.cells #[.pointer (some ⟨9, 82, none⟩), .pointer (some ⟨w.heap.size, 0, none⟩), .int .u64 150] 118)).alloc (.cells #[.int .i64 n] 28)).setCell t (.int .i64 n) := by
  have h36 := @run_callFunc_extern Tryz.prog 64 _ (fun args => ReflectliteValue.unpack (args.getD 0 (.tuple #[]))) Tryz.func64 (by kernel_rfl) (by kernel_rfl) (by kernel_rfl) (by kernel_rfl)
  have h37 := @run_callFunc_extern Tryz.prog 65 _ (ReflectliteValue.methodAny (ReflectliteValue.valueError "reflectlite.Value.Type" 0) (fun t _ _ _ => ReflectliteType.toType t)) Tryz.func65 (by kernel_rfl) (by kernel_rfl) (by kernel_rfl) (by kernel_rfl)
  have h38 := @run_callFunc_extern Tryz.prog 66 _ (ReflectliteValue.method (ReflectliteValue.valueError "reflectlite.Value.IsNil" 0) ReflectliteValue.isNil) Tryz.func66 (by kernel_rfl) (by kernel_rfl) (by kernel_rfl) (by kernel_rfl)
  have h75 := @run_callFunc_extern Tryz.prog 98 _ (ReflectliteType.abiMethod fun t => do pure (.int .u8 (← Rtype.kind t))) Tryz.func98 (by kernel_rfl) (by kernel_rfl) (by kernel_rfl) (by kernel_rfl)
  have h90 := @run_callFunc_extern Tryz.prog 111 _ (ReflectliteType.method ReflectliteType.elem) Tryz.func111 (by kernel_rfl) (by kernel_rfl) (by kernel_rfl) (by kernel_rfl)
  have h91 := @run_callFunc_extern Tryz.prog 112 _ (ReflectliteType.relation "Implements" ReflectliteType.implements_) Tryz.func112 (by kernel_rfl) (by kernel_rfl) (by kernel_rfl) (by kernel_rfl)
  have h45 := @run_callFunc_extern Tryz.prog 79 _ ReflectliteType.typeOf Tryz.func79 (by kernel_rfl) (by kernel_rfl) (by kernel_rfl) (by kernel_rfl)
  have h88 := @run_callFunc_extern Tryz.prog 109 _ (ReflectliteType.relation "AssignableTo" ReflectliteType.assignableTo) Tryz.func109 (by kernel_rfl) (by kernel_rfl) (by kernel_rfl) (by kernel_rfl)
  have h46 := @run_callFunc_extern Tryz.prog 80 _ (ReflectliteValue.method (ReflectliteValue.valueError "reflectlite.Value.Elem" 0) ReflectliteValue.elem) Tryz.func80 (by kernel_rfl) (by kernel_rfl) (by kernel_rfl) (by kernel_rfl)
  have h47 := @run_callFunc_extern Tryz.prog 81 _ ReflectliteValue.set Tryz.func81 (by kernel_rfl) (by kernel_rfl) (by kernel_rfl) (by kernel_rfl)
  have x1 := asTypeOfE
  have x2 := asMAssign
  have x3 := asAssignE
  have x4 := asValueOfE
  have x5 := asValueOfP
  have x6 := asTypeP
  have x7 := asMKind
  have x8 := asMElem
  have x9 := asMImpl
  have y1 := asKindP
  have y2 := asKindE
  have y3 := asElemP
  have y4 := asImplE
  have y5 := asIsNilP ⟨w.heap.size, 0, none⟩ t ((w.alloc (.cells #[.pointer (some t)] 82)).alloc (.cells #[.pointer (some ⟨9, 82, none⟩), .pointer (some ⟨w.heap.size, 0, none⟩), .int .u64 150] 118)) (by simp)
  have hg2 : ((w.alloc (.cells #[.pointer (some t)] 82)).alloc (.cells #[.pointer (some ⟨9, 82, none⟩), .pointer (some ⟨w.heap.size, 0, none⟩), .int .u64 150] 118)).cell? ⟨3, 0, none⟩ = some (.iface 140 (.agg #[.pointer (some ⟨9, 32, none⟩)])) := by
    rw [World.cell?_alloc_lt _ _ ⟨3, 0, none⟩ (by first | (simp; done) | (simp; omega)), World.cell?_alloc_lt _ _ ⟨3, 0, none⟩ hlt]; exact hg
  have el := asElemVP ⟨w.heap.size, 0, none⟩ t (((w.alloc (.cells #[.pointer (some t)] 82)).alloc (.cells #[.pointer (some ⟨9, 82, none⟩), .pointer (some ⟨w.heap.size, 0, none⟩), .int .u64 150] 118)).alloc (.cells #[.pointer (some ⟨9, 82, none⟩), .pointer (some ⟨w.heap.size, 0, none⟩), .int .u64 150] 118)) (by rw [World.cell?_alloc_lt _ _ ⟨w.heap.size, 0, none⟩ (by first | (simp; done) | (simp; omega))]; simp)
  have st := asSet t ⟨w.heap.size + 1 + 1 + 1, 0, none⟩ n old ((((w.alloc (.cells #[.pointer (some t)] 82)).alloc (.cells #[.pointer (some ⟨9, 82, none⟩), .pointer (some ⟨w.heap.size, 0, none⟩), .int .u64 150] 118)).alloc (.cells #[.pointer (some ⟨9, 82, none⟩), .pointer (some ⟨w.heap.size, 0, none⟩), .int .u64 150] 118)).alloc (.cells #[.int .i64 n] 28))
    (by rw [World.cell?_alloc_at _ _ _ _ (by simp)]; rfl)
    (by rw [World.cell?_alloc_lt _ _ t (by first | (simp; done) | (simp; omega)), World.cell?_alloc_lt _ _ t (by first | (simp; done) | (simp; omega)), World.cell?_alloc_lt _ _ t (by first | (simp; done) | (simp; omega)), World.cell?_alloc_lt _ _ t htl]; exact ht0)
    (by rw [World.frozen?_alloc_old _ _ t (by first | (simp; done) | (simp; omega)), World.frozen?_alloc_old _ _ t (by first | (simp; done) | (simp; omega)), World.frozen?_alloc_old _ _ t (by first | (simp; done) | (simp; omega)), World.frozen?_alloc_old _ _ t (Nat.ne_of_lt htl)]; exact hf0)
  go_enter Tryz.func42, Tryz.ntmps42
  go_wp2
  refine wp_loop_rounds 1 ?_
  rw [rounds_succ]
  go_wp2
  go_ret
  exact ⟨rfl, rfl⟩
end Go.Proofs.YtgajhmmildbkfaaGreatFmt

/- Which number an error is: of none OK, of a bare number that number. -/
namespace Go.Proofs.YtgajhmmildbkfaaGreatFmt
open Go.RowKit Go.Extern.Stop Go.Stop Go.Extern

/-- The library's own variable that errors.As asks for. -/
def ErrT (w : World) : Prop := w.cell? ⟨3, 0, none⟩ = some (.iface 140 (.agg #[.pointer (some ⟨9, 32, none⟩)])) ∧ 3 < w.heap.size
theorem ErrT.below {w w' : World} (h : ErrT w) (hb : Below w.heap.size w w') : ErrT w' := by
  refine ⟨?_, Nat.lt_of_lt_of_le h.2 hb.size⟩
  rw [hb.cell (p := ⟨3, 0, none⟩) h.2]
  exact h.1

theorem tell_nil (w : World) : Calls Tryz.prog 31 #[.nilIface] w fun e w' => e = .returned (.int .i64 0) ∧ w' = w := by
  go_enter Tryz.func31, Tryz.ntmps31
  go_wp2
  go_ret
  exact ⟨rfl, rfl⟩

set_option maxHeartbeats 800000 in
theorem tell_no (n : Int) (w : World) (hg : ErrT w) : Calls Tryz.prog 31 #[.iface 28 (.int .i64 n)] w fun e w' => e = .returned (.int .i64 n) ∧ Below w.heap.size w w' := by
  have HG : Hid (ErrT w) := hg
  clear hg
  go_enter Tryz.func31, Tryz.ntmps31
  go_wp2_with fail
  refine (as_hit n ⟨w.heap.size, 0, none⟩ (.int .i64 0) _ ?_ ?_ ?_ ?_ ?_).mono ?_
  · exact (HG.out.below ((Below.refl _ _).alloc (Nat.le_refl _) _)).1
  · have := HG.out.2; first | (simp; done) | (simp; omega)
  · simp
  · simp
  · simp
  · rintro e w1 ⟨rfl, hw⟩
    have hc : w1.cell? ⟨w.heap.size, 0, none⟩ = some (.int .i64 n) := by
      rw [hw]
      refine World.cell?_setCell_same (u := .int .i64 0) _ _ _ ?_
      rw [World.cell?_alloc_lt _ _ _ (by simp; omega), World.cell?_alloc_lt _ _ _ (by simp; omega), World.cell?_alloc_lt _ _ _ (by simp; omega), World.cell?_alloc_lt _ _ _ (by simp)]
      simp
    have hb : Below w.heap.size w w1 := by
      rw [hw]
      exact (((((((Below.refl _ _).alloc (Nat.le_refl _) _).alloc (by simp) _).alloc (by simp; omega) _).alloc (by simp; omega) _).alloc (by simp; omega) _).setCell (Nat.le_refl _) _)
    clear hw
    go_wp2
    go_ret
    exact ⟨rfl, hb⟩

end Go.Proofs.YtgajhmmildbkfaaGreatFmt

/- An error taken apart: of none it is OK, of a bare number that number; and there is no place. -/
namespace Go.Proofs.YtgajhmmildbkfaaGreatFmt
open Go.RowKit Go.Extern.Stop Go.Stop Go.Extern

theorem noAt (n : Int) (w : World) : (Instr.typeAssert (.iface 28 (.int .i64 n)) 32 67 true).run Tryz.prog w = .ok (.tuple #[.pointer none, .bool false]) w := by kernel_rfl
theorem noUnwrap (n : Int) (w : World) : (Instr.typeAssert (.iface 28 (.int .i64 n)) 32 71 true).run Tryz.prog w = .ok (.tuple #[.nilIface, .bool false]) w := by
  refine run_typeAssert_lacksB Tryz.underlying71 ?_ ?_ _ _ _
  · kernel_rfl
  · kernel_rfl

set_option maxHeartbeats 800000 in
theorem place_nil (w : World) : Calls Tryz.prog 20 #[.nilIface] w fun e w' => e = .returned (.tuple #[.int .i64 0, .int .i64 (-1)]) ∧ Below w.heap.size w w' := by
  go_enter Tryz.func20, Tryz.ntmps20
  go_wp2_with (go_at_call 31; refine (tell_nil _).mono ?_; rintro e w1 ⟨rfl, rfl⟩)
  refine wp_loop_rounds 1 ?_
  rw [rounds_succ]
  go_wp2
  go_ret2
  exact ⟨rfl, Below.refl _ _⟩

set_option maxHeartbeats 800000 in
theorem place_no (n : Int) (w : World) (hg : ErrT w) : Calls Tryz.prog 20 #[.iface 28 (.int .i64 n)] w fun e w' => e = .returned (.tuple #[.int .i64 n, .int .i64 (-1)]) ∧ Below w.heap.size w w' := by
  have a1 := noAt n
  have a2 := noUnwrap n
  go_enter Tryz.func20, Tryz.ntmps20
  go_wp2_with (go_at_call 31; refine (tell_no n _ hg).mono ?_; rintro e w1 ⟨rfl, hb⟩)
  clear hg
  refine wp_loop_rounds 1 ?_
  rw [rounds_succ]
  go_wp2
  go_ret2
  exact ⟨rfl, hb⟩

end Go.Proofs.YtgajhmmildbkfaaGreatFmt

/- An error held against a bare number. -/
namespace Go.Proofs.YtgajhmmildbkfaaGreatFmt
open Go.RowKit Go.Extern.Stop Go.Stop Go.Extern

set_option maxHeartbeats 800000 in
theorem bare_nil (w : World) : Calls Tryz.prog 7 #[.nilIface, .int .i64 0] w fun e w' => e = .returned (.bool true) ∧ Below w.heap.size w w' := by
  go_enter Tryz.func7, Tryz.ntmps7
  go_wp2_with (go_at_call 20; refine (place_nil _).mono ?_; rintro e w1 ⟨rfl, hb⟩)
  go_ret
  exact ⟨rfl, hb⟩
set_option maxHeartbeats 800000 in
theorem bare_form (w : World) (hg : ErrT w) : Calls Tryz.prog 7 #[.iface 28 (.int .i64 3), .int .i64 3] w fun e w' => e = .returned (.bool true) ∧ Below w.heap.size w w' := by
  go_enter Tryz.func7, Tryz.ntmps7
  go_wp2_with (go_at_call 20; refine (place_no 3 _ hg).mono ?_; rintro e w1 ⟨rfl, hb⟩)
  go_ret
  exact ⟨rfl, hb⟩
set_option maxHeartbeats 800000 in
theorem bare_arg (w : World) (hg : ErrT w) : Calls Tryz.prog 7 #[.iface 28 (.int .i64 1), .int .i64 1] w fun e w' => e = .returned (.bool true) ∧ Below w.heap.size w w' := by
  go_enter Tryz.func7, Tryz.ntmps7
  go_wp2_with (go_at_call 20; refine (place_no 1 _ hg).mono ?_; rintro e w1 ⟨rfl, hb⟩)
  go_ret
  exact ⟨rfl, hb⟩
end Go.Proofs.YtgajhmmildbkfaaGreatFmt
