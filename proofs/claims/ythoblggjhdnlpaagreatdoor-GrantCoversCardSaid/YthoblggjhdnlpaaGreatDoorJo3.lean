/- Texts of one claim, joined: each begins with what it proves. -/
import Derived.Test.YthoblggjhdnlpaaGreatDoorJo1
import Derived.Test.YthoblggjhdnlpaaGreatDoorJo2
import Derived.Shelf.Strings.SlTrimAscii
import Derived.Shelf.Strings.Search2
import Derived.Deep.QuietTactic
import Derived.BigQuiet
import Derived.Shelf.Sort.Plain
import Derived.Shelf.Slices.CompactS
import Derived.Shelf.Slices.In.SortNone
import Derived.Sort.OwnSorted
import Derived.Lib.OwnBridge
import Derived.Deep.Draws
/- The library's contracts that are leant on, laid at this program's numbers. -/
namespace Go.Proofs.YthoblggjhdnlpaaGreatDoor
open Go.Shelf Go.RowKit
def lays160_ren : Go.Shelf.Ren := ⟨fun | 160 => 32 | 232 => 57 | 231 => 56 | 227 => 58 | 234 => 60 | 233 => 59 | 236 => 62 | 235 => 61 | 228 => 84 | 271 => 87 | 151 => 86 | 197 => 85 | 120 => 111 | 152 => 110 | 260 => 109 | 137 => 83 | 119 => 124 | 224 => 107 | 225 => 106 | 217 => 105 | 266 => 122 | n => n, fun | 9 => 9 | 4 => 4 | 3 => 3 | 5 => 5 | 117 => 100 | 116 => 99 | 0 => 0 | 124 => 103 | 21 => 21 | 105 => 116 | 46 => 50 | 119 => 152 | 139 => 155 | 138 => 154 | n => n, fun | 3 => 3 | 4 => 4 | n => n⟩
theorem lays160 : Go.Proofs.Lays.n160 Tryz.prog lays160_ren := {
  mixed := by kernel_rfl
  f119 := Tryz.func124.trans (congrArg some (by kernel_rfl))
  f120 := Tryz.func111.trans (congrArg some (by kernel_rfl))
  f137 := Tryz.func83.trans (congrArg some (by kernel_rfl))
  f151 := Tryz.func86.trans (congrArg some (by kernel_rfl))
  f152 := Tryz.func110.trans (congrArg some (by kernel_rfl))
  f160 := Tryz.func32.trans (congrArg some (by kernel_rfl))
  f197 := Tryz.func85.trans (congrArg some (by kernel_rfl))
  f217 := Tryz.func105.trans (congrArg some (by kernel_rfl))
  f224 := Tryz.func107.trans (congrArg some (by kernel_rfl))
  f225 := Tryz.func106.trans (congrArg some (by kernel_rfl))
  f227 := Tryz.func58.trans (congrArg some (by kernel_rfl))
  f228 := Tryz.func84.trans (congrArg some (by kernel_rfl))
  f231 := Tryz.func56.trans (congrArg some (by kernel_rfl))
  f232 := Tryz.func57.trans (congrArg some (by kernel_rfl))
  f233 := Tryz.func59.trans (congrArg some (by kernel_rfl))
  f234 := Tryz.func60.trans (congrArg some (by kernel_rfl))
  f235 := Tryz.func61.trans (congrArg some (by kernel_rfl))
  f236 := Tryz.func62.trans (congrArg some (by kernel_rfl))
  f260 := Tryz.func109.trans (congrArg some (by kernel_rfl))
  f266 := Tryz.func122.trans (congrArg some (by kernel_rfl))
  f271 := Tryz.func87.trans (congrArg some (by kernel_rfl))
  t0 := Tryz.underlying0
  a0 := Tryz.isAgg0
  z0 := Tryz.sizeOf0
  v0 := Tryz.zeroValue0
  t3 := Tryz.underlying3
  a3 := Tryz.isAgg3
  z3 := Tryz.sizeOf3
  v3 := Tryz.zeroValue3
  t4 := Tryz.underlying4
  a4 := Tryz.isAgg4
  z4 := Tryz.sizeOf4
  v4 := Tryz.zeroValue4
  t5 := Tryz.underlying5
  a5 := Tryz.isAgg5
  z5 := Tryz.sizeOf5
  v5 := Tryz.zeroValue5
  t9 := Tryz.underlying9
  a9 := Tryz.isAgg9
  z9 := Tryz.sizeOf9
  v9 := Tryz.zeroValue9
  t21 := Tryz.underlying21
  a21 := Tryz.isAgg21
  z21 := Tryz.sizeOf21
  v21 := Tryz.zeroValue21
  t46 := Tryz.underlying50
  a46 := Tryz.isAgg50
  z46 := Tryz.sizeOf50
  v46 := Tryz.zeroValue50
  t105 := Tryz.underlying116
  a105 := Tryz.isAgg116
  z105 := Tryz.sizeOf116
  v105 := Tryz.zeroValue116
  t116 := Tryz.underlying99
  a116 := Tryz.isAgg99
  z116 := Tryz.sizeOf99
  t117 := Tryz.underlying100
  a117 := Tryz.isAgg100
  z117 := Tryz.sizeOf100
  v117 := Tryz.zeroValue100
  t119 := Tryz.underlying152
  a119 := Tryz.isAgg152
  z119 := Tryz.sizeOf152
  t124 := Tryz.underlying103
  a124 := Tryz.isAgg103
  z124 := Tryz.sizeOf103
  v124 := Tryz.zeroValue103
  t138 := Tryz.underlying154
  a138 := Tryz.isAgg154
  z138 := Tryz.sizeOf154
  v138 := Tryz.zeroValue154
  t139 := Tryz.underlying155
  a139 := Tryz.isAgg155
  z139 := Tryz.sizeOf155
  v139 := Tryz.zeroValue155
  g3 := by kernel_rfl
  g4 := by kernel_rfl }
end Go.Proofs.YthoblggjhdnlpaaGreatDoor

/- A text without the blanks about it, by the library. -/
namespace Go.Proofs.YthoblggjhdnlpaaGreatDoor
open Go.RowKit Go.Shelf

theorem trimBoth_any (p : ByteArray) (hp : p.size ≤ 20000) (w : World) :
    Calls Tryz.prog 32 #[.string p, .string ⟨#[32, 9]⟩] w fun e w' => ∃ t : ByteArray, e = .returned (.string t) ∧ Hid (t.data.toList = trimW p.data.toList) ∧ t.size ≤ p.size ∧ Below w.heap.size w w' := by
  refine (Any.strings_Trim_laid lays160 (by kernel_rfl) p ⟨#[32, 9]⟩ w (by omega) (by decide) (ascii_of_all (by decide))).mono ?_
  rintro e w' ⟨rfl, hb⟩
  have e1 : (⟨(Lib.trimS p.data.toList (⟨#[32, 9]⟩ : ByteArray).data.toList).toArray⟩ : ByteArray) = bs (trimW p.data.toList) := by
    show bs (Lib.trimS p.data.toList [32, 9]) = _
    rw [trimS_is]
  refine ⟨bs (trimW p.data.toList), by rw [e1], bs_data _, ?_, hb⟩
  rw [bs_size, ← (show p.data.toList.length = p.size from Array.length_toList)]
  exact trim_length _
end Go.Proofs.YthoblggjhdnlpaaGreatDoor

/- The library's contracts that are leant on, laid at this program's numbers. -/
namespace Go.Proofs.YthoblggjhdnlpaaGreatDoor
open Go.Shelf Go.RowKit
def lays219_ren : Go.Shelf.Ren := ⟨fun | 219 => 82 | 217 => 105 | 225 => 106 | 224 => 107 | 267 => 108 | 266 => 122 | 314 => 123 | n => n, fun | 9 => 9 | 3 => 3 | 4 => 4 | 5 => 5 | 46 => 50 | 146 => 150 | 51 => 134 | n => n, fun | 1 => 2 | n => n⟩
theorem lays219 : Go.Proofs.Lays.n219 Tryz.prog lays219_ren := {
  mixed := by kernel_rfl
  f217 := Tryz.func105.trans (congrArg some (by kernel_rfl))
  f219 := Tryz.func82.trans (congrArg some (by kernel_rfl))
  f224 := Tryz.func107.trans (congrArg some (by kernel_rfl))
  f225 := Tryz.func106.trans (congrArg some (by kernel_rfl))
  f266 := Tryz.func122.trans (congrArg some (by kernel_rfl))
  f267 := Tryz.func108.trans (congrArg some (by kernel_rfl))
  f314 := Tryz.func123.trans (congrArg some (by kernel_rfl))
  t3 := Tryz.underlying3
  a3 := Tryz.isAgg3
  z3 := Tryz.sizeOf3
  v3 := Tryz.zeroValue3
  t4 := Tryz.underlying4
  a4 := Tryz.isAgg4
  z4 := Tryz.sizeOf4
  v4 := Tryz.zeroValue4
  t5 := Tryz.underlying5
  a5 := Tryz.isAgg5
  z5 := Tryz.sizeOf5
  v5 := Tryz.zeroValue5
  t9 := Tryz.underlying9
  a9 := Tryz.isAgg9
  z9 := Tryz.sizeOf9
  v9 := Tryz.zeroValue9
  t46 := Tryz.underlying50
  a46 := Tryz.isAgg50
  z46 := Tryz.sizeOf50
  v46 := Tryz.zeroValue50
  t51 := Tryz.underlying134
  a51 := Tryz.isAgg134
  z51 := Tryz.sizeOf134
  v51 := Tryz.zeroValue134
  t146 := Tryz.underlying150
  a146 := Tryz.isAgg150
  z146 := Tryz.sizeOf150
  v146 := Tryz.zeroValue150
  g1 := by kernel_rfl }
end Go.Proofs.YthoblggjhdnlpaaGreatDoor

/- What stands between a text's marks, by where the next mark stands. -/
namespace Go.Proofs.YthoblggjhdnlpaaGreatDoor
open Go.RowKit

theorem ixOf_first (l : List UInt8) (c : UInt8) : (ixOf l c = -1 ∧ c ∉ l) ∨ ∃ n : Nat, n < l.length ∧ ixOf l c = n ∧ c ∉ l.take n ∧ l = l.take n ++ c :: l.drop (n + 1) := by
  unfold ixOf
  induction l with
  | nil => exact .inl ⟨rfl, by simp⟩
  | cons b r ih =>
    unfold Lib.indexByte
    by_cases hb : b = c
    · subst hb
      exact .inr ⟨0, by simp, by simp, by simp, rfl⟩
    · rw [if_neg (by simpa using hb)]
      rcases ih with ⟨h1, h2⟩ | ⟨n, h1, h2, h3, h4⟩
      · exact .inl ⟨by rw [h1]; rfl, by simp [h2, Ne.symm hb]⟩
      · refine .inr ⟨n + 1, by simpa using h1, ?_, by simp [h3, Ne.symm hb], by simp only [List.take_succ_cons, List.drop_succ_cons, List.cons_append]; rw [← h4]⟩
        rw [h2, if_neg (by simp)]
        simp

theorem extract_data (s : ByteArray) (a b : Nat) : (s.extract a b).data.toList = (s.data.toList.drop a).take (b - a) := by
  rw [ByteArray.data_extract, Array.toList_extract, List.extract_eq_take_drop]
theorem upto_data (s : ByteArray) (b : Nat) : (s.extract 0 b).data.toList = s.data.toList.take b := by rw [extract_data]; simp
theorem from_data (s : ByteArray) (a : Nat) : (s.extract a s.size).data.toList = s.data.toList.drop a := by
  rw [extract_data, List.take_of_length_le]
  simp
theorem bs_of {s : ByteArray} {l : List UInt8} (h : s.data.toList = l) : s = bs l := by rw [← h, bs_self]
/-- The parts of a text, as texts. -/
def partsOf (c : UInt8) (s : ByteArray) : List ByteArray := (splitL c s.data.toList).map bs
theorem partsOf_none (c : UInt8) (s : ByteArray) (h : c ∉ s.data.toList) : partsOf c s = [s] := by
  unfold partsOf
  rw [splitL_part c _ h, List.map_singleton, bs_self]
theorem partsOf_more (c : UInt8) (s : ByteArray) (n : Nat) (_hn : n < s.size) (h1 : c ∉ s.data.toList.take n) (h2 : s.data.toList = s.data.toList.take n ++ c :: s.data.toList.drop (n + 1)) :
    partsOf c s = s.extract 0 n :: partsOf c (s.extract (n + 1) s.size) := by
  unfold partsOf
  rw [h2, splitL_more c _ _ h1, List.map_cons, from_data, ← bs_of (upto_data s n)]
end Go.Proofs.YthoblggjhdnlpaaGreatDoor

/- Where a text of one byte stands in a text, by the library. -/
namespace Go.Proofs.YthoblggjhdnlpaaGreatDoor
open Go.RowKit Go.Shelf

theorem index_at (s : ByteArray) (c : UInt8) (w : World) :
    Calls Tryz.prog 82 #[.string s, .string ⟨#[c]⟩] w fun e w' => e = .returned (.int .i64 (ixOf s.data.toList c)) ∧ w' = w := Any.stringslite_Index_one lays219 s c w
end Go.Proofs.YthoblggjhdnlpaaGreatDoor

/- What stands ahead of a text's first mark, and behind it, by the library. -/
namespace Go.Proofs.YthoblggjhdnlpaaGreatDoor
open Go.RowKit Go.Shelf

/-- A text ahead of its first mark, and behind it; whether there is one. -/
def cutL (c : UInt8) : List UInt8 → List UInt8 × List UInt8 × Bool
  | [] => ([], [], false)
  | b :: t => if b = c then ([], t, true) else (b :: (cutL c t).1, (cutL c t).2.1, (cutL c t).2.2)
theorem cutL_none (c : UInt8) : ∀ l, c ∉ l → cutL c l = (l, [], false)
  | [], _ => rfl
  | b :: t, h => by
    have h1 : b ≠ c := fun e => h (by simp [e])
    rw [cutL, if_neg h1, cutL_none c t (fun e => h (by simp [e]))]
theorem cutL_some (c : UInt8) (b : List UInt8) : ∀ a, c ∉ a → cutL c (a ++ c :: b) = (a, b, true)
  | [], _ => by simp [cutL]
  | x :: a, h => by
    have h1 : x ≠ c := fun e => h (by simp [e])
    rw [List.cons_append, cutL, if_neg h1, cutL_some c b a (fun e => h (by simp [e]))]
theorem cutBelow {B : Nat} {a w : World} (h : Below B a w) (n : Nat) : Below B a (w.drewN n) := h.trans ⟨rfl, rfl, rfl, Nat.le_refl _, fun _ _ => rfl⟩
set_option maxHeartbeats 1000000 in
theorem cut_any (s : ByteArray) (c : UInt8) (hs : s.size ≤ 5000) (w : World) :
    Calls Tryz.prog 29 #[.string s, .string ⟨#[c]⟩] w fun e w' => ∃ (a b : ByteArray) (f : Bool), e = .returned (.tuple #[.string a, .string b, .bool f]) ∧ a.size ≤ s.size ∧ b.size ≤ s.size ∧ Hid (cutL c s.data.toList = (a.data.toList, b.data.toList, f)) ∧ Below w.heap.size w w' := by
  rcases ixOf_first s.data.toList c with ⟨hi, hno⟩ | ⟨k, hk, hi, hno, hsp⟩
  · have HE : Hid (cutL c s.data.toList = (s.data.toList, [], false)) := cutL_none c _ hno
    clear hno
    have hin : ∀ w, Calls Tryz.prog 53 #[.string s, .string ⟨#[c]⟩] w fun e w' => e = .returned (.tuple #[.string s, .string ⟨#[]⟩, .bool false]) ∧ w' = w := by
      intro w
      go_enter Tryz.func53, Tryz.ntmps53
      go_wp2_with (go_at_call 82; refine (index_at s c _).mono ?_; rintro e w' ⟨rfl, rfl⟩)
      (try simp only [Exit.inBlock, Exit.then])
      refine bodyPost_ret (results_tmp3 rfl _ _ _) rfl ⟨rfl, rfl⟩
    go_enter Tryz.func29, Tryz.ntmps29
    go_wp2_with (go_at_call 53; refine (hin _).mono ?_; rintro e w' ⟨rfl, rfl⟩)
    (try simp only [Exit.inBlock, Exit.then])
    refine bodyPost_ret (results_tmp3 rfl _ _ _) rfl ⟨s, ⟨#[]⟩, false, rfl, Nat.le_refl _, Nat.zero_le _, HE, Below.refl _ _⟩
  · have hk' : k < s.size := by simpa using hk
    have HE : Hid (cutL c s.data.toList = ((s.extract 0 k).data.toList, (s.extract (k + 1) s.size).data.toList, true)) := by
      show _ = _
      rw [upto_data, from_data]
      conv => lhs; rw [hsp]
      exact cutL_some c _ _ hno
    clear hno hsp hk
    have hin : ∀ w, Calls Tryz.prog 53 #[.string s, .string ⟨#[c]⟩] w fun e w' => e = .returned (.tuple #[.string (s.extract 0 k), .string (s.extract (k + 1) s.size), .bool true]) ∧ Below w.heap.size w w' := by
      intro w
      have b1 : (0 : Int) ≤ (k : Int) := by omega
      have b2 : (k : Int) ≤ (s.size : Int) := by omega
      have b3 : (k : Int) + 1 ≤ (s.size : Int) := by omega
      have b4 : (0 : Int) ≤ (k : Int) + 1 := by omega
      have b5 : IntKind.i64.wrap ((k : Int) + 1) = (k : Int) + 1 := IntWalk.i64_in _ ⟨by omega, by omega⟩
      go_enter Tryz.func53, Tryz.ntmps53
      go_wp2_with (go_at_call 82; refine (index_at s c _).mono ?_; rintro e w' ⟨rfl, rfl⟩)
      go_quiet (fail)
      go_wp2
      (try simp only [Exit.inBlock, Exit.then])
      refine bodyPost_ret (results_tmp3 rfl _ _ _) rfl ⟨rfl, cutBelow (Below.refl _ _) _⟩
    go_enter Tryz.func29, Tryz.ntmps29
    go_wp2_with (go_at_call 53; refine (hin _).mono ?_; rintro e w' ⟨rfl, hb⟩)
    (try simp only [Exit.inBlock, Exit.then])
    refine bodyPost_ret (results_tmp3 rfl _ _ _) rfl ⟨_, _, true, rfl, by simp; omega, by simp, HE, hb⟩

end Go.Proofs.YthoblggjhdnlpaaGreatDoor

/- Whether a type is one that a form of a page may send, and whether a header may be sent without asking, by the program. -/
namespace Go.Proofs.YthoblggjhdnlpaaGreatDoor
open Go.RowKit Go.Shelf

def formA : List UInt8 := [97, 112, 112, 108, 105, 99, 97, 116, 105, 111, 110, 47, 120, 45, 119, 119, 119, 45, 102, 111, 114, 109, 45, 117, 114, 108, 101, 110, 99, 111, 100, 101, 100]
def formB : List UInt8 := [109, 117, 108, 116, 105, 112, 97, 114, 116, 47, 102, 111, 114, 109, 45, 100, 97, 116, 97]
def formC : List UInt8 := [116, 101, 120, 116, 47, 112, 108, 97, 105, 110]
def kindL (l : List UInt8) : List UInt8 := (trimW (cutL 59 l).1).map low
/-- A type that a form of a page may send. -/
def formL (l : List UInt8) : Bool := kindL l == formA || (kindL l == formB || kindL l == formC)
set_option maxHeartbeats 1000000 in
theorem form_any (s : ByteArray) (hs : s.size ≤ 3000) (w : World) :
    Calls Tryz.prog 75 #[.string s] w fun e w' => e = .returned (.bool (formL s.data.toList)) ∧ Below w.heap.size w w' := by
  go_enter Tryz.func75, Tryz.ntmps75
  go_wp2_with fail
  refine (cut_any s 59 (by omega) _).mono ?_
  rintro e w1 ⟨a, b, f, rfl, ha, hb, HC, hb1⟩
  have HB1 : Hid (Below w.heap.size w w1) := hb1
  clear hb1
  go_wp2_with fail
  refine (trimBoth_any a (by omega) _).mono ?_
  rintro e w2 ⟨t, rfl, HT, ht, hb2⟩
  have HB2 : Hid (Below w.heap.size w w2) := HB1.out.trans (hb2.mono HB1.out.size)
  clear hb2
  obtain ⟨x, HX⟩ : ∃ x : ByteArray, Hid (bs (t.data.toList.map low) = x) := ⟨_, rfl⟩
  have HK : Hid (kindL s.data.toList = x.toList) := by
    show _ = _
    unfold kindL
    rw [HC.out, ← HT.out, ByteArray.toList_eq, ← HX.out, bs_data]
  go_wp2_with fail
  refine (lower_any t _ (by omega)).mono ?_
  rintro e w3 ⟨rfl, hb3⟩
  have HB3 : Hid (Below w.heap.size w w3) := HB2.out.trans (hb3.mono HB2.out.size)
  clear hb3
  rw [HX.out]
  have HF : Hid (formL s.data.toList = (x.toList == formA || (x.toList == formB || x.toList == formC))) := by
    show _ = _
    unfold formL
    rw [HK.out]
  unfold formA formB formC at HF
  go_wp2
  all_goals
    go_ret
    exact ⟨ret_bool (by rw [HF.out]; simp_all), HB3.out⟩
end Go.Proofs.YthoblggjhdnlpaaGreatDoor

/- Whether a header may be sent without asking, by the program. -/
namespace Go.Proofs.YthoblggjhdnlpaaGreatDoor
open Go.RowKit Go.Shelf

def nmA : List UInt8 := [97, 99, 99, 101, 112, 116]
def nmL : List UInt8 := [97, 99, 99, 101, 112, 116, 45, 108, 97, 110, 103, 117, 97, 103, 101]
def nmC : List UInt8 := [99, 111, 110, 116, 101, 110, 116, 45, 108, 97, 110, 103, 117, 97, 103, 101]
def nmT : List UInt8 := [99, 111, 110, 116, 101, 110, 116, 45, 116, 121, 112, 101]
/-- A header, of this name in small letters, that may be sent without asking. -/
def plainN (x v : List UInt8) : Bool := if x == nmA then v.all safeB else if x == nmL then v.all tongB else if x == nmC then v.all tongB else if x == nmT then v.all safeB && formL v else false
def plainL (n v : List UInt8) : Bool := decide (v.length ≤ 128) && plainN (n.map low) v
theorem two_at {w : World} {g : Nat} {v0 v1 : Value} {T : TypeId} (h : w.heap[g]? = some (.cells #[v0, v1] T (0, 0))) : w.cell? ⟨g, 0, none⟩ = some v0 ∧ w.cell? ⟨g, 1, none⟩ = some v1 ∧ ∀ j, w.frozen? ⟨g, j, none⟩ = false :=
  ⟨by simp [World.cell?, h], by simp [World.cell?, h], fun j => by simp [World.frozen?, h]⟩
set_option maxHeartbeats 4000000 in
theorem plain_any (n v : ByteArray) (hn : n.size ≤ 4000) (hv : v.size ≤ 140737488355328) (w : World) :
    Calls Tryz.prog 48 #[.agg #[.string n, .string v]] w fun e w' => e = .returned (.bool (plainL n.data.toList v.data.toList)) ∧ Below w.heap.size w w' := by
  have hlv : v.data.toList.length = v.size := Array.length_toList
  have hb0 : Below w.heap.size w (w.alloc (.cells #[.string n, .string v] 48)) := (Below.refl _ _).alloc (Nat.le_refl _) _
  by_cases hl : v.size ≤ 128
  · have hlz : ¬ (128 : Int) < (v.size : Int) := by omega
    obtain ⟨x, HX⟩ : ∃ x : ByteArray, Hid (bs (n.data.toList.map low) = x) := ⟨_, rfl⟩
    have HP : Hid (plainL n.data.toList v.data.toList = plainN x.toList v.data.toList) := by
      show _ = _
      unfold plainL
      rw [hlv, decide_eq_true hl, Bool.true_and, ByteArray.toList_eq, ← HX.out, bs_data]
    have HN : Hid (∀ w', Below (w.alloc (.cells #[.string n, .string v] 48)).heap.size (w.alloc (.cells #[.string n, .string v] 48)) w' → Below w.heap.size w w' ∧ w'.heap[w.heap.size]? = some (.cells #[.string n, .string v] 48 (0, 0))) := fun w' hb => ⟨hb0.trans (hb.mono (by simp)), (hb.block _ (by simp)).trans (heap_alloc_new w _)⟩
    clear hb0 hlv
    go_enter Tryz.func48, Tryz.ntmps48
    go_wp2_with fail
    refine (lower_any n _ (by omega)).mono ?_
    rintro e w1 ⟨rfl, hb1⟩
    have HB1 := HN.out _ hb1
    have HB : Hid (Below w.heap.size w w1) := HB1.1
    obtain ⟨x0, x1, _⟩ := two_at HB1.2
    rw [HX.out]
    clear hb1 HB1
    unfold plainN nmA nmL nmC nmT at HP
    cases a1 : (x.toList == [97, 99, 99, 101, 112, 116])
    rotate_left
    · have HQ : Hid (plainL n.data.toList v.data.toList = v.data.toList.all safeB) := by
        show _ = _
        rw [HP.out, a1]; rfl
      obtain ⟨b, HBB⟩ : ∃ b : Bool, Hid (v.data.toList.all safeB = b) := ⟨_, rfl⟩
      go_wp2_with fail
      refine (all_any _ _ kind_safe v (by omega) _).mono ?_
      rintro e w' ⟨rfl, hw⟩
      obtain rfl := hw.symm
      rw [HBB.out]
      go_wp2
      go_ret
      exact ⟨ret_bool (by rw [HQ.out, HBB.out]), HB.out⟩
    cases a2 : (x.toList == [97, 99, 99, 101, 112, 116, 45, 108, 97, 110, 103, 117, 97, 103, 101])
    rotate_left
    · have HQ : Hid (plainL n.data.toList v.data.toList = v.data.toList.all tongB) := by
        show _ = _
        rw [HP.out, a1, a2]; rfl
      obtain ⟨b, HBB⟩ : ∃ b : Bool, Hid (v.data.toList.all tongB = b) := ⟨_, rfl⟩
      go_wp2_with fail
      refine (all_any _ _ kind_tong v (by omega) _).mono ?_
      rintro e w' ⟨rfl, hw⟩
      obtain rfl := hw.symm
      rw [HBB.out]
      go_wp2
      go_ret
      exact ⟨ret_bool (by rw [HQ.out, HBB.out]), HB.out⟩
    cases a3 : (x.toList == [99, 111, 110, 116, 101, 110, 116, 45, 108, 97, 110, 103, 117, 97, 103, 101])
    rotate_left
    · have HQ : Hid (plainL n.data.toList v.data.toList = v.data.toList.all tongB) := by
        show _ = _
        rw [HP.out, a1, a2, a3]; rfl
      obtain ⟨b, HBB⟩ : ∃ b : Bool, Hid (v.data.toList.all tongB = b) := ⟨_, rfl⟩
      go_wp2_with fail
      refine (all_any _ _ kind_tong v (by omega) _).mono ?_
      rintro e w' ⟨rfl, hw⟩
      obtain rfl := hw.symm
      rw [HBB.out]
      go_wp2
      go_ret
      exact ⟨ret_bool (by rw [HQ.out, HBB.out]), HB.out⟩
    cases a4 : (x.toList == [99, 111, 110, 116, 101, 110, 116, 45, 116, 121, 112, 101])
    · have HQ : Hid (plainL n.data.toList v.data.toList = false) := by
        show _ = _
        rw [HP.out, a1, a2, a3, a4]; rfl
      go_wp2
      go_ret
      exact ⟨ret_bool (by rw [HQ.out]), HB.out⟩
    · have HQ : Hid (plainL n.data.toList v.data.toList = (v.data.toList.all safeB && formL v.data.toList)) := by
        show _ = _
        rw [HP.out, a1, a2, a3, a4]; rfl
      obtain ⟨b, HBB⟩ : ∃ b : Bool, Hid (v.data.toList.all safeB = b) := ⟨_, rfl⟩
      obtain ⟨d, HD⟩ : ∃ b : Bool, Hid (formL v.data.toList = b) := ⟨_, rfl⟩
      go_wp2_with fail
      refine (all_any _ _ kind_safe v (by omega) _).mono ?_
      rintro e w' ⟨rfl, hw⟩
      obtain rfl := hw.symm
      rw [HBB.out]
      cases b
      · go_wp2
        go_ret
        exact ⟨ret_bool (by rw [HQ.out, HBB.out]; rfl), HB.out⟩
      · go_wp2_with fail
        refine (form_any v (by omega) _).mono ?_
        rintro e w2 ⟨rfl, hb2⟩
        rw [HD.out]
        go_wp2
        go_ret
        exact ⟨ret_bool (by rw [HQ.out, HBB.out, HD.out]; rfl), HB.out.trans (hb2.mono HB.out.size)⟩
  · have hlz : (128 : Int) < (v.size : Int) := by omega
    have HP : Hid (plainL n.data.toList v.data.toList = false) := by
      show _ = _
      unfold plainL
      rw [hlv, decide_eq_false hl, Bool.false_and]
    go_enter Tryz.func48, Tryz.ntmps48
    go_wp2
    go_ret
    exact ⟨ret_bool (by rw [HP.out]), hb0⟩
end Go.Proofs.YthoblggjhdnlpaaGreatDoor

/- One text more at a row of texts that a call owns. -/
namespace Go.Proofs.YthoblggjhdnlpaaGreatDoor
open Go.RowKit

theorem info9 : (Tryz.prog.info? 9).map (fun i => (i.zero, i.size, i.bytes)) = some (some (.string ⟨#[]⟩), 1, 16) := by kernel_rfl
/-- A value of type []string that owns these texts, among the blocks from B on. -/
def OwnS (w : World) (B : Nat) (v : Value) (xs : List ByteArray) : Prop := w.ownsRow B 9 1 v xs.length (xs.map Value.string)
theorem OwnS.lt {w : World} {B : Nat} {v : Value} {xs : List ByteArray} (h : OwnS w B v xs) : ∀ k, v.ownBlock = some k → B ≤ k ∧ k < w.heap.size := World.ownsRow.lt h
theorem OwnS.grown {w w' : World} {B b : Nat} {v : Value} {xs : List ByteArray} (h : OwnS w B v xs) (hg : w.grownBy w' (some b)) (hb : b < B) : OwnS w' B v xs := by
  refine World.ownsRow.kept h hg (.inr ?_)
  intro e
  have := (h.lt b e).1
  omega
theorem OwnS.below {w w' : World} {B : Nat} {v : Value} {xs : List ByteArray} (h : OwnS w B v xs) (hb : Below w.heap.size w w') : OwnS w' B v xs := by
  refine World.ownsRow.kept (row := none) h ⟨hb.os, hb.tape, hb.output, hb.size, fun i hi _ => hb.block i hi⟩ ?_
  rcases v.ownBlock with _ | k
  · exact .inl rfl
  · exact .inr (by simp)
theorem ownS_nil (w : World) (B : Nat) : OwnS w B (.slice none 0 0) [] := ⟨rfl, .inl ⟨rfl, rfl⟩⟩
theorem wp_apps {ops : Array Oper} {rest : List Oper} {o : Oper} {a : Act} {Q : Exit → Act → World → Prop} (hgd : o.guard = none) (s x : Operand)
    (ho : o.op = .call { callee := .builtin .append, args := #[s, x], argTypes := #[51, 51] })
    (B : Nat) (wr : World) (v : Value) (xs : List ByteArray) (n : Nat) (hs : a.eval s = v) (hown : OwnS wr B v xs) (hn : xs.length = n) (hl : n ≤ 100000) (hB : B ≤ wr.heap.size)
    (t : ByteArray) (hx : a.eval x = .slice (some ⟨wr.heap.size, 0, none⟩) 1 1)
    (h : ∀ g cap w', OwnS w' B (.slice (some ⟨g, 0, none⟩) (n + 1) cap) (xs ++ [t]) → (wr.alloc (.cells #[.string t] 9)).grownBy w' v.ownBlock → g < w'.heap.size → wpList Tryz.prog ops Q rest (a.put o.dst (.slice (some ⟨g, 0, none⟩) (n + 1) cap)) w') :
    wpList Tryz.prog ops Q (o :: rest) a (wr.alloc (.cells #[.string t] 9)) := by
  subst hn
  obtain ⟨i0, hi0, hz0, hz1, hz2⟩ := info_parts info9
  refine wpList_append_lies _ hgd s x 51 ho B 9 i0 (.string ⟨#[]⟩) 1 16 Tryz.underlying51 hi0 hz0 hz1 hz2 rfl (by omega) v xs.length _ hs (World.ownsRow.alloc hown _) ⟨wr.heap.size, 0, none⟩ 1 1 [.string t] hx rfl
    (World.news_of_block (cs := #[.string t]) (t := 9) (fr := (0, 0)) (heap_alloc_new wr _)) (by simp [Value.oneCell']) (by omega) (by unfold maxLen; omega) (by omega) (by simp; omega) _ rfl ?_
  intro g cap w' hown1 hgrow _ hlt
  refine h g cap w' ?_ hgrow hlt
  unfold OwnS
  rw [List.length_append, List.map_append]
  exact hown1
end Go.Proofs.YthoblggjhdnlpaaGreatDoor

/- The library's contracts that are leant on, laid at this program's numbers. -/
namespace Go.Proofs.YthoblggjhdnlpaaGreatDoor
open Go.Shelf Go.RowKit
def lays190_ren : Go.Shelf.Ren := ⟨fun | 190 => 49 | 125 => 77 | 258 => 76 | 128 => 101 | 129 => 102 | 302 => 92 | 303 => 93 | 304 => 94 | 305 => 95 | 306 => 96 | 307 => 97 | 308 => 98 | 309 => 99 | 310 => 100 | 333 => 116 | 329 => 117 | 330 => 118 | 334 => 119 | 335 => 120 | 336 => 121 | 344 => 129 | n => n, fun | 31 => 51 | 9 => 9 | 3 => 3 | 46 => 50 | 0 => 0 | 51 => 134 | 53 => 136 | 4 => 4 | 183 => 127 | 182 => 126 | 131 => 131 | 5 => 5 | 218 => 144 | 222 => 148 | 228 => 161 | 229 => 162 | n => n, fun | n => n⟩
theorem lays190 : Go.Proofs.Lays.n190 Tryz.prog lays190_ren := {
  mixed := by kernel_rfl
  f125 := Tryz.func77.trans (congrArg some (by kernel_rfl))
  f128 := Tryz.func101.trans (congrArg some (by kernel_rfl))
  f129 := Tryz.func102.trans (congrArg some (by kernel_rfl))
  f190 := Tryz.func49.trans (congrArg some (by kernel_rfl))
  f258 := Tryz.func76.trans (congrArg some (by kernel_rfl))
  f302 := Tryz.func92.trans (congrArg some (by kernel_rfl))
  f303 := Tryz.func93.trans (congrArg some (by kernel_rfl))
  f304 := Tryz.func94.trans (congrArg some (by kernel_rfl))
  f305 := Tryz.func95.trans (congrArg some (by kernel_rfl))
  f306 := Tryz.func96.trans (congrArg some (by kernel_rfl))
  f307 := Tryz.func97.trans (congrArg some (by kernel_rfl))
  f308 := Tryz.func98.trans (congrArg some (by kernel_rfl))
  f309 := Tryz.func99.trans (congrArg some (by kernel_rfl))
  f310 := Tryz.func100.trans (congrArg some (by kernel_rfl))
  f329 := Tryz.func117.trans (congrArg some (by kernel_rfl))
  f330 := Tryz.func118.trans (congrArg some (by kernel_rfl))
  f333 := Tryz.func116.trans (congrArg some (by kernel_rfl))
  f334 := Tryz.func119.trans (congrArg some (by kernel_rfl))
  f335 := Tryz.func120.trans (congrArg some (by kernel_rfl))
  f336 := Tryz.func121.trans (congrArg some (by kernel_rfl))
  f344 := Tryz.func129.trans (congrArg some (by kernel_rfl))
  t0 := Tryz.underlying0
  a0 := Tryz.isAgg0
  z0 := Tryz.sizeOf0
  v0 := Tryz.zeroValue0
  t3 := Tryz.underlying3
  a3 := Tryz.isAgg3
  z3 := Tryz.sizeOf3
  v3 := Tryz.zeroValue3
  t4 := Tryz.underlying4
  a4 := Tryz.isAgg4
  z4 := Tryz.sizeOf4
  v4 := Tryz.zeroValue4
  t5 := Tryz.underlying5
  a5 := Tryz.isAgg5
  z5 := Tryz.sizeOf5
  v5 := Tryz.zeroValue5
  t9 := Tryz.underlying9
  a9 := Tryz.isAgg9
  z9 := Tryz.sizeOf9
  v9 := Tryz.zeroValue9
  t31 := Tryz.underlying51
  a31 := Tryz.isAgg51
  z31 := Tryz.sizeOf51
  v31 := Tryz.zeroValue51
  t46 := Tryz.underlying50
  a46 := Tryz.isAgg50
  z46 := Tryz.sizeOf50
  v46 := Tryz.zeroValue50
  t51 := Tryz.underlying134
  a51 := Tryz.isAgg134
  z51 := Tryz.sizeOf134
  v51 := Tryz.zeroValue134
  t53 := Tryz.underlying136
  a53 := Tryz.isAgg136
  z53 := Tryz.sizeOf136
  v53 := Tryz.zeroValue136
  t131 := Tryz.underlying131
  a131 := Tryz.isAgg131
  z131 := Tryz.sizeOf131
  v131 := Tryz.zeroValue131
  t182 := Tryz.underlying126
  a182 := Tryz.isAgg126
  z182 := Tryz.sizeOf126
  v182 := Tryz.zeroValue126
  t183 := Tryz.underlying127
  a183 := Tryz.isAgg127
  z183 := Tryz.sizeOf127
  v183 := Tryz.zeroValue127
  t218 := Tryz.underlying144
  a218 := Tryz.isAgg144
  z218 := Tryz.sizeOf144
  v218 := Tryz.zeroValue144
  t222 := Tryz.underlying148
  a222 := Tryz.isAgg148
  z222 := Tryz.sizeOf148
  v222 := Tryz.zeroValue148
  t228 := Tryz.underlying161
  a228 := Tryz.isAgg161
  z228 := Tryz.sizeOf161
  v228 := Tryz.zeroValue161
  t229 := Tryz.underlying162
  a229 := Tryz.isAgg162
  z229 := Tryz.sizeOf162
  v229 := Tryz.zeroValue162 }
def lays194_ren : Go.Shelf.Ren := ⟨fun | 194 => 50 | n => n, fun | 31 => 51 | 9 => 9 | 3 => 3 | 4 => 4 | 0 => 0 | n => n, fun | n => n⟩
theorem lays194 : Go.Proofs.Lays.n194 Tryz.prog lays194_ren := {
  mixed := by kernel_rfl
  f194 := Tryz.func50.trans (congrArg some (by kernel_rfl))
  t0 := Tryz.underlying0
  a0 := Tryz.isAgg0
  z0 := Tryz.sizeOf0
  v0 := Tryz.zeroValue0
  t3 := Tryz.underlying3
  a3 := Tryz.isAgg3
  z3 := Tryz.sizeOf3
  v3 := Tryz.zeroValue3
  t4 := Tryz.underlying4
  a4 := Tryz.isAgg4
  z4 := Tryz.sizeOf4
  v4 := Tryz.zeroValue4
  t9 := Tryz.underlying9
  a9 := Tryz.isAgg9
  z9 := Tryz.sizeOf9
  v9 := Tryz.zeroValue9
  t31 := Tryz.underlying51
  a31 := Tryz.isAgg51
  z31 := Tryz.sizeOf51
  v31 := Tryz.zeroValue51 }
end Go.Proofs.YthoblggjhdnlpaaGreatDoor

/- Texts sorted, each once, by the library, at rows that a call owns. -/
namespace Go.Proofs.YthoblggjhdnlpaaGreatDoor
open Go.RowKit Go.Shelf Go.Sort

def tx (xs : List ByteArray) : List (List UInt8) := xs.map (·.data.toList)
def sortL (ss : List (List UInt8)) : List (List UInt8) := ss.mergeSort fun x y => decide (x ≤ y)
theorem tx_bs (ss : List (List UInt8)) : tx (ss.map bs) = ss := by
  unfold tx
  rw [List.map_map]
  conv => rhs; rw [← List.map_id ss]
  apply List.map_congr_left
  intro x _
  exact bs_data x
theorem bs_tx (xs : List ByteArray) : (tx xs).map bs = xs := by
  unfold tx
  rw [List.map_map]
  conv => rhs; rw [← List.map_id xs]
  apply List.map_congr_left
  intro x _
  exact bs_self x
theorem enc_bs (ss : List (List UInt8)) : ss.map Proofs.encStr = (ss.map bs).map Value.string := by
  have := Lib.map_encStr (ss.map bs)
  rw [show (ss.map bs).map (·.data.toList) = ss from tx_bs ss] at this
  exact this
theorem sortL_len (ss : List (List UInt8)) : (sortL ss).length = ss.length := List.length_mergeSort ss
theorem sortL_perm (ss : List (List UInt8)) : (sortL ss).Perm ss := List.mergeSort_perm ss _
theorem le_total' (a b : List UInt8) : (decide (a ≤ b) || decide (b ≤ a)) = true := by
  rcases List.le_total a b with h | h
  · simp [h]
  · simp [h]
theorem sortL_sorted (ss : List (List UInt8)) : (sortL ss).Pairwise fun a b => a ≤ b := by
  have h := List.pairwise_mergeSort (le := fun x y : List UInt8 => decide (x ≤ y)) (fun a b c h1 h2 => decide_eq_true (List.le_trans (of_decide_eq_true h1) (of_decide_eq_true h2))) le_total' ss
  exact h.imp fun h => of_decide_eq_true h
theorem sortL_of_perm {a b : List (List UInt8)} (h : a.Perm b) : sortL a = sortL b :=
  List.Perm.eq_of_pairwise (le := fun a b => a ≤ b) (fun _ _ _ _ h1 h2 => List.le_antisymm h1 h2) (sortL_sorted a) (sortL_sorted b) ((sortL_perm a).trans (h.trans (sortL_perm b).symm))
theorem OwnS.enc {w : World} {B : Nat} {v : Value} {xs : List ByteArray} (h : OwnS w B v xs) : w.ownsRow B 9 1 v xs.length ((tx xs).map Proofs.encStr) := by
  rw [enc_bs, bs_tx]
  exact h
set_option maxHeartbeats 1000000 in
theorem sort_own (w : World) (B : Nat) (v : Value) (xs : List ByteArray) (h : OwnS w B v xs) (hl : xs.length ≤ 1000000) :
    Calls Tryz.prog 49 #[v] w fun e w' => e = .returned (.tuple #[]) ∧ OwnS w' B v ((sortL (tx xs)).map bs) ∧ w.grownBy w' v.ownBlock := by
  have henc := h.enc
  have hlen : (tx xs).length = xs.length := by unfold tx; simp
  rcases henc.2 with ⟨rfl, h0⟩ | ⟨g, cap, cur, rfl, hbase, hb, h1, h2, h3, h4⟩
  · obtain rfl : xs = [] := List.eq_nil_of_length_eq_zero h0
    refine (Any.slices_Sort_string_none lays190 none 0 w).mono ?_
    rintro e w' ⟨rfl, rfl⟩
    refine ⟨rfl, ?_, ⟨rfl, rfl, rfl, Nat.le_refl _, fun _ _ _ => rfl⟩⟩
    have : sortL (tx []) = [] := by unfold tx sortL; simp
    rw [this]
    exact h
  · have hH : Holds Proofs.encStr w g 0 (tx xs).toArray := holds_of_block hb (by rw [hlen]; rw [Nat.mul_one] at h4; exact h4)
    have hs := Any.slices_Sort_string lays190 g 0 cap (tx xs) w hH (Array.getElem?_eq_some_iff.1 hb).1 (by rw [hlen]; omega)
    rw [hlen] at hs
    refine hs.mono ?_
    rintro e w' ⟨rfl, n, os, rfl⟩
    refine ⟨rfl, ?_, grownBy_sorted _⟩
    have ho := ownsRow_sorted (n := n) (os := os) (ss := tx xs) (ts := sortL (tx xs)) (sortL_len _) hbase hb (by rw [hlen]; exact h1) h2 h3
    rw [enc_bs, hlen] at ho
    unfold OwnS
    rw [List.length_map, sortL_len, hlen]
    exact ho
theorem compact_len (ss : List (List UInt8)) : (Lib.compact ss).length ≤ ss.length := Lib.compact_length_le ss
set_option maxHeartbeats 1000000 in
theorem compact_own (w : World) (B : Nat) (v : Value) (xs : List ByteArray) (h : OwnS w B v xs) (hl : xs.length ≤ 1000000) :
    Calls Tryz.prog 50 #[v] w fun e w' => (∃ v', e = .returned v' ∧ OwnS w' B v' ((Lib.compact (tx xs)).map bs)) ∧ w.grownBy w' v.ownBlock := by
  have henc := h.enc
  have hlen : (tx xs).length = xs.length := by unfold tx; simp
  rcases henc.2 with ⟨rfl, h0⟩ | ⟨g, cap, cur, rfl, hbase, hb, h1, h2, h3, h4⟩
  · obtain rfl : xs = [] := List.eq_nil_of_length_eq_zero h0
    refine (Any.slices_Compact_string_empty lays194 none 0 w).mono ?_
    rintro e w' ⟨rfl, rfl⟩
    refine ⟨⟨_, rfl, ?_⟩, ⟨rfl, rfl, rfl, Nat.le_refl _, fun _ _ _ => rfl⟩⟩
    have : Lib.compact (tx []) = [] := by unfold tx; rfl
    rw [this]
    exact h
  · have hH : Holds Proofs.encStr w g 0 (tx xs).toArray := holds_of_block hb (by rw [hlen]; rw [Nat.mul_one] at h4; exact h4)
    have hs := Any.slices_Compact_string lays194 g 0 cap (tx xs) w hH (by rw [hlen]; omega) (by rw [hlen]; exact h1)
    rw [hlen] at hs
    have hcl := compact_len (tx xs)
    refine hs.mono ?_
    rintro e w' ⟨rfl, q, rfl⟩
    refine ⟨⟨_, rfl, ?_⟩, ?_⟩
    · have ho := Lib.ownsRow_putRow (q := q) (k := (Lib.compact (tx xs)).length) (ys := Lib.compact (tx xs) ++ List.replicate (xs.length - (Lib.compact (tx xs)).length) []) henc (by simp; omega) (by omega)
      rw [List.take_left, enc_bs] at ho
      unfold OwnS
      rw [List.length_map]
      exact ho
    · refine ⟨rfl, rfl, rfl, by simp [putRow, mapBlock, Sort.ahead], fun k hk hne => ?_⟩
      have : g ≠ k := fun e => hne (by rw [e]; rfl)
      simp [putRow, mapBlock, Sort.ahead, Array.getElem?_modify, this]
end Go.Proofs.YthoblggjhdnlpaaGreatDoor

/- Rows of texts that lie somewhere. -/
namespace Go.Proofs.YthoblggjhdnlpaaGreatDoor
open Go.RowKit

/-- A row of texts that lies somewhere. -/
structure Strs (w : World) (a0 : Option Addr) (len b off : Nat) (xs : List ByteArray) : Prop where
  len_eq : xs.length = len
  lies : 0 < len → a0 = some ⟨b, off, none⟩ ∧ b < w.heap.size
  cells : ∀ (j : Nat) (x : ByteArray), xs[j]? = some x → w.cell? ⟨b, off + j, none⟩ = some (.string x)
theorem Strs.below {w w' : World} {a0 : Option Addr} {len b off : Nat} {xs : List ByteArray} (h : Strs w a0 len b off xs) (hb : Below w.heap.size w w') : Strs w' a0 len b off xs := by
  refine ⟨h.len_eq, fun h0 => ⟨(h.lies h0).1, Nat.lt_of_lt_of_le (h.lies h0).2 hb.size⟩, fun j x hx => ?_⟩
  have hj := (List.getElem?_eq_some_iff.1 hx).1
  have hl := h.len_eq
  rw [hb.cell (p := ⟨b, off + j, none⟩) (h.lies (by omega)).2]
  exact h.cells j x hx
theorem OwnS.strs {w : World} {B : Nat} {v : Value} {xs : List ByteArray} (h : OwnS w B v xs) : ∃ (a : Option Addr) (cap g : Nat), v = .slice a xs.length cap ∧ Strs w a xs.length g 0 xs := by
  rcases h.2 with ⟨rfl, h0⟩ | ⟨g, cap, cur, rfl, _, hh, _, _, _, ht⟩
  · refine ⟨none, 0, 0, by rw [h0], rfl, fun h1 => absurd h0 (by omega), fun j x hx => ?_⟩
    have := (List.getElem?_eq_some_iff.1 hx).1
    omega
  · refine ⟨_, cap, g, rfl, rfl, fun _ => ⟨rfl, ?_⟩, fun j x hx => ?_⟩
    · rcases Nat.lt_or_ge g w.heap.size with h1 | h1
      · exact h1
      · simp [Array.getElem?_eq_none h1] at hh
    · have hj := World.ownsRow.cells h (g := g) rfl j (.string x) (by rw [List.getElem?_map, hx]; rfl)
      rw [WideShapes.add_plain] at hj
      exact hj
theorem Strs.drewN {w : World} {a0 : Option Addr} {len b off : Nat} {xs : List ByteArray} (h : Strs w a0 len b off xs) (n : Nat) : Strs (w.drewN n) a0 len b off xs := ⟨h.len_eq, h.lies, h.cells⟩
end Go.Proofs.YthoblggjhdnlpaaGreatDoor

/- Which headers must be asked for, by the program. -/
namespace Go.Proofs.YthoblggjhdnlpaaGreatDoor
open Go.RowKit

/-- Two rows of texts, each in blocks of its own. -/
structure Two (w : World) (B : Nat) (u v : Value) (xs ys : List ByteArray) : Prop where
  one : OwnS w B u xs
  two : OwnS w B v ys
  apart : ∀ k, u.ownBlock = some k → v.ownBlock ≠ some k
theorem Two.swap {w : World} {B : Nat} {u v : Value} {xs ys : List ByteArray} (h : Two w B u v xs ys) : Two w B v u ys xs := ⟨h.two, h.one, fun k h1 h2 => h.apart k h2 h1⟩
theorem Two.below {w w' : World} {B : Nat} {u v : Value} {xs ys : List ByteArray} (h : Two w B u v xs ys) (hb : Below w.heap.size w w') : Two w' B u v xs ys := ⟨h.one.below hb, h.two.below hb, h.apart⟩
theorem OwnS.other {w w' : World} {B : Nat} {u v : Value} {xs : List ByteArray} (h : OwnS w B v xs) (hg : w.grownBy w' u.ownBlock) (ha : ∀ k, u.ownBlock = some k → v.ownBlock ≠ some k) : OwnS w' B v xs := by
  rcases hu : u.ownBlock with _ | k
  · rw [hu] at hg
    refine World.ownsRow.kept h hg ?_
    rcases v.ownBlock with _ | j
    · exact .inl rfl
    · exact .inr (by simp)
  · rw [hu] at hg
    exact World.ownsRow.kept h hg (.inr (ha k hu))
/-- One text more at the first of two rows. -/
theorem wp_app2 {ops : Array Oper} {rest : List Oper} {o : Oper} {a : Act} {Q : Exit → Act → World → Prop} (hgd : o.guard = none) (s x : Operand)
    (ho : o.op = .call { callee := .builtin .append, args := #[s, x], argTypes := #[51, 51] })
    (B : Nat) (wr : World) (u v : Value) (xs ys : List ByteArray) (n : Nat) (hs : a.eval s = u) (hown : Two wr B u v xs ys) (hn : xs.length = n) (hl : n ≤ 100000) (hB : B ≤ wr.heap.size)
    (t : ByteArray) (hx : a.eval x = .slice (some ⟨wr.heap.size, 0, none⟩) 1 1)
    (h : ∀ g cap w', Two w' B (.slice (some ⟨g, 0, none⟩) (n + 1) cap) v (xs ++ [t]) ys → Below B wr w' → (∀ j, j < wr.heap.size → u.ownBlock ≠ some j → w'.heap[j]? = wr.heap[j]?) → wpList Tryz.prog ops Q rest (a.put o.dst (.slice (some ⟨g, 0, none⟩) (n + 1) cap)) w') :
    wpList Tryz.prog ops Q (o :: rest) a (wr.alloc (.cells #[.string t] 9)) := by
  subst hn
  obtain ⟨i0, hi0, hz0, hz1, hz2⟩ := info_parts info9
  refine wpList_append_lies _ hgd s x 51 ho B 9 i0 (.string ⟨#[]⟩) 1 16 Tryz.underlying51 hi0 hz0 hz1 hz2 rfl (by omega) u xs.length _ hs (World.ownsRow.alloc hown.one _) ⟨wr.heap.size, 0, none⟩ 1 1 [.string t] hx rfl
    (World.news_of_block (cs := #[.string t]) (t := 9) (fr := (0, 0)) (heap_alloc_new wr _)) (by simp [Value.oneCell']) (by omega) (by unfold maxLen; omega) (by omega) (by simp; omega) _ rfl ?_
  intro g cap w' hown1 hgrow hgw hlt
  have hb0 : Below wr.heap.size wr (wr.alloc (.cells #[.string t] 9)) := (Below.refl _ _).alloc (Nat.le_refl _) _
  refine h g cap w' ⟨?_, ?_, ?_⟩ ?_ ?_
  · unfold OwnS
    rw [List.length_append, List.map_append]
    exact hown1
  · exact (hown.two.below hb0).other hgrow hown.apart
  · intro k hk hvk
    have hkg : g = k := by simpa [Value.ownBlock] using hk
    subst hkg
    rcases hgw with e | e
    · exact hown.apart g e hvk
    · have := (hown.two.lt g hvk).2
      simp at e
      omega
  · exact ((Below.refl B wr).alloc hB _).grown hgrow (by simp; omega) (fun k hk => (hown.one.lt k hk).1)
  · intro j hj hne
    exact (hgrow.block j (by simp; omega) (fun e => hne e.symm)).trans (hb0.block j hj)
/-- All texts of the second row behind those of the first. -/
theorem wp_appAll {ops : Array Oper} {rest : List Oper} {o : Oper} {a : Act} {Q : Exit → Act → World → Prop} (hgd : o.guard = none) (s x : Operand)
    (ho : o.op = .call { callee := .builtin .append, args := #[s, x], argTypes := #[51, 51] })
    (B : Nat) (wr : World) (u v : Value) (xs ys : List ByteArray) (n m : Nat) (hs : a.eval s = u) (hx : a.eval x = v) (hown : Two wr B u v xs ys) (hn : xs.length = n) (hm : ys.length = m) (h0 : 0 < m) (hl : n + m ≤ 100000) (hB : B ≤ wr.heap.size)
    (h : ∀ g cap w', OwnS w' B (.slice (some ⟨g, 0, none⟩) (n + m) cap) (xs ++ ys) → Below B wr w' → wpList Tryz.prog ops Q rest (a.put o.dst (.slice (some ⟨g, 0, none⟩) (n + m) cap)) w') :
    wpList Tryz.prog ops Q (o :: rest) a wr := by
  subst hn hm
  obtain ⟨i0, hi0, hz0, hz1, hz2⟩ := info_parts info9
  rcases hown.two.2 with ⟨_, e⟩ | ⟨gv, cv, cur, rfl, hbv, hhv, h1, h2, h3, h4⟩
  · omega
  · refine wpList_append_lies _ hgd s x 51 ho B 9 i0 (.string ⟨#[]⟩) 1 16 Tryz.underlying51 hi0 hz0 hz1 hz2 rfl (by omega) u xs.length _ hs hown.one ⟨gv, 0, none⟩ ys.length cv (ys.map Value.string) hx (by simp)
      (fun j q hj => World.ownsRow.cells hown.two (g := gv) rfl j q hj) (fun q hq => by obtain ⟨b, _, rfl⟩ := List.mem_map.1 hq; rfl) h0 (by unfold maxLen; omega) (by omega) hB _ rfl ?_
    intro g cap w' hown1 hgrow hgw hlt
    refine h g cap w' ?_ ((Below.refl B wr).grown hgrow hB (fun k hk => (hown.one.lt k hk).1))
    unfold OwnS
    rw [List.length_append, List.map_append]
    exact hown1
def lowN (p : Par) : ByteArray := bs (p.1.data.toList.map low)
def plain8 (p : Par) : Bool := plainL p.1.data.toList p.2.data.toList
/-- The names of those that aren't plain, and of those that are, in their order; how many bytes of values the latter have. -/
def notPlain (ps : List Par) : List ByteArray := (ps.filter fun p => !plain8 p).map lowN
def arePlain (ps : List Par) : List ByteArray := (ps.filter fun p => plain8 p).map lowN
def together (ps : List Par) : Nat := ((ps.filter fun p => plain8 p).map fun p => p.2.size).sum
def askedNames (ps : List Par) : List ByteArray := if 1024 < together ps then notPlain ps ++ arePlain ps else notPlain ps
def askedL (ps : List Par) : List ByteArray := (Lib.compact (sortL (tx (askedNames ps)))).map bs
theorem take_next (ps : List Par) (k : Nat) (p : Par) (h : ps[k]? = some p) : ps.take (k + 1) = ps.take k ++ [p] := by
  obtain ⟨hk, e⟩ := List.getElem?_eq_some_iff.1 h
  rw [List.take_succ_eq_append_getElem hk, e]
theorem notPlain_yes (ps : List Par) (k : Nat) (p : Par) (h : ps[k]? = some p) (hp : plain8 p = true) : notPlain (ps.take (k + 1)) = notPlain (ps.take k) ∧ arePlain (ps.take (k + 1)) = arePlain (ps.take k) ++ [lowN p] ∧ together (ps.take (k + 1)) = together (ps.take k) + p.2.size := by
  unfold notPlain arePlain together
  rw [take_next ps k p h]
  simp [List.filter_append, hp]
theorem notPlain_no (ps : List Par) (k : Nat) (p : Par) (h : ps[k]? = some p) (hp : plain8 p = false) : notPlain (ps.take (k + 1)) = notPlain (ps.take k) ++ [lowN p] ∧ arePlain (ps.take (k + 1)) = arePlain (ps.take k) ∧ together (ps.take (k + 1)) = together (ps.take k) := by
  unfold notPlain arePlain together
  rw [take_next ps k p h]
  simp [List.filter_append, hp]
theorem sum_le (l : List Nat) (m : Nat) (h : ∀ x ∈ l, x ≤ m) : l.sum ≤ l.length * m := by
  induction l with
  | nil => simp
  | cons a t ih =>
    have h1 := h a (by simp)
    have h2 := ih (fun x hx => h x (by simp [hx]))
    rw [List.sum_cons, List.length_cons, Nat.succ_mul]
    omega
theorem plain_short (p : Par) (h : plain8 p = true) : p.2.size ≤ 128 := by
  unfold plain8 plainL at h
  rw [Bool.and_eq_true] at h
  have := of_decide_eq_true h.1
  have e : p.2.data.toList.length = p.2.size := Array.length_toList
  omega
theorem together_le (ps : List Par) : together ps ≤ ps.length * 128 := by
  unfold together
  refine Nat.le_trans (sum_le _ 128 ?_) (Nat.mul_le_mul_right _ ?_)
  · intro x hx
    obtain ⟨p, hp, rfl⟩ := List.mem_map.1 hx
    exact plain_short p (by simpa using (List.mem_filter.1 hp).2)
  · rw [List.length_map]; exact List.length_filter_le _ _
theorem lens_le (ps : List Par) : (notPlain ps).length + (arePlain ps).length = ps.length := by
  unfold notPlain arePlain
  rw [List.length_map, List.length_map]
  induction ps with
  | nil => rfl
  | cons p r ih =>
    cases h : plain8 p
    · rw [List.filter_cons_of_pos (by simp [h]), List.filter_cons_of_neg (by simp [h])]
      simp only [List.length_cons]
      omega
    · rw [List.filter_cons_of_neg (by simp [h]), List.filter_cons_of_pos (by simp [h])]
      simp only [List.length_cons]
      omega
theorem together_none (ps : List Par) (h : (arePlain ps).length = 0) : together ps = 0 := by
  unfold arePlain at h
  unfold together
  rw [List.length_map] at h
  rw [List.eq_nil_of_length_eq_zero h]
  rfl
end Go.Proofs.YthoblggjhdnlpaaGreatDoor

/- What passes allow. -/
namespace Go.Proofs.YthoblggjhdnlpaaGreatDoor

def authB : List UInt8 := [97, 117, 116, 104, 111, 114, 105, 122, 97, 116, 105, 111, 110]
def okM (wi : Bool) (m : ByteArray) (p : PsV) : Bool := p.me.toList == m.toList || (p.me.toList == [42] && !wi)
def okH (wi : Bool) (n : ByteArray) (p : PsV) : Bool := p.he.toList == n.toList || (p.he.toList == [42] && !wi && !(n.toList == [97, 117, 116, 104, 111, 114, 105, 122, 97, 116, 105, 111, 110]))
def coversL (wi : Bool) (m : ByteArray) (xs : List ByteArray) (l : List PsV) : Bool := (simpleL m.toList || l.any (okM wi m)) && xs.all fun n => l.any (okH wi n)
end Go.Proofs.YthoblggjhdnlpaaGreatDoor
