/- Texts of one claim, joined: each begins with what it proves. -/
import Derived.Test.YtoblpjknnchlmabGreatDoorJo3
import Derived.Test.YtoblpjknnchlmabGreatDoorJo1
import Derived.Test.YtoblpjknnchlmabGreatDoorJo2
import Derived.Shelf.Strings.CaseAny
import Derived.Shelf.Strings.OnBuilder
import Derived.Shelf.Sort.Plain
import Derived.Shelf.Slices.In.SortNone2
import Derived.Deep.LoopGhost
import Derived.Deep.Cut
import Derived.Deep.CutRange
import Derived.Deep.DeepCutAuto
import Derived.Shelf.Strings.Split
/- What passes allow, told by the keys that are left over. -/
namespace Go.Proofs.YtoblpjknnchlmabGreatDoor
open Go.RowKit

/-- Whether a star of a pass strikes a key. -/
def star9 (wi : Bool) (me he l : List UInt8) : Bool := !wi && ((me == [42] && l.headD 0 == 109) || (he == [42] && (l.headD 0 == 104 && !(l == [104, 97, 117, 116, 104, 111, 114, 105, 122, 97, 116, 105, 111, 110]))))
def strikes (wi : Bool) (p : PsV) (l : List UInt8) : Bool := l == 109 :: p.me.toList || (l == 104 :: p.he.toList || star9 wi p.me.toList p.he.toList l)
/-- The keys ahead of the passes. -/
def keys9 (z : Bool) (m : List UInt8) (xs : List ByteArray) (l : List UInt8) : Bool := xs.any (fun x => l == 104 :: x.toList) || (!z && l == 109 :: m)
def left9 (z : Bool) (m : List UInt8) (xs : List ByteArray) (wi : Bool) (ps : List PsV) (l : List UInt8) : Bool := keys9 z m xs l && !ps.any (fun p => strikes wi p l)
theorem strikes_m (wi : Bool) (p : PsV) (m : ByteArray) : strikes wi p (109 :: m.toList) = okM wi m p := by
  unfold strikes star9 okM
  have e : (m.toList == p.me.toList) = (p.me.toList == m.toList) := BEq.comm
  have e2 : ((109 :: m.toList : List UInt8) == 109 :: p.me.toList) = (m.toList == p.me.toList) := by rw [Bool.eq_iff_iff]; simp
  have e3 : ((109 :: m.toList : List UInt8) == 104 :: p.he.toList) = false := by simp
  rw [e2, e3, e]
  simp only [List.headD_cons]
  cases (p.me.toList == m.toList) <;> cases (p.me.toList == [42]) <;> cases wi <;> simp
theorem strikes_h (wi : Bool) (p : PsV) (n : ByteArray) : strikes wi p (104 :: n.toList) = okH wi n p := by
  unfold strikes star9 okH
  have e : (n.toList == p.he.toList) = (p.he.toList == n.toList) := BEq.comm
  have e2 : ((104 :: n.toList : List UInt8) == 104 :: p.he.toList) = (n.toList == p.he.toList) := by rw [Bool.eq_iff_iff]; simp
  have e3 : ((104 :: n.toList : List UInt8) == 109 :: p.me.toList) = false := by simp
  have e4 : ((104 :: n.toList : List UInt8) == [104, 97, 117, 116, 104, 111, 114, 105, 122, 97, 116, 105, 111, 110]) = (n.toList == [97, 117, 116, 104, 111, 114, 105, 122, 97, 116, 105, 111, 110]) := by rw [Bool.eq_iff_iff]; simp
  rw [e2, e3, e4, e]
  simp only [List.headD_cons]
  cases (p.he.toList == n.toList) <;> cases (p.he.toList == [42]) <;> cases (n.toList == [97, 117, 116, 104, 111, 114, 105, 122, 97, 116, 105, 111, 110]) <;> cases wi <;> simp
theorem not_all_mem {n : ByteArray} {xs : List ByteArray} {f : ByteArray → Bool} (hn : n ∈ xs) (h : f n = false) : xs.all f = false := List.all_eq_false.2 ⟨n, hn, by rw [h]; simp⟩
theorem left_none (m : ByteArray) (xs : List ByteArray) (wi : Bool) (ps : List PsV) (h : ∀ l, left9 (simpleL m.toList) m.toList xs wi ps l = false) : coversL wi m xs ps = true := by
  unfold coversL
  rw [Bool.and_eq_true]
  constructor
  · have := h (109 :: m.toList)
    unfold left9 keys9 at this
    have e : (fun p => strikes wi p (109 :: m.toList)) = okM wi m := funext fun p => strikes_m wi p m
    rw [e] at this
    cases hz : simpleL m.toList
    · rw [hz] at this
      simpa using this
    · rfl
  · rw [List.all_eq_true]
    intro n hn
    have := h (104 :: n.toList)
    unfold left9 keys9 at this
    have e : (fun p => strikes wi p (104 :: n.toList)) = okH wi n := funext fun p => strikes_h wi p n
    rw [e] at this
    have e2 : (xs.any fun x => (104 :: n.toList : List UInt8) == 104 :: x.toList) = true := List.any_eq_true.2 ⟨n, hn, by simp⟩
    rw [e2] at this
    simpa using this
theorem left_some (m : ByteArray) (xs : List ByteArray) (wi : Bool) (ps : List PsV) (l : List UInt8) (h : left9 (simpleL m.toList) m.toList xs wi ps l = true) : coversL wi m xs ps = false := by
  unfold left9 keys9 at h
  rw [Bool.and_eq_true, Bool.or_eq_true] at h
  obtain ⟨h1 | h1, h2⟩ := h
  · obtain ⟨n, hn, he⟩ := List.any_eq_true.1 h1
    have he := eq_of_beq he
    subst he
    have e : (fun p => strikes wi p (104 :: n.toList)) = okH wi n := funext fun p => strikes_h wi p n
    rw [e] at h2
    have h3 : ps.any (okH wi n) = false := by simpa using h2
    unfold coversL
    rw [not_all_mem hn h3, Bool.and_false]
  · rw [Bool.and_eq_true] at h1
    have he := eq_of_beq h1.2
    subst he
    have e : (fun p => strikes wi p (109 :: m.toList)) = okM wi m := funext fun p => strikes_m wi p m
    rw [e] at h2
    have h3 : ps.any (okM wi m) = false := by simpa using h2
    have h4 : simpleL m.toList = false := by simpa using h1.1
    unfold coversL
    rw [h3, h4]
    rfl
theorem left_next (z : Bool) (m : List UInt8) (xs : List ByteArray) (wi : Bool) (ps : List PsV) (k : Nat) (p : PsV) (hp : ps[k]? = some p) (l : List UInt8) : left9 z m xs wi (ps.take (k + 1)) l = (left9 z m xs wi (ps.take k) l && !strikes wi p l) := by
  unfold left9
  obtain ⟨hk, e⟩ := List.getElem?_eq_some_iff.1 hp
  rw [List.take_succ_eq_append_getElem hk, List.any_append, e]
  cases keys9 z m xs l <;> cases (ps.take k).any (fun p => strikes wi p l) <;> simp
theorem keys_next (z : Bool) (m : List UInt8) (xs : List ByteArray) (k : Nat) (x : ByteArray) (hx : xs[k]? = some x) (l : List UInt8) : keys9 z m (xs.take (k + 1)) l = (l == 104 :: x.toList || keys9 z m (xs.take k) l) := by
  unfold keys9
  obtain ⟨hk, e⟩ := List.getElem?_eq_some_iff.1 hx
  rw [List.take_succ_eq_append_getElem hk, List.any_append, e]
  rw [List.any_cons, List.any_nil, Bool.or_false]
  generalize (!z && l == 109 :: m) = u
  generalize (xs.take k).any (fun x => l == 104 :: x.toList) = v
  generalize (l == 104 :: x.toList) = t
  cases u <;> cases v <;> cases t <;> rfl
/-- A key that is left is a letter and a text. -/
theorem left_key {z : Bool} {m : ByteArray} {xs : List ByteArray} {wi : Bool} {ps : List PsV} {l : List UInt8} (h : left9 z m.toList xs wi ps l = true) : ∃ c t, l = c :: t ∧ (t = m.toList ∨ ∃ x ∈ xs, t = x.toList) := by
  unfold left9 keys9 at h
  rw [Bool.and_eq_true, Bool.or_eq_true] at h
  obtain ⟨h1 | h1, _⟩ := h
  · obtain ⟨n, hn, he⟩ := List.any_eq_true.1 h1
    exact ⟨_, _, eq_of_beq he, .inr ⟨n, hn, rfl⟩⟩
  · rw [Bool.and_eq_true] at h1
    exact ⟨_, _, eq_of_beq h1.2, .inl rfl⟩
end Go.Proofs.YtoblpjknnchlmabGreatDoor

/- The library's contracts that are leant on, laid at this program's numbers. -/
namespace Go.Proofs.YtoblpjknnchlmabGreatDoor
open Go.Shelf Go.RowKit
def lays158_ren : Go.Shelf.Ren := ⟨fun | 158 => 82 | 165 => 112 | 166 => 35 | 167 => 113 | 169 => 36 | 230 => 114 | 203 => 115 | 240 => 67 | 241 => 141 | 197 => 92 | 118 => 142 | 168 => 143 | 270 => 144 | 262 => 145 | 276 => 95 | 277 => 159 | 260 => 124 | 242 => 160 | 313 => 161 | 278 => 167 | 274 => 168 | 275 => 169 | n => n, fun | 9 => 9 | 4 => 4 | 3 => 3 | 5 => 5 | 72 => 72 | 0 => 0 | 76 => 74 | 75 => 32 | 107 => 136 | 70 => 69 | 20 => 20 | 37 => 70 | 127 => 100 | 21 => 21 | 105 => 119 | 164 => 122 | 162 => 180 | 203 => 178 | 119 => 161 | 46 => 80 | 139 => 164 | 138 => 163 | 51 => 153 | 160 => 188 | 208 => 194 | 206 => 192 | 80 => 76 | n => n, fun | 13 => 5 | 3 => 3 | 4 => 4 | n => n⟩
theorem lays158 : Go.Proofs.Lays.n158 Tryz.prog lays158_ren := {
  mixed := by kernel_rfl
  f118 := Tryz.func142.trans (congrArg some (by kernel_rfl))
  f158 := Tryz.func82.trans (congrArg some (by kernel_rfl))
  f165 := Tryz.func112.trans (congrArg some (by kernel_rfl))
  f166 := Tryz.func35.trans (congrArg some (by kernel_rfl))
  f167 := Tryz.func113.trans (congrArg some (by kernel_rfl))
  f168 := Tryz.func143.trans (congrArg some (by kernel_rfl))
  f169 := Tryz.func36.trans (congrArg some (by kernel_rfl))
  f197 := Tryz.func92.trans (congrArg some (by kernel_rfl))
  f203 := Tryz.func115.trans (congrArg some (by kernel_rfl))
  f230 := Tryz.func114.trans (congrArg some (by kernel_rfl))
  f240 := Tryz.func67.trans (congrArg some (by kernel_rfl))
  f241 := Tryz.func141.trans (congrArg some (by kernel_rfl))
  f242 := Tryz.func160.trans (congrArg some (by kernel_rfl))
  f260 := Tryz.func124.trans (congrArg some (by kernel_rfl))
  f262 := Tryz.func145.trans (congrArg some (by kernel_rfl))
  f270 := Tryz.func144.trans (congrArg some (by kernel_rfl))
  f274 := Tryz.func168.trans (congrArg some (by kernel_rfl))
  f275 := Tryz.func169.trans (congrArg some (by kernel_rfl))
  f276 := Tryz.func95.trans (congrArg some (by kernel_rfl))
  f277 := Tryz.func159.trans (congrArg some (by kernel_rfl))
  f278 := Tryz.func167.trans (congrArg some (by kernel_rfl))
  f313 := Tryz.func161.trans (congrArg some (by kernel_rfl))
  t0 := Tryz.underlying0
  a0 := Tryz.isAgg0
  z0 := Tryz.sizeOf0
  v0 := Tryz.zeroValue0
  t3 := Tryz.underlying3
  a3 := Tryz.isAgg3
  z3 := Tryz.sizeOf3
  v3 := Tryz.zeroValue3
  t4 := Tryz.underlying4
  a4 := Tryz.isAgg4
  z4 := Tryz.sizeOf4
  v4 := Tryz.zeroValue4
  t5 := Tryz.underlying5
  a5 := Tryz.isAgg5
  z5 := Tryz.sizeOf5
  v5 := Tryz.zeroValue5
  t9 := Tryz.underlying9
  a9 := Tryz.isAgg9
  z9 := Tryz.sizeOf9
  v9 := Tryz.zeroValue9
  t20 := Tryz.underlying20
  a20 := Tryz.isAgg20
  z20 := Tryz.sizeOf20
  v20 := Tryz.zeroValue20
  t21 := Tryz.underlying21
  a21 := Tryz.isAgg21
  z21 := Tryz.sizeOf21
  v21 := Tryz.zeroValue21
  t37 := Tryz.underlying70
  a37 := Tryz.isAgg70
  z37 := Tryz.sizeOf70
  v37 := Tryz.zeroValue70
  t46 := Tryz.underlying80
  a46 := Tryz.isAgg80
  z46 := Tryz.sizeOf80
  v46 := Tryz.zeroValue80
  t51 := Tryz.underlying153
  a51 := Tryz.isAgg153
  z51 := Tryz.sizeOf153
  v51 := Tryz.zeroValue153
  t70 := Tryz.underlying69
  a70 := Tryz.isAgg69
  z70 := Tryz.sizeOf69
  v70 := Tryz.zeroValue69
  t72 := Tryz.underlying72
  a72 := Tryz.isAgg72
  z72 := Tryz.sizeOf72
  v72 := Tryz.zeroValue72
  t75 := Tryz.underlying32
  a75 := Tryz.isAgg32
  z75 := Tryz.sizeOf32
  v75 := Tryz.zeroValue32
  t76 := Tryz.underlying74
  a76 := Tryz.isAgg74
  z76 := Tryz.sizeOf74
  v76 := Tryz.zeroValue74
  t105 := Tryz.underlying119
  a105 := Tryz.isAgg119
  z105 := Tryz.sizeOf119
  v105 := Tryz.zeroValue119
  t107 := Tryz.underlying136
  a107 := Tryz.isAgg136
  z107 := Tryz.sizeOf136
  v107 := Tryz.zeroValue136
  t119 := Tryz.underlying161
  a119 := Tryz.isAgg161
  z119 := Tryz.sizeOf161
  t127 := Tryz.underlying100
  a127 := Tryz.isAgg100
  z127 := Tryz.sizeOf100
  v127 := Tryz.zeroValue100
  t138 := Tryz.underlying163
  a138 := Tryz.isAgg163
  z138 := Tryz.sizeOf163
  v138 := Tryz.zeroValue163
  t139 := Tryz.underlying164
  a139 := Tryz.isAgg164
  z139 := Tryz.sizeOf164
  v139 := Tryz.zeroValue164
  t160 := Tryz.underlying188
  a160 := Tryz.isAgg188
  z160 := Tryz.sizeOf188
  v160 := Tryz.zeroValue188
  t162 := Tryz.underlying180
  a162 := Tryz.isAgg180
  z162 := Tryz.sizeOf180
  v162 := Tryz.zeroValue180
  t164 := Tryz.underlying122
  a164 := Tryz.isAgg122
  z164 := Tryz.sizeOf122
  v164 := Tryz.zeroValue122
  t203 := Tryz.underlying178
  a203 := Tryz.isAgg178
  z203 := Tryz.sizeOf178
  v203 := Tryz.zeroValue178
  t206 := Tryz.underlying192
  a206 := Tryz.isAgg192
  z206 := Tryz.sizeOf192
  v206 := Tryz.zeroValue192
  t208 := Tryz.underlying194
  a208 := Tryz.isAgg194
  z208 := Tryz.sizeOf194
  v208 := Tryz.zeroValue194
  g3 := by kernel_rfl
  g4 := by kernel_rfl
  g13 := by kernel_rfl }
theorem Builder_Extra_158 : Builder.Extra Tryz.prog lays158_ren := {
  sizeBuilder := by kernel_rfl
  liesBuilder := by kernel_rfl
  t5 := Tryz.underlying5
  a5 := Tryz.isAgg5
  z5 := Tryz.sizeOf5
  v5 := Tryz.zeroValue5
  infoByte := by kernel_rfl
  cellsByte := by kernel_rfl
  sizeByte := by kernel_rfl
  neB5 := by decide }
end Go.Proofs.YtoblpjknnchlmabGreatDoor

/- A text of ASCII bytes in great letters, by the library. -/
namespace Go.Proofs.YtoblpjknnchlmabGreatDoor
open Go.RowKit Go.Shelf Go.Lib

theorem upper_ascii (s x : ByteArray) (hs : s.size ≤ 5000) (ha : ∀ c ∈ s.data.toList, c.toNat < 128) (hx : s.data.toList.map Lib.upperB = x.data.toList) (w : World) :
    Calls Tryz.prog 82 #[.string s] w fun e w' => e = .returned (.string x) ∧ Below w.heap.size w w' := by
  refine (Any.strings_ToUpper_ascii lays158 Builder_Extra_158 s w (by omega) (fun j b hb => ha b (List.mem_of_getElem? hb))).mono ?_
  rintro e w' ⟨rfl, hb⟩
  refine ⟨?_, hb⟩
  congr 2
  apply ByteArray.ext
  apply Array.ext'
  rw [← hx]
  rfl
end Go.Proofs.YtoblpjknnchlmabGreatDoor

/- One byte as a text, by the document's own answer. -/
namespace Go.Proofs.YtoblpjknnchlmabGreatDoor
open Go.RowKit

set_option maxHeartbeats 400000 in
theorem char_any (n : Int) (h0 : 0 ≤ n) (h1 : n < 256) (w : World) :
    Calls Tryz.prog 111 #[.int .i64 n] w fun e w' => e = .returned (.string (bs [UInt8.ofNat n.toNat])) ∧ Below w.heap.size w w' := by
  have hback := run_convert_bytes_back (P := Tryz.prog) (w.alloc (.cells #[.int .u8 n] 5)) 70 9 5 ⟨w.heap.size, 0, none⟩ 1 [UInt8.ofNat n.toNat] Tryz.underlying70 Tryz.underlying5 Tryz.underlying9 (fun j hj => by
    have : j = 0 := by simpa using hj
    subst this
    simp only [List.getElem_cons_zero, ofNat_back n h0 h1]
    simp [Addr.add])
  have hb : (convert 70 9 (.slice (some ⟨w.heap.size, 0, none⟩) 1 1)).run Tryz.prog (w.alloc (.cells #[.int .u8 n] 5)) = .ok (.string (bs [UInt8.ofNat n.toNat])) (w.alloc (.cells #[.int .u8 n] 5)) := hback
  clear hback
  go_enter Tryz.func111, Tryz.ntmps111
  go_wp2
  go_ret
  exact ⟨rfl, (Below.refl _ _).alloc (Nat.le_refl _) _⟩
/-- The one-byte text, kept from the walk. -/
theorem char_o (n : Int) (h0 : 0 ≤ n) (h1 : n < 256) (w : World) :
    Calls Tryz.prog 111 #[.int .i64 n] w fun e w' => ∃ o : ByteArray, e = .returned (.string o) ∧ o.size = 1 ∧ Hid (o = bs [UInt8.ofNat n.toNat]) ∧ Below w.heap.size w w' := by
  refine (char_any n h0 h1 w).mono ?_
  rintro e w' ⟨rfl, hb⟩
  exact ⟨_, rfl, by simp [bs_size], rfl, hb⟩
end Go.Proofs.YtoblpjknnchlmabGreatDoor

/- Whether a number lies between two, by the document's own answer. -/
namespace Go.Proofs.YtoblpjknnchlmabGreatDoor
open Go.RowKit

set_option maxHeartbeats 400000 in
theorem within_any (n a b : Int) (w : World) :
    Calls Tryz.prog 110 #[.int .i64 n, .int .i64 a, .int .i64 b] w fun e w' => e = .returned (.bool (decide (a ≤ n ∧ n ≤ b))) ∧ w' = w := by
  by_cases h : a ≤ n
  · by_cases h2 : n ≤ b
    · go_enter Tryz.func110, Tryz.ntmps110
      go_wp2
      go_ret
      simp [h, h2]
    · go_enter Tryz.func110, Tryz.ntmps110
      go_wp2
      go_ret
      simp [h2]
  · go_enter Tryz.func110, Tryz.ntmps110
    go_wp2
    go_ret
    simp; omega

theorem within_yes (n a b : Int) (h : a ≤ n) (h2 : n ≤ b) (w : World) : Calls Tryz.prog 110 #[.int .i64 n, .int .i64 a, .int .i64 b] w fun e w' => e = .returned (.bool true) ∧ w' = w := by
  refine (within_any n a b w).mono ?_
  rintro e w' ⟨rfl, rfl⟩
  simp [h, h2]
theorem within_no (n a b : Int) (h : ¬ (a ≤ n ∧ n ≤ b)) (w : World) : Calls Tryz.prog 110 #[.int .i64 n, .int .i64 a, .int .i64 b] w fun e w' => e = .returned (.bool false) ∧ w' = w := by
  refine (within_any n a b w).mono ?_
  rintro e w' ⟨rfl, rfl⟩
  rw [decide_eq_false h]
  exact ⟨rfl, rfl⟩
end Go.Proofs.YtoblpjknnchlmabGreatDoor

/- The document's own small letters, told as a list of bytes. -/
namespace Go.Proofs.YtoblpjknnchlmabGreatDoor
open Go.RowKit

set_option maxHeartbeats 400000 in
theorem refLower_any (s : ByteArray) (w : World) (hs : s.size ≤ 20000) :
    Calls Tryz.prog 81 #[.string s] w fun e w' => e = .returned (.string (bs (s.data.toList.map low))) ∧ Below w.heap.size w w' := by
  go_enter Tryz.func81, Tryz.ntmps81
  go_wp2
  go_loopw [3, 8] (fun v i wr => ∃ (k : Nat) (o : ByteArray), k ≤ s.size ∧ i = .int .i64 k ∧ v = .string o ∧ o.size = k ∧ Hid (o = bs ((s.data.toList.take k).map low)) ∧ Below w.heap.size w wr) (fun _ i _ => s.size - (intOf i).toNat)
  case atStart => exact ⟨0, _, Nat.zero_le _, rfl, rfl, rfl, rfl, Below.refl _ _⟩
  case round =>
    obtain ⟨k, o, hk, rfl, rfl, ho, HO, hb⟩ := hrel
    by_cases hlt : k < s.size
    · obtain ⟨c, hcd⟩ : ∃ c : UInt8, s[k] = c := ⟨_, rfl⟩
      have hcl : (c.toNat : Int) < 256 := by have := c.toNat_lt; omega
      have HS : Hid (s.data.toList.take (k + 1) = s.data.toList.take k ++ [c]) := by rw [← hcd]; exact take_snoc s k hlt
      by_cases hc : 65 ≤ (c.toNat : Int) ∧ (c.toNat : Int) ≤ 90
      · have HL : Hid (UInt8.ofNat ((c.toNat : Int) + 32).toNat = low c) := low_in _ hc
        go_wp2_with (first | (go_at_call 110; refine (within_yes _ _ _ hc.1 hc.2 _).mono ?_; rintro e w' ⟨rfl, rfl⟩) | (go_at_call 111; refine (char_o _ (by omega) (by omega) _).mono ?_; rintro e w' ⟨t, rfl, ht, HT, hb2⟩))
        go_roundw
        case rel => exact ⟨k + 1, o ++ t, by omega, by go_num, rfl, by simp [ho, ht], by show o ++ t = _; rw [HS.out, List.map_append, bs_append, HO.out, HT.out, HL.out]; rfl, hb.trans (hb2.mono hb.size)⟩
        case measure => simp [intOf]; omega
      · have HL : Hid (low c = c) := low_out _ hc
        go_wp2_with (first | (go_at_call 110; refine (within_no _ _ _ hc _).mono ?_; rintro e w' ⟨rfl, rfl⟩) | (go_at_call 111; refine (char_o _ (by omega) (by omega) _).mono ?_; rintro e w' ⟨t, rfl, ht, HT, hb2⟩))
        go_roundw
        case rel => exact ⟨k + 1, o ++ t, by omega, by go_num, rfl, by simp [ho, ht], by show o ++ t = _; rw [HS.out, List.map_append, bs_append, HO.out, HT.out]; simp [HL.out], hb.trans (hb2.mono hb.size)⟩
        case measure => simp [intOf]; omega
    · go_wp2
      go_ret
      exact ⟨ret_str (by rw [HO.out, List.take_of_length_le (by simp; omega)]), hb⟩

end Go.Proofs.YtoblpjknnchlmabGreatDoor

/- A method as it is sent, and whether one is simple, by both. -/
namespace Go.Proofs.YtoblpjknnchlmabGreatDoor
open Go.RowKit Go.Shelf

set_option maxHeartbeats 1000000 in
theorem refSimple_any (s : ByteArray) (w : World) : Calls Tryz.prog 51 #[.string s] w fun e w' => e = .returned (.bool (simpleL s.toList)) ∧ w' = w := by
  have HS : Hid (simpleL s.toList = (s.toList == [71, 69, 84] || (s.toList == [72, 69, 65, 68] || s.toList == [80, 79, 83, 84]))) := rfl
  go_enter Tryz.func51, Tryz.ntmps51
  go_wp2
  all_goals
    go_ret
    exact ⟨ret_bool (by rw [HS.out]; first | exact Bool.or_assoc _ _ _ | simp [*]), rfl⟩
theorem low_is (s x : ByteArray) (hx : bs (s.data.toList.map low) = x) (m : ByteArray) (l : List UInt8) (hm : m.data.toList.map low = l) : sameL s.data.toList m.data.toList = (x.toList == l) := by
  unfold sameL
  rw [hm, ByteArray.toList_eq, ← hx, bs_data]
theorem upper_is (x m : ByteArray) (l : List UInt8) (hx : (x.toList == l) = true) (hm : l.map Lib.upperB = m.data.toList) : x.data.toList.map Lib.upperB = m.data.toList := by
  rw [← hm, ← eq_of_beq hx, ByteArray.toList_eq]
theorem ascii_is (x : ByteArray) (l : List UInt8) (hx : (x.toList == l) = true) (ha : l.all (fun c => decide (c.toNat < 128)) = true) : ∀ c ∈ x.data.toList, c.toNat < 128 := by
  intro c hc
  rw [← ByteArray.toList_eq, eq_of_beq hx] at hc
  simpa using List.all_eq_true.1 ha c hc
set_option maxRecDepth 100000 in
set_option maxHeartbeats 4000000 in
theorem refMethod_any (s : ByteArray) (hs : s.size ≤ 3000) (w : World) :
    Calls Tryz.prog 50 #[.string s] w fun e w' => e = .returned (.string (methodB s)) ∧ Below w.heap.size w w' := by
  obtain ⟨y, HY⟩ : ∃ y, Hid (methodB s = y) := ⟨_, rfl⟩
  rw [HY.out]
  obtain ⟨x, HX⟩ : ∃ x : ByteArray, Hid (bs (s.data.toList.map low) = x) := ⟨_, rfl⟩
  have hxs : x.size ≤ 5000 := by
    rw [← HX.out, bs_size, List.length_map]
    have : s.data.toList.length = s.size := Array.length_toList
    omega
  go_enter Tryz.func50, Tryz.ntmps50
  go_wp2_with fail
  refine (refLower_any s _ (by omega)).mono ?_
  rintro e w1 ⟨rfl, hb1⟩
  rw [HX.out]
  have HW1 : Hid (Below w.heap.size w w1) := hb1
  clear hb1
  have HB0 : Hid (sameL s.data.toList mth0.data.toList = (x.toList == [100, 101, 108, 101, 116, 101])) := low_is s x HX.out mth0 _ (by decide)
  cases a0 : (x.toList == [100, 101, 108, 101, 116, 101])
  rotate_left
  · have HE : Hid (y = mth0) := by
      show _ = _
      rw [← HY.out]
      unfold methodB
      simp only [HB0.out, a0, if_true]
    have HU := upper_is x mth0 _ a0 (by decide)
    have HA := ascii_is x _ a0 (by decide)
    go_wp2_with fail
    refine (refLower_any s _ (by omega)).mono ?_
    rintro e w2 ⟨rfl, hb2⟩
    rw [HX.out]
    have HW2 : Hid (Below w.heap.size w w2) := HW1.out.trans (hb2.mono HW1.out.size)
    clear hb2
    go_wp2_with fail
    refine (upper_ascii x mth0 hxs HA HU _).mono ?_
    rintro e w3 ⟨rfl, hb3⟩
    go_wp2
    go_ret
    exact ⟨by rw [HE.out]; rfl, HW2.out.trans (hb3.mono HW2.out.size)⟩
  have HB1 : Hid (sameL s.data.toList mth1.data.toList = (x.toList == [103, 101, 116])) := low_is s x HX.out mth1 _ (by decide)
  cases a1 : (x.toList == [103, 101, 116])
  rotate_left
  · have HE : Hid (y = mth1) := by
      show _ = _
      rw [← HY.out]
      unfold methodB
      simp only [HB0.out, HB1.out, a0, a1, if_true, Bool.false_eq_true, if_false]
    have HU := upper_is x mth1 _ a1 (by decide)
    have HA := ascii_is x _ a1 (by decide)
    go_wp2_with fail
    refine (refLower_any s _ (by omega)).mono ?_
    rintro e w2 ⟨rfl, hb2⟩
    rw [HX.out]
    have HW2 : Hid (Below w.heap.size w w2) := HW1.out.trans (hb2.mono HW1.out.size)
    clear hb2
    go_wp2_with fail
    refine (upper_ascii x mth1 hxs HA HU _).mono ?_
    rintro e w3 ⟨rfl, hb3⟩
    go_wp2
    go_ret
    exact ⟨by rw [HE.out]; rfl, HW2.out.trans (hb3.mono HW2.out.size)⟩
  have HB2 : Hid (sameL s.data.toList mth2.data.toList = (x.toList == [104, 101, 97, 100])) := low_is s x HX.out mth2 _ (by decide)
  cases a2 : (x.toList == [104, 101, 97, 100])
  rotate_left
  · have HE : Hid (y = mth2) := by
      show _ = _
      rw [← HY.out]
      unfold methodB
      simp only [HB0.out, HB1.out, HB2.out, a0, a1, a2, if_true, Bool.false_eq_true, if_false]
    have HU := upper_is x mth2 _ a2 (by decide)
    have HA := ascii_is x _ a2 (by decide)
    go_wp2_with fail
    refine (refLower_any s _ (by omega)).mono ?_
    rintro e w2 ⟨rfl, hb2⟩
    rw [HX.out]
    have HW2 : Hid (Below w.heap.size w w2) := HW1.out.trans (hb2.mono HW1.out.size)
    clear hb2
    go_wp2_with fail
    refine (upper_ascii x mth2 hxs HA HU _).mono ?_
    rintro e w3 ⟨rfl, hb3⟩
    go_wp2
    go_ret
    exact ⟨by rw [HE.out]; rfl, HW2.out.trans (hb3.mono HW2.out.size)⟩
  have HB3 : Hid (sameL s.data.toList mth3.data.toList = (x.toList == [111, 112, 116, 105, 111, 110, 115])) := low_is s x HX.out mth3 _ (by decide)
  cases a3 : (x.toList == [111, 112, 116, 105, 111, 110, 115])
  rotate_left
  · have HE : Hid (y = mth3) := by
      show _ = _
      rw [← HY.out]
      unfold methodB
      simp only [HB0.out, HB1.out, HB2.out, HB3.out, a0, a1, a2, a3, if_true, Bool.false_eq_true, if_false]
    have HU := upper_is x mth3 _ a3 (by decide)
    have HA := ascii_is x _ a3 (by decide)
    go_wp2_with fail
    refine (refLower_any s _ (by omega)).mono ?_
    rintro e w2 ⟨rfl, hb2⟩
    rw [HX.out]
    have HW2 : Hid (Below w.heap.size w w2) := HW1.out.trans (hb2.mono HW1.out.size)
    clear hb2
    go_wp2_with fail
    refine (upper_ascii x mth3 hxs HA HU _).mono ?_
    rintro e w3 ⟨rfl, hb3⟩
    go_wp2
    go_ret
    exact ⟨by rw [HE.out]; rfl, HW2.out.trans (hb3.mono HW2.out.size)⟩
  have HB4 : Hid (sameL s.data.toList mth4.data.toList = (x.toList == [112, 111, 115, 116])) := low_is s x HX.out mth4 _ (by decide)
  cases a4 : (x.toList == [112, 111, 115, 116])
  rotate_left
  · have HE : Hid (y = mth4) := by
      show _ = _
      rw [← HY.out]
      unfold methodB
      simp only [HB0.out, HB1.out, HB2.out, HB3.out, HB4.out, a0, a1, a2, a3, a4, if_true, Bool.false_eq_true, if_false]
    have HU := upper_is x mth4 _ a4 (by decide)
    have HA := ascii_is x _ a4 (by decide)
    go_wp2_with fail
    refine (refLower_any s _ (by omega)).mono ?_
    rintro e w2 ⟨rfl, hb2⟩
    rw [HX.out]
    have HW2 : Hid (Below w.heap.size w w2) := HW1.out.trans (hb2.mono HW1.out.size)
    clear hb2
    go_wp2_with fail
    refine (upper_ascii x mth4 hxs HA HU _).mono ?_
    rintro e w3 ⟨rfl, hb3⟩
    go_wp2
    go_ret
    exact ⟨by rw [HE.out]; rfl, HW2.out.trans (hb3.mono HW2.out.size)⟩
  have HB5 : Hid (sameL s.data.toList mth5.data.toList = (x.toList == [112, 117, 116])) := low_is s x HX.out mth5 _ (by decide)
  cases a5 : (x.toList == [112, 117, 116])
  rotate_left
  · have HE : Hid (y = mth5) := by
      show _ = _
      rw [← HY.out]
      unfold methodB
      simp only [HB0.out, HB1.out, HB2.out, HB3.out, HB4.out, HB5.out, a0, a1, a2, a3, a4, a5, if_true, Bool.false_eq_true, if_false]
    have HU := upper_is x mth5 _ a5 (by decide)
    have HA := ascii_is x _ a5 (by decide)
    go_wp2_with fail
    refine (refLower_any s _ (by omega)).mono ?_
    rintro e w2 ⟨rfl, hb2⟩
    rw [HX.out]
    have HW2 : Hid (Below w.heap.size w w2) := HW1.out.trans (hb2.mono HW1.out.size)
    clear hb2
    go_wp2_with fail
    refine (upper_ascii x mth5 hxs HA HU _).mono ?_
    rintro e w3 ⟨rfl, hb3⟩
    go_wp2
    go_ret
    exact ⟨by rw [HE.out]; rfl, HW2.out.trans (hb3.mono HW2.out.size)⟩
  have HE : Hid (y = s) := by
    show _ = _
    rw [← HY.out]
    unfold methodB
    simp only [HB0.out, HB1.out, HB2.out, HB3.out, HB4.out, HB5.out, a0, a1, a2, a3, a4, a5, Bool.false_eq_true, if_false]
  go_wp2
  go_ret
  exact ⟨by rw [HE.out]; rfl, HW1.out⟩
end Go.Proofs.YtoblpjknnchlmabGreatDoor

/- The library's contracts that are leant on, laid at this program's numbers. -/
namespace Go.Proofs.YtoblpjknnchlmabGreatDoor
open Go.Shelf Go.RowKit
def lays192_ren : Go.Shelf.Ren := ⟨fun | 192 => 117 | 190 => 79 | 125 => 109 | 258 => 108 | 128 => 139 | 129 => 140 | 302 => 130 | 303 => 131 | 304 => 132 | 305 => 133 | 306 => 134 | 307 => 135 | 308 => 136 | 309 => 137 | 310 => 138 | 333 => 153 | 329 => 154 | 330 => 155 | 334 => 156 | 335 => 157 | 336 => 158 | 344 => 166 | n => n, fun | 31 => 57 | 0 => 0 | 9 => 9 | 3 => 3 | 46 => 80 | 51 => 153 | 53 => 155 | 4 => 4 | 183 => 146 | 182 => 145 | 131 => 150 | 5 => 5 | 218 => 170 | 222 => 174 | 228 => 185 | 229 => 186 | n => n, fun | n => n⟩
theorem lays192 : Go.Proofs.Lays.n192 Tryz.prog lays192_ren := {
  mixed := by kernel_rfl
  f125 := Tryz.func109.trans (congrArg some (by kernel_rfl))
  f128 := Tryz.func139.trans (congrArg some (by kernel_rfl))
  f129 := Tryz.func140.trans (congrArg some (by kernel_rfl))
  f190 := Tryz.func79.trans (congrArg some (by kernel_rfl))
  f192 := Tryz.func117.trans (congrArg some (by kernel_rfl))
  f258 := Tryz.func108.trans (congrArg some (by kernel_rfl))
  f302 := Tryz.func130.trans (congrArg some (by kernel_rfl))
  f303 := Tryz.func131.trans (congrArg some (by kernel_rfl))
  f304 := Tryz.func132.trans (congrArg some (by kernel_rfl))
  f305 := Tryz.func133.trans (congrArg some (by kernel_rfl))
  f306 := Tryz.func134.trans (congrArg some (by kernel_rfl))
  f307 := Tryz.func135.trans (congrArg some (by kernel_rfl))
  f308 := Tryz.func136.trans (congrArg some (by kernel_rfl))
  f309 := Tryz.func137.trans (congrArg some (by kernel_rfl))
  f310 := Tryz.func138.trans (congrArg some (by kernel_rfl))
  f329 := Tryz.func154.trans (congrArg some (by kernel_rfl))
  f330 := Tryz.func155.trans (congrArg some (by kernel_rfl))
  f333 := Tryz.func153.trans (congrArg some (by kernel_rfl))
  f334 := Tryz.func156.trans (congrArg some (by kernel_rfl))
  f335 := Tryz.func157.trans (congrArg some (by kernel_rfl))
  f336 := Tryz.func158.trans (congrArg some (by kernel_rfl))
  f344 := Tryz.func166.trans (congrArg some (by kernel_rfl))
  t0 := Tryz.underlying0
  a0 := Tryz.isAgg0
  z0 := Tryz.sizeOf0
  v0 := Tryz.zeroValue0
  t3 := Tryz.underlying3
  a3 := Tryz.isAgg3
  z3 := Tryz.sizeOf3
  v3 := Tryz.zeroValue3
  t4 := Tryz.underlying4
  a4 := Tryz.isAgg4
  z4 := Tryz.sizeOf4
  v4 := Tryz.zeroValue4
  t5 := Tryz.underlying5
  a5 := Tryz.isAgg5
  z5 := Tryz.sizeOf5
  v5 := Tryz.zeroValue5
  t9 := Tryz.underlying9
  a9 := Tryz.isAgg9
  z9 := Tryz.sizeOf9
  v9 := Tryz.zeroValue9
  t31 := Tryz.underlying57
  a31 := Tryz.isAgg57
  z31 := Tryz.sizeOf57
  v31 := Tryz.zeroValue57
  t46 := Tryz.underlying80
  a46 := Tryz.isAgg80
  z46 := Tryz.sizeOf80
  v46 := Tryz.zeroValue80
  t51 := Tryz.underlying153
  a51 := Tryz.isAgg153
  z51 := Tryz.sizeOf153
  v51 := Tryz.zeroValue153
  t53 := Tryz.underlying155
  a53 := Tryz.isAgg155
  z53 := Tryz.sizeOf155
  v53 := Tryz.zeroValue155
  t131 := Tryz.underlying150
  a131 := Tryz.isAgg150
  z131 := Tryz.sizeOf150
  v131 := Tryz.zeroValue150
  t182 := Tryz.underlying145
  a182 := Tryz.isAgg145
  z182 := Tryz.sizeOf145
  v182 := Tryz.zeroValue145
  t183 := Tryz.underlying146
  a183 := Tryz.isAgg146
  z183 := Tryz.sizeOf146
  v183 := Tryz.zeroValue146
  t218 := Tryz.underlying170
  a218 := Tryz.isAgg170
  z218 := Tryz.sizeOf170
  v218 := Tryz.zeroValue170
  t222 := Tryz.underlying174
  a222 := Tryz.isAgg174
  z222 := Tryz.sizeOf174
  v222 := Tryz.zeroValue174
  t228 := Tryz.underlying185
  a228 := Tryz.isAgg185
  z228 := Tryz.sizeOf185
  v228 := Tryz.zeroValue185
  t229 := Tryz.underlying186
  a229 := Tryz.isAgg186
  z229 := Tryz.sizeOf186
  v229 := Tryz.zeroValue186 }
end Go.Proofs.YtoblpjknnchlmabGreatDoor

/- Texts, rising, each once, by the document's own answer. -/
namespace Go.Proofs.YtoblpjknnchlmabGreatDoor
open Go.RowKit Go.Shelf Go.Sort

set_option maxHeartbeats 1000000 in
theorem sortS_own (w : World) (B : Nat) (v : Value) (xs : List ByteArray) (h : OwnS w B v xs) (hl : xs.length ≤ 1000000) :
    Calls Tryz.prog 117 #[v] w fun e w' => e = .returned (.tuple #[]) ∧ OwnS w' B v ((sortL (tx xs)).map bs) ∧ w.grownBy w' v.ownBlock := by
  have henc := h.enc
  have hlen : (tx xs).length = xs.length := by unfold tx; simp
  rcases henc.2 with ⟨rfl, h0⟩ | ⟨g, cap, cur, rfl, hbase, hb, h1, h2, h3, h4⟩
  · obtain rfl : xs = [] := List.eq_nil_of_length_eq_zero h0
    refine (Any.sort_Strings_none lays192 none 0 w).mono ?_
    rintro e w' ⟨rfl, rfl⟩
    refine ⟨rfl, ?_, ⟨rfl, rfl, rfl, Nat.le_refl _, fun _ _ _ => rfl⟩⟩
    have : sortL (tx []) = [] := by unfold tx sortL; simp
    rw [this]
    exact h
  · have hH : Holds Proofs.encStr w g 0 (tx xs).toArray := holds_of_block hb (by rw [hlen]; rw [Nat.mul_one] at h4; exact h4)
    have hs := Any.sort_Strings lays192 g 0 cap (tx xs) w hH (Array.getElem?_eq_some_iff.1 hb).1 (by rw [hlen]; omega)
    rw [hlen] at hs
    refine hs.mono ?_
    rintro e w' ⟨rfl, n, os, rfl⟩
    refine ⟨rfl, ?_, grownBy_sorted _⟩
    have ho := ownsRow_sorted (n := n) (os := os) (ss := tx xs) (ts := sortL (tx xs)) (sortL_len _) hbase hb (by rw [hlen]; exact h1) h2 h3
    rw [enc_bs, hlen] at ho
    unfold OwnS
    rw [List.length_map, sortL_len, hlen]
    exact ho
/-- What is kept of the first k of these. -/
def keptK (ss : List (List UInt8)) (k : Nat) : List ByteArray := (Lib.compactUpTo ss.toArray k).map bs
theorem kept_all (ss : List (List UInt8)) : keptK ss ss.length = (Lib.compact ss).map bs := rfl
theorem kept_first (ss : List (List UInt8)) (x : List UInt8) (h : ss[0]? = some x) : keptK ss 1 = keptK ss 0 ++ [bs x] := by
  unfold keptK
  rw [Lib.compactUpTo_succ, if_pos (by simp [Lib.keeps])]
  obtain ⟨h1, e⟩ := List.getElem?_eq_some_iff.1 h
  simp [getElem!_pos, h1, e]
theorem kept_next (ss : List (List UInt8)) (j : Nat) (x y : List UInt8) (hx : ss[j + 1]? = some x) (hy : ss[j]? = some y) (hne : x ≠ y) : keptK ss (j + 2) = keptK ss (j + 1) ++ [bs x] := by
  unfold keptK
  obtain ⟨h1, e1⟩ := List.getElem?_eq_some_iff.1 hx
  obtain ⟨h2, e2⟩ := List.getElem?_eq_some_iff.1 hy
  have a1 : ss.toArray[j + 1]! = x := by simp [getElem!_pos, h1, e1]
  have a2 : ss.toArray[j]! = y := by simp [getElem!_pos, h2, e2]
  rw [Lib.compactUpTo_succ, if_pos (by unfold Lib.keeps; exact decide_eq_true (.inr (by rw [Nat.add_sub_cancel, a1, a2]; exact hne))), a1]
  simp
theorem kept_same (ss : List (List UInt8)) (j : Nat) (x : List UInt8) (hx : ss[j + 1]? = some x) (hy : ss[j]? = some x) : keptK ss (j + 2) = keptK ss (j + 1) := by
  unfold keptK
  obtain ⟨h1, e1⟩ := List.getElem?_eq_some_iff.1 hx
  obtain ⟨h2, e2⟩ := List.getElem?_eq_some_iff.1 hy
  have a1 : ss.toArray[j + 1]! = x := by simp [getElem!_pos, h1, e1]
  have a2 : ss.toArray[j]! = x := by simp [getElem!_pos, h2, e2]
  rw [Lib.compactUpTo_succ, if_neg (by unfold Lib.keeps; rw [Nat.add_sub_cancel, a1, a2]; simp)]
  simp
theorem kept_le (ss : List (List UInt8)) (k : Nat) : (keptK ss k).length ≤ k := by
  unfold keptK Lib.compactUpTo
  rw [List.length_map, List.length_map]
  refine Nat.le_trans (List.length_filter_le _ _) ?_
  rw [List.length_range]
  exact Nat.le_refl _
theorem bs_ne {x y : List UInt8} (h : x ≠ y) : ((bs x).toList == (bs y).toList) = false := by
  rw [beq_eq_false_iff_ne, ByteArray.toList_eq, ByteArray.toList_eq, bs_data, bs_data]
  exact h
set_option maxRecDepth 100000 in
set_option maxHeartbeats 8000000 in
theorem sortedR_any (B : Nat) (v : Value) (xs : List ByteArray) (hl : xs.length ≤ 1000) (w : World) (hB : B ≤ w.heap.size) (h : OwnS w B v xs) :
    Calls Tryz.prog 84 #[v] w fun e w' => (∃ v', e = .returned v' ∧ OwnS w' B v' ((Lib.compact (sortL (tx xs))).map bs)) ∧ Below B w w' := by
  have HO : Hid (OwnS w B v xs) := h
  clear h
  go_enter Tryz.func84, Tryz.ntmps84
  go_wp2_with fail
  refine (sortS_own _ B v xs HO.out (by omega)).mono ?_
  rintro e w1 ⟨rfl, hown, hg⟩
  obtain ⟨ss, HSS⟩ : ∃ ss, Hid (sortL (tx xs) = ss) := ⟨_, rfl⟩
  rw [HSS.out] at hown
  have hsl : ss.length = xs.length := by rw [← HSS.out, sortL_len]; unfold tx; simp
  have HB1 : Hid (Below B w w1) := (Below.refl B w).grown hg hB (fun j hj => (HO.out.lt j hj).1)
  obtain ⟨n, HN⟩ : ∃ n, Hid (ss.length = n) := ⟨_, rfl⟩
  obtain ⟨a, cap, rfl⟩ : ∃ a cap, v = .slice a n cap := by
    obtain ⟨a, cap, _, e, _⟩ := hown.strs
    rw [List.length_map, HN.out] at e
    exact ⟨a, cap, e⟩
  have HW1 : Hid (OwnS w1 B (.slice a n cap) (ss.map bs)) := hown
  have hn : n ≤ 1000 := by rw [← HN.out, hsl]; exact hl
  clear hown hg hsl hl
  go_wp2
  go_loopw [3, 10] (fun s3 i wr => ∃ (k : Nat) (u : Value), k ≤ n ∧ u = s3 ∧ i = .int .i64 k ∧ Hid (Two wr B u (.slice a n cap) (keptK ss k) (ss.map bs) ∧ Below B w wr)) (fun _ i _ => n - (intOf i).toNat)
  case atStart => exact ⟨0, _, Nat.zero_le _, rfl, rfl, ⟨ownS_nil _ _, HW1.out, fun k hk => by cases hk⟩, HB1.out⟩
  case round =>
    obtain ⟨k, u, hk, rfl, rfl, HI⟩ := hrel
    by_cases hlt : k < n
    · have hltz : (k : Int) < (n : Int) := by omega
      obtain ⟨ad, cap', g, hv, hst⟩ := HI.out.1.two.strs
      rw [List.length_map, HN.out] at hv hst
      injection hv with hv1 _ hv3
      subst hv1 hv3
      obtain ⟨ha, _⟩ := hst.lies (by omega)
      subst ha
      have hcell : ∀ j x, ss[j]? = some x → wr.cell? ⟨g, j, none⟩ = some (.string (bs x)) := fun j x hj => by
        have := hst.cells j (bs x) (by rw [List.getElem?_map, hj]; rfl)
        rw [Nat.zero_add] at this
        exact this
      obtain ⟨x, hx⟩ : ∃ x, ss[k]? = some x := ⟨ss[k]'(by have := HN.out; omega), List.getElem?_eq_getElem _⟩
      have c1 := hcell k x hx
      have HX : Hid (ss[k]? = some x) := hx
      obtain ⟨X, HXX⟩ : ∃ X, Hid (bs x = X) := ⟨_, rfl⟩
      rw [HXX.out] at c1
      obtain ⟨nu, HNU⟩ : ∃ m, Hid ((keptK ss k).length = m) := ⟨_, rfl⟩
      have hnu : nu ≤ k := by rw [← HNU.out]; exact kept_le ss k
      cases k with
      | zero =>
        have HK : Hid (keptK ss (0 + 1) = keptK ss 0 ++ [X]) := by rw [← HXX.out]; exact kept_first ss x HX.out
        clear hst hcell hx
        go_wp2_with (at_builtin; refine wp_app2 rfl _ _ rfl B wr u (.slice (some ⟨g, 0, none⟩) n cap) _ _ nu rfl HI.out.1 HNU.out (by omega) (Nat.le_trans hB HI.out.2.size) X rfl ?_; intro g4 cap4 w4 hown4 hb4 hk4; have HW4 : Hid (Two w4 B (.slice (some ⟨g4, 0, none⟩) (nu + 1) cap4) (.slice (some ⟨g, 0, none⟩) n cap) (keptK ss 0 ++ [X]) (ss.map bs) ∧ Below B w w4) := ⟨hown4, HI.out.2.trans hb4⟩; clear hown4 hb4 hk4)
        go_roundw
        case rel => exact ⟨0 + 1, _, by omega, rfl, by go_num, by rw [HK.out]; exact HW4⟩
        case measure => simp [intOf]; omega
      | succ j =>
        obtain ⟨y, hy⟩ : ∃ y, ss[j]? = some y := ⟨ss[j]'(by have := HN.out; omega), List.getElem?_eq_getElem _⟩
        have c2 := hcell j y hy
        have HY : Hid (ss[j]? = some y) := hy
        obtain ⟨Y, HYY⟩ : ∃ Y, Hid (bs y = Y) := ⟨_, rfl⟩
        rw [HYY.out] at c2
        clear hst hcell hx hy
        by_cases hxy : x = y
        · have HK : Hid (keptK ss (j + 2) = keptK ss (j + 1)) := kept_same ss j x HX.out (by rw [hxy]; exact HY.out)
          obtain rfl : X = Y := by rw [← HXX.out, ← HYY.out, hxy]
          go_wp2
          go_roundw
          case rel => exact ⟨j + 1 + 1, _, by omega, rfl, by go_num, by rw [HK.out]; exact HI⟩
          case measure => simp [intOf]; omega
        · have HK : Hid (keptK ss (j + 2) = keptK ss (j + 1) ++ [X]) := by rw [← HXX.out]; exact kept_next ss j x y HX.out HY.out hxy
          have hne : (X.toList == Y.toList) = false := by rw [← HXX.out, ← HYY.out]; exact bs_ne hxy
          go_wp2_with (at_builtin; refine wp_app2 rfl _ _ rfl B wr u (.slice (some ⟨g, 0, none⟩) n cap) _ _ nu rfl HI.out.1 HNU.out (by omega) (Nat.le_trans hB HI.out.2.size) X rfl ?_; intro g4 cap4 w4 hown4 hb4 hk4; have HW4 : Hid (Two w4 B (.slice (some ⟨g4, 0, none⟩) (nu + 1) cap4) (.slice (some ⟨g, 0, none⟩) n cap) (keptK ss (j + 1) ++ [X]) (ss.map bs) ∧ Below B w w4) := ⟨hown4, HI.out.2.trans hb4⟩; clear hown4 hb4 hk4)
          go_roundw
          case rel => exact ⟨j + 1 + 1, _, by omega, rfl, by go_num, by rw [HK.out]; exact HW4⟩
          case measure => simp [intOf]; omega
    · have hltz : ¬ (k : Int) < (n : Int) := by omega
      obtain rfl : k = n := by omega
      go_wp2
      go_ret
      refine ⟨⟨_, rfl, ?_⟩, HI.out.2⟩
      rw [HSS.out, ← kept_all, HN.out]
      exact HI.out.1.one
end Go.Proofs.YtoblpjknnchlmabGreatDoor

/- The library's contracts that are leant on, laid at this program's numbers. -/
namespace Go.Proofs.YtoblpjknnchlmabGreatDoor
open Go.Shelf Go.RowKit
def lays146_ren : Go.Shelf.Ren := ⟨fun | 146 => 27 | 221 => 53 | 268 => 85 | 138 => 86 | 143 => 87 | 195 => 118 | 197 => 92 | 218 => 119 | 219 => 89 | 260 => 124 | 217 => 120 | 225 => 121 | 224 => 122 | 267 => 123 | 266 => 146 | 314 => 147 | n => n, fun | 9 => 9 | 31 => 57 | 3 => 3 | 4 => 4 | 0 => 0 | 105 => 119 | 21 => 21 | 5 => 5 | 46 => 80 | 119 => 161 | 139 => 164 | 138 => 163 | 146 => 159 | 51 => 153 | n => n, fun | 1 => 2 | 3 => 3 | 4 => 4 | n => n⟩
theorem lays146 : Go.Proofs.Lays.n146 Tryz.prog lays146_ren := {
  mixed := by kernel_rfl
  f138 := Tryz.func86.trans (congrArg some (by kernel_rfl))
  f143 := Tryz.func87.trans (congrArg some (by kernel_rfl))
  f146 := Tryz.func27.trans (congrArg some (by kernel_rfl))
  f195 := Tryz.func118.trans (congrArg some (by kernel_rfl))
  f197 := Tryz.func92.trans (congrArg some (by kernel_rfl))
  f217 := Tryz.func120.trans (congrArg some (by kernel_rfl))
  f218 := Tryz.func119.trans (congrArg some (by kernel_rfl))
  f219 := Tryz.func89.trans (congrArg some (by kernel_rfl))
  f221 := Tryz.func53.trans (congrArg some (by kernel_rfl))
  f224 := Tryz.func122.trans (congrArg some (by kernel_rfl))
  f225 := Tryz.func121.trans (congrArg some (by kernel_rfl))
  f260 := Tryz.func124.trans (congrArg some (by kernel_rfl))
  f266 := Tryz.func146.trans (congrArg some (by kernel_rfl))
  f267 := Tryz.func123.trans (congrArg some (by kernel_rfl))
  f268 := Tryz.func85.trans (congrArg some (by kernel_rfl))
  f314 := Tryz.func147.trans (congrArg some (by kernel_rfl))
  t0 := Tryz.underlying0
  a0 := Tryz.isAgg0
  z0 := Tryz.sizeOf0
  v0 := Tryz.zeroValue0
  t3 := Tryz.underlying3
  a3 := Tryz.isAgg3
  z3 := Tryz.sizeOf3
  v3 := Tryz.zeroValue3
  t4 := Tryz.underlying4
  a4 := Tryz.isAgg4
  z4 := Tryz.sizeOf4
  v4 := Tryz.zeroValue4
  t5 := Tryz.underlying5
  a5 := Tryz.isAgg5
  z5 := Tryz.sizeOf5
  v5 := Tryz.zeroValue5
  t9 := Tryz.underlying9
  a9 := Tryz.isAgg9
  z9 := Tryz.sizeOf9
  v9 := Tryz.zeroValue9
  t21 := Tryz.underlying21
  a21 := Tryz.isAgg21
  z21 := Tryz.sizeOf21
  v21 := Tryz.zeroValue21
  t31 := Tryz.underlying57
  a31 := Tryz.isAgg57
  z31 := Tryz.sizeOf57
  v31 := Tryz.zeroValue57
  t46 := Tryz.underlying80
  a46 := Tryz.isAgg80
  z46 := Tryz.sizeOf80
  v46 := Tryz.zeroValue80
  t51 := Tryz.underlying153
  a51 := Tryz.isAgg153
  z51 := Tryz.sizeOf153
  v51 := Tryz.zeroValue153
  t105 := Tryz.underlying119
  a105 := Tryz.isAgg119
  z105 := Tryz.sizeOf119
  v105 := Tryz.zeroValue119
  t119 := Tryz.underlying161
  a119 := Tryz.isAgg161
  z119 := Tryz.sizeOf161
  t138 := Tryz.underlying163
  a138 := Tryz.isAgg163
  z138 := Tryz.sizeOf163
  v138 := Tryz.zeroValue163
  t139 := Tryz.underlying164
  a139 := Tryz.isAgg164
  z139 := Tryz.sizeOf164
  v139 := Tryz.zeroValue164
  t146 := Tryz.underlying159
  a146 := Tryz.isAgg159
  z146 := Tryz.sizeOf159
  v146 := Tryz.zeroValue159
  g1 := by kernel_rfl
  g3 := by kernel_rfl
  g4 := by kernel_rfl }
end Go.Proofs.YtoblpjknnchlmabGreatDoor

/- strings.Split at one byte, without a word on internal/bytealg.MaxLen. -/
namespace Go.Proofs.YtoblpjknnchlmabGreatDoor
open Go.RowKit Go.Shelf

theorem indexB_ix (s : ByteArray) (c : UInt8) : Lib.indexB s ⟨#[c]⟩ = ixOf s.data.toList c := Lib.index_one s.data.toList c
theorem countB_ct (s : ByteArray) (c : UInt8) : Lib.countB s ⟨#[c]⟩ = s.data.toList.count c := Lib.count_one c s.data.toList
theorem splitB_list (c : UInt8) : ∀ (k : Nat) (s : ByteArray), s.data.toList.count c ≤ k → (Lib.splitB ⟨#[c]⟩ 0 k s).map (·.data.toList) = splitL c s.data.toList
  | k, s, hk => by
    rcases ixOf_first s.data.toList c with ⟨hi, hno⟩ | ⟨n, hn, hi, hno, hsp⟩
    · rw [Lib.splitB_miss _ _ _ _ ((indexB_ix s c).trans hi), splitL_part c _ hno]
      rfl
    · have hc : s.data.toList.count c = (s.data.toList.drop (n + 1)).count c + 1 := by
        conv => lhs; rw [hsp]
        rw [List.count_append, List.count_eq_zero.2 hno, List.count_cons_self]
        omega
      cases k with
      | zero => omega
      | succ k =>
        have hl : s.data.toList.length = s.size := Array.length_toList
        have e1 : (s.extract (n + (⟨#[c]⟩ : ByteArray).size) s.size).data.toList = s.data.toList.drop (n + 1) := by
          rw [ByteArray.data_extract, Array.toList_extract, List.extract_eq_take_drop]
          show List.take (s.size - (n + 1)) (List.drop (n + 1) s.data.toList) = _
          rw [List.take_of_length_le (by rw [List.length_drop]; omega)]
        have e0 : (s.extract 0 (n + 0)).data.toList = s.data.toList.take n := by
          rw [ByteArray.data_extract, Array.toList_extract, List.extract_eq_take_drop]
          simp
        rw [Lib.splitB_hit _ _ _ _ n ((indexB_ix s c).trans hi), List.map_cons, splitB_list c k _ (by rw [e1]; omega), e1, e0]
        conv => rhs; rw [hsp]
        rw [splitL_more c _ _ hno]

set_option maxHeartbeats 1000000 in
theorem split_one (s : ByteArray) (c : UInt8) (hs : s.size ≤ 20000) (w : World) :
    Calls Tryz.prog 27 #[.string s, .string ⟨#[c]⟩] w fun e w' => ∃ ps : List ByteArray, e = .returned (.slice (some ⟨w.heap.size, 0, none⟩) ps.length ps.length) ∧ ps.length ≤ s.size + 1 ∧ w' = w.alloc (.cells (ps.map Value.string).toArray 9) ∧ Hid (ps.map (·.data.toList) = splitL c s.data.toList) := by
  have h1 : 1 ≤ (⟨#[c]⟩ : ByteArray).size := Nat.le_refl _
  have hle := Lib.countB_le ⟨#[c]⟩ h1 s.size s (Nat.le_refl _)
  have hlen := Lib.splitB_all ⟨#[c]⟩ h1 0 _ s rfl
  have HL : Hid ((Lib.splitB ⟨#[c]⟩ 0 (Lib.countB s ⟨#[c]⟩) s).map (·.data.toList) = splitL c s.data.toList) := splitB_list c _ s (Nat.le_of_eq (countB_ct s c).symm)
  have hI : ∀ (x : ByteArray) (a : Array Value), x.size ≤ s.size → Calls Tryz.prog (lays146_ren.f 143) #[.string x, .string ⟨#[c]⟩] (w.alloc (.cells a (lays146_ren.t 9))) fun e w' => e = .returned (.int .i64 (Lib.indexB x ⟨#[c]⟩)) ∧ w' = w.alloc (.cells a (lays146_ren.t 9)) := fun x a _ => by
    rw [indexB_ix]
    exact Any.strings_Index_one { lays146 with } x c _
  have hC : Calls Tryz.prog (lays146_ren.f 138) #[.string s, .string ⟨#[c]⟩] w fun e w' => e = .returned (.int .i64 (Lib.countB s ⟨#[c]⟩)) ∧ w' = w := by
    rw [countB_ct]
    exact Any.strings_Count_one { lays146 with } s c w
  have g := Any.strings_genSplit_core { lays146 with } (by kernel_rfl) s ⟨#[c]⟩ 0 (-1) (Lib.countB s ⟨#[c]⟩ + 1) w (by omega) h1 (Nat.zero_le _) hI hC (by decide) (by decide) (by rw [if_pos (by decide)]; omega)
  rw [Nat.add_sub_cancel] at g
  have e2 : Lib.cellsOf (Lib.splitB ⟨#[c]⟩ 0 (Lib.countB s ⟨#[c]⟩) s) (Lib.countB s ⟨#[c]⟩ + 1) = ((Lib.splitB ⟨#[c]⟩ 0 (Lib.countB s ⟨#[c]⟩) s).map Value.string).toArray := by rw [← hlen]; exact Lib.cellsOf_full _
  rw [e2, ← hlen] at g
  have hl2 : (Lib.splitB ⟨#[c]⟩ 0 (Lib.countB s ⟨#[c]⟩) s).length ≤ s.size + 1 := by omega
  clear e2 hI hC hle hlen
  generalize Lib.splitB ⟨#[c]⟩ 0 (Lib.countB s ⟨#[c]⟩) s = ps at g HL hl2
  have g2 : Calls Tryz.prog 53 #[.string s, .string ⟨#[c]⟩, .int .i64 0, .int .i64 (-1)] w fun e w' => e = .returned (.slice (some ⟨w.heap.size, 0, none⟩) ps.length ps.length) ∧ w' = w.alloc (.cells (ps.map Value.string).toArray 9) := g
  clear g
  go_enter Tryz.func27, Tryz.ntmps27
  go_wp2_with (go_at_call 53; refine g2.mono ?_; rintro e w' ⟨rfl, hw⟩; rw [hw])
  go_ret
  exact ⟨ps, rfl, hl2, rfl, HL⟩

end Go.Proofs.YtoblpjknnchlmabGreatDoor

/- Whether a header may be sent without asking, by the document. -/
namespace Go.Proofs.YtoblpjknnchlmabGreatDoor
open Go.RowKit Go.Shelf
theorem cellsP8 (W : World) (cs : Array Value) (t : TypeId) (j : Nat) : (W.alloc (.cells cs t)).cell? ⟨W.heap.size, j, none⟩ = cs[j]? := World.cell?_alloc_mark _ _ _ _ _

theorem refText8_any (c : UInt8) (w : World) : Calls Tryz.prog 116 #[.int .u8 (c.toNat : Int)] w fun e w' => e = .returned (.bool (textB c)) ∧ w' = w := by
  have hcl : (c.toNat : Int) < 256 := by have := c.toNat_lt; omega
  have HT : Hid (textB c = (((c.toNat : Int) == 9) || (decide (32 ≤ (c.toNat : Int)) && !((c.toNat : Int) == 127)))) := textB_of c
  by_cases h : (c.toNat : Int) = 9
  · go_enter Tryz.func116, Tryz.ntmps116
    go_wp2
    go_ret
    exact ⟨ret_bool (by rw [HT.out, h]; rfl), rfl⟩
  · by_cases h2 : (31 : Int) < (c.toNat : Int)
    · by_cases h3 : (c.toNat : Int) = 127
      · go_enter Tryz.func116, Tryz.ntmps116
        go_wp2
        go_ret
        exact ⟨ret_bool (by rw [HT.out, h3]; rfl), rfl⟩
      · go_enter Tryz.func116, Tryz.ntmps116
        go_wp2
        go_ret
        exact ⟨ret_bool (by rw [HT.out, beq_eq_false_iff_ne.2 h, beq_eq_false_iff_ne.2 h3, decide_eq_true (show 32 ≤ (c.toNat : Int) by omega), bne_iff_ne.2 h3]; simp), rfl⟩
    · go_enter Tryz.func116, Tryz.ntmps116
      go_wp2
      go_ret
      exact ⟨ret_bool (by rw [HT.out, beq_eq_false_iff_ne.2 h, decide_eq_false (show ¬ 32 ≤ (c.toNat : Int) by omega)]; rfl), rfl⟩
theorem head_split (c : UInt8) : ∀ l, (splitL c l).head? = some (cutL c l).1
  | [] => by simp [splitL, cutL]
  | b :: t => by
    have ih := head_split c t
    unfold splitL cutL
    by_cases h : b = c
    · rw [if_pos h, if_pos h]; rfl
    · rw [if_neg h, if_neg h]
      split
      · rename_i e; rw [e] at ih; cases ih
      · rename_i p r e
        rw [e] at ih
        injection ih with ih
        rw [← ih]; rfl
theorem all_snocB (f : UInt8 → Bool) (s : ByteArray) (k : Nat) (hk : k < s.size) (c : UInt8) (e : s[k] = c) (b : Bool) (h : (s.data.toList.take k).all f = b) : (s.data.toList.take (k + 1)).all f = (b && f c) := by
  rw [take_snoc s k hk, List.all_append, h, e]
  simp
/-- A header's answer, whatever else is told of it. -/
def refPlainN (x v : List UInt8) (sb tb : Bool) : Bool := if x == nmA then sb else if x == nmL then tb else if x == nmC then tb else if x == nmT then sb && formL v else false
theorem refPlainN_is (x v : List UInt8) : refPlainN x v (v.all safeB) (v.all tongB) = plainN x v := rfl
set_option maxRecDepth 100000 in
set_option maxHeartbeats 8000000 in
theorem refPlain_any (n v : ByteArray) (hn : n.size ≤ 4000) (hv : v.size ≤ 140737488355328) (w : World) :
    Calls Tryz.prog 83 #[.agg #[.string n, .string v]] w fun e w' => e = .returned (.bool (plainL n.data.toList v.data.toList)) ∧ Below w.heap.size w w' := by
  have hlv : v.data.toList.length = v.size := Array.length_toList
  have hb0 : Below w.heap.size w (w.alloc (.cells #[.string n, .string v] 37)) := (Below.refl _ _).alloc (Nat.le_refl _) _
  by_cases hl : v.size ≤ 128
  · have hlz : ¬ (128 : Int) < (v.size : Int) := by omega
    obtain ⟨x, HX⟩ : ∃ x : ByteArray, Hid (bs (n.data.toList.map low) = x) := ⟨_, rfl⟩
    have HP : Hid (plainL n.data.toList v.data.toList = plainN x.toList v.data.toList) := by
      show _ = _
      unfold plainL
      rw [hlv, decide_eq_true hl, Bool.true_and, ByteArray.toList_eq, ← HX.out, bs_data]
    have HN : Hid (∀ w', Below (w.alloc (.cells #[.string n, .string v] 37)).heap.size (w.alloc (.cells #[.string n, .string v] 37)) w' → Below w.heap.size w w' ∧ w'.heap[w.heap.size]? = some (.cells #[.string n, .string v] 37 (0, 0))) := fun w' hb => ⟨hb0.trans (hb.mono (by simp)), (hb.block _ (by simp)).trans (heap_alloc_new w _)⟩
    clear hb0 hlv
    go_enter Tryz.func83, Tryz.ntmps83
    go_wp2
    generalize hW0 : w.alloc (.cells #[.string n, .string v] 37) = W0 at HN ⊢
    clear hW0
    obtain ⟨x0, x1, _⟩ := two_at (HN.out W0 (Below.refl _ _)).2
    go_loop [3, 4, 16] (fun s3 s4 i => ∃ (k : Nat) (sb tb : Bool), k ≤ v.size ∧ i = .int .i64 k ∧ s3 = .bool sb ∧ s4 = .bool tb ∧ Hid ((v.data.toList.take k).all safeB = sb ∧ (v.data.toList.take k).all tongB = tb)) (fun _ _ i => v.size - (intOf i).toNat)
    case atStart => exact ⟨0, true, true, Nat.zero_le _, rfl, rfl, rfl, rfl, rfl⟩
    case round =>
      obtain ⟨k, sb, tb, hk, rfl, rfl, rfl, HK⟩ := hrel
      by_cases hlt : k < v.size
      · obtain ⟨c, hcd⟩ : ∃ c : UInt8, v[k] = c := ⟨_, rfl⟩
        have hcl : (c.toNat : Int) < 256 := by have := c.toNat_lt; omega
        have HS : Hid ((v.data.toList.take (k + 1)).all safeB = (sb && (textB c && !forbS.contains c))) := all_snocB safeB v k hlt c hcd sb HK.out.1
        obtain ⟨d1, D1⟩ : ∃ d : Bool, Hid (decide (48 ≤ (c.toNat : Int) ∧ (c.toNat : Int) ≤ 57) = d) := ⟨_, rfl⟩
        obtain ⟨d2, D2⟩ : ∃ d : Bool, Hid (decide (97 ≤ (c.toNat : Int) ∧ (c.toNat : Int) ≤ 122) = d) := ⟨_, rfl⟩
        obtain ⟨d3, D3⟩ : ∃ d : Bool, Hid (decide (65 ≤ (c.toNat : Int) ∧ (c.toNat : Int) ≤ 90) = d) := ⟨_, rfl⟩
        have HT : Hid ((v.data.toList.take (k + 1)).all tongB = (tb && ((d2 || (d3 || d1)) || tongS.contains c))) := by
          show _ = _
          rw [all_snocB tongB v k hlt c hcd tb HK.out.2, ← D1.out, ← D2.out, ← D3.out]
          unfold tongB alnB
          simp only [← Int.ofNat_le]
          rfl
        obtain ⟨f, HF⟩ : ∃ f : Bool, Hid (textB c = f) := ⟨_, rfl⟩
        rw [HF.out] at HS
        clear HK
        go_upto_region 9 with fail
        go_cut [3] (fun s3 wc => ∃ b : Bool, s3 = .bool b ∧ Hid ((v.data.toList.take (k + 1)).all safeB = b) ∧ wc = W0)
        case first =>
          cases sb
          · go_wp2
            go_meet
            exact ⟨false, rfl, by rw [HS.out]; rfl, rfl⟩
          · cases f
            · go_wp2_with (go_at_call 116; refine (refText8_any c _).mono ?_; rintro e w' ⟨rfl, hw⟩; obtain rfl := hw.symm; rw [HF.out])
              go_meet
              exact ⟨false, rfl, by rw [HS.out]; rfl, rfl⟩
            · go_wp2_with (first | (go_at_call 116; refine (refText8_any c _).mono ?_; rintro e w' ⟨rfl, hw⟩; obtain rfl := hw.symm; rw [HF.out]) | (go_at_call 90; refine (ix_forbS c _).mono ?_; rintro e w' ⟨⟨x1, rfl, HX1⟩, hw⟩; obtain rfl := hw.symm))
              go_meet
              exact ⟨_, rfl, by show _ = _; rw [HS.out, HX1.out]; simp, rfl⟩
        case rest =>
        obtain ⟨sb', rfl, HS', hw⟩ := hcut
        obtain rfl := hw.symm
        clear hw
        cases tb
        · go_wp2
          go_round
          case rel => exact ⟨k + 1, sb', false, by omega, by go_num, rfl, rfl, HS'.out, by rw [HT.out]; rfl⟩
          case measure => simp [intOf]; omega
        go_wp2_with fail
        refine (within_any _ 48 57 _).mono ?_
        rintro e w' ⟨rfl, hw⟩
        obtain rfl := hw.symm
        rw [D1.out]
        cases d1
        rotate_left
        · go_wp2
          go_round
          case rel => exact ⟨k + 1, sb', true, by omega, by go_num, rfl, rfl, HS'.out, by rw [HT.out]; simp⟩
          case measure => simp [intOf]; omega
        go_wp2_with fail
        refine (within_any _ 97 122 _).mono ?_
        rintro e w' ⟨rfl, hw⟩
        obtain rfl := hw.symm
        rw [D2.out]
        cases d2
        rotate_left
        · go_wp2
          go_round
          case rel => exact ⟨k + 1, sb', true, by omega, by go_num, rfl, rfl, HS'.out, by rw [HT.out]; simp⟩
          case measure => simp [intOf]; omega
        go_wp2_with fail
        refine (within_any _ 65 90 _).mono ?_
        rintro e w' ⟨rfl, hw⟩
        obtain rfl := hw.symm
        rw [D3.out]
        cases d3
        rotate_left
        · go_wp2
          go_round
          case rel => exact ⟨k + 1, sb', true, by omega, by go_num, rfl, rfl, HS'.out, by rw [HT.out]; simp⟩
          case measure => simp [intOf]; omega
        go_wp2_with fail
        refine (ix_tongS c _).mono ?_
        rintro e w' ⟨⟨y1, rfl, HX2⟩, hw⟩
        obtain rfl := hw.symm
        go_wp2
        go_round
        case rel => exact ⟨k + 1, sb', _, by omega, by go_num, rfl, rfl, HS'.out, by rw [HT.out, HX2.out]; simp⟩
        case measure => simp [intOf]; omega
      · obtain rfl : k = v.size := by omega
        have HE : Hid (v.data.toList.all safeB = sb ∧ v.data.toList.all tongB = tb) := by
          have h := HK.out
          rw [List.take_of_length_le (by simp)] at h
          exact h
        have HQ : Hid (plainL n.data.toList v.data.toList = refPlainN x.toList v.data.toList sb tb) := by
          show _ = _
          rw [HP.out, ← refPlainN_is, HE.out.1, HE.out.2]
        have hsz : v.size ≤ 5000 := by omega
        clear HK HE HP
        go_wp2_with fail
        refine (refLower_any n _ (by omega)).mono ?_
        rintro e w1 ⟨rfl, hb1⟩
        have HB1 := HN.out _ hb1
        have HB : Hid (Below w.heap.size w w1) := HB1.1
        clear x0 x1
        obtain ⟨x0, x1, _⟩ := two_at HB1.2
        rw [HX.out]
        clear hb1 HB1
        unfold refPlainN nmA nmL nmC nmT at HQ
        cases a1 : (x.toList == [97, 99, 99, 101, 112, 116])
        rotate_left
        · go_wp2
          go_ret
          exact ⟨ret_bool (by rw [HQ.out, a1]; rfl), HB.out⟩
        cases a2 : (x.toList == [97, 99, 99, 101, 112, 116, 45, 108, 97, 110, 103, 117, 97, 103, 101])
        rotate_left
        · go_wp2
          go_ret
          exact ⟨ret_bool (by rw [HQ.out, a1, a2]; rfl), HB.out⟩
        cases a3 : (x.toList == [99, 111, 110, 116, 101, 110, 116, 45, 108, 97, 110, 103, 117, 97, 103, 101])
        rotate_left
        · go_wp2
          go_ret
          exact ⟨ret_bool (by rw [HQ.out, a1, a2, a3]; rfl), HB.out⟩
        cases a4 : (x.toList == [99, 111, 110, 116, 101, 110, 116, 45, 116, 121, 112, 101])
        · go_wp2
          go_ret
          exact ⟨ret_bool (by rw [HQ.out, a1, a2, a3, a4]; rfl), HB.out⟩
        have HQ4 : Hid (plainL n.data.toList v.data.toList = (sb && formL v.data.toList)) := by
          show _ = _
          rw [HQ.out, a1, a2, a3, a4]; rfl
        clear HQ
        go_wp2_with fail
        refine (split_one v 59 (by omega) _).mono ?_
        rintro e w2 ⟨ps, rfl, hpl, hw2, HPS⟩
        have hh : (splitL 59 v.data.toList).head? = some (cutL 59 v.data.toList).1 := head_split 59 _
        obtain ⟨p, r, rfl⟩ : ∃ p r, ps = p :: r := by
          cases ps with
          | nil => rw [← HPS.out] at hh; cases hh
          | cons p r => exact ⟨p, r, rfl⟩
        have HC : Hid ((cutL 59 v.data.toList).1 = p.data.toList) := by
          rw [← HPS.out] at hh
          injection hh with hh
          exact hh.symm
        have hps : p.size ≤ 4000 := by
          have h1 : ∀ l : List UInt8, (cutL 59 l).1.length ≤ l.length := by
            intro l
            induction l with
            | nil => simp [cutL]
            | cons b t ih => unfold cutL; split <;> simp; omega
          have h2 := h1 v.data.toList
          rw [HC.out] at h2
          have e1 : p.data.toList.length = p.size := Array.length_toList
          have e2 : v.data.toList.length = v.size := Array.length_toList
          omega
        have hp0 : w2.cell? ⟨w1.heap.size, 0, none⟩ = some (.string p) := by
          rw [hw2]
          exact cellsP8 w1 _ 9 0
        have HB2 : Hid (Below w.heap.size w w2) := by
          show Below _ _ _
          rw [hw2]
          exact HB.out.alloc HB.out.size _
        have hp1 : 0 < (p :: r).length := by simp
        have hp2 : (0 : Int) < (((p :: r).length : Nat) : Int) := by omega
        clear hw2 HPS hh x0 x1
        generalize (p :: r).length = m at hpl hp1 hp2 ⊢
        go_wp2_with fail
        refine (trimBoth_any p (by omega) _).mono ?_
        rintro e w3 ⟨t, rfl, HTR, ht, hb3⟩
        have HB3 : Hid (Below w.heap.size w w3) := HB2.out.trans (hb3.mono HB2.out.size)
        clear hb3
        obtain ⟨y, HY⟩ : ∃ y : ByteArray, Hid (bs (t.data.toList.map low) = y) := ⟨_, rfl⟩
        have htz : t.size ≤ 4000 := by omega
        have HF : Hid (formL v.data.toList = (y.toList == formA || (y.toList == formB || y.toList == formC))) := by
          show _ = _
          have hk : kindL v.data.toList = y.toList := by
            unfold kindL
            rw [HC.out, ← HTR.out, ByteArray.toList_eq, ← HY.out, bs_data]
          unfold formL
          rw [hk]
        unfold formA formB formC at HF
        go_wp2_with fail
        refine (refLower_any t _ (by omega)).mono ?_
        rintro e w4 ⟨rfl, hb4⟩
        have HB4 : Hid (Below w.heap.size w w4) := HB3.out.trans (hb4.mono HB3.out.size)
        clear hb4
        rw [HY.out]
        cases sb
        · go_wp2
          go_ret
          exact ⟨ret_bool (by rw [HQ4.out]; rfl), HB4.out⟩
        · go_wp2
          all_goals
            go_ret
            exact ⟨ret_bool (by rw [HQ4.out, HF.out, Bool.true_and]; first | exact Bool.or_assoc _ _ _ | simp [*]), HB4.out⟩
  · have hlz : (128 : Int) < (v.size : Int) := by omega
    have HP : Hid (plainL n.data.toList v.data.toList = false) := by
      show _ = _
      unfold plainL
      rw [hlv, decide_eq_false hl, Bool.false_and]
    go_enter Tryz.func83, Tryz.ntmps83
    go_wp2
    go_ret
    exact ⟨ret_bool (by rw [HP.out]), hb0⟩
end Go.Proofs.YtoblpjknnchlmabGreatDoor

/- Which headers must be asked for, by the document's own answer. -/
namespace Go.Proofs.YtoblpjknnchlmabGreatDoor
open Go.RowKit Go.Shelf

/-- The names that the document asks for. -/
def refNames (ps : List Par) (big : Bool) : List ByteArray := (ps.filter fun p => big || !plain8 p).map lowN
theorem refNames_next (ps : List Par) (k : Nat) (p : Par) (big : Bool) (h : ps[k]? = some p) : refNames (ps.take (k + 1)) big = if (big || !plain8 p) = true then refNames (ps.take k) big ++ [lowN p] else refNames (ps.take k) big := by
  unfold refNames
  rw [take_next ps k p h, List.filter_append, List.map_append]
  cases h2 : (big || !plain8 p)
  · rw [List.filter_cons_of_neg (by simp [h2])]; simp
  · rw [List.filter_cons_of_pos (by simp [h2])]; simp
theorem refNames_le (ps : List Par) (big : Bool) : (refNames ps big).length ≤ ps.length := by
  unfold refNames
  rw [List.length_map]
  exact List.length_filter_le _ _
theorem names_perm (ps : List Par) : (tx (refNames ps (decide (1024 < together ps)))).Perm (tx (askedNames ps)) := by
  unfold tx
  apply List.Perm.map
  unfold askedNames refNames
  by_cases h : 1024 < together ps
  · rw [if_pos h, decide_eq_true h]
    unfold notPlain arePlain
    rw [← List.map_append]
    apply List.Perm.map
    have e : (ps.filter fun p => true || !plain8 p) = ps := by
      rw [List.filter_eq_self.2]
      intro a _
      simp
    rw [e]
    have := List.filter_append_perm (fun p => !plain8 p) ps
    simp only [Bool.not_not] at this
    exact this.symm
  · rw [if_neg h, decide_eq_false h]
    unfold notPlain
    simp only [Bool.false_or]
    exact List.Perm.refl _
theorem asked_ref (ps : List Par) : (Lib.compact (sortL (tx (refNames ps (decide (1024 < together ps)))))).map bs = askedL ps := by
  unfold askedL
  rw [sortL_of_perm (names_perm ps)]
theorem tog_next (ps : List Par) (k : Nat) (p : Par) (h : ps[k]? = some p) : together (ps.take (k + 1)) = if plain8 p = true then together (ps.take k) + p.2.size else together (ps.take k) := by
  cases hp : plain8 p
  · rw [if_neg (by simp)]; exact (notPlain_no ps k p h hp).2.2
  · rw [if_pos rfl]; exact (notPlain_yes ps k p h hp).2.2
set_option maxRecDepth 100000 in
set_option maxHeartbeats 8000000 in
theorem refAsked8_any (ps : List Par) (hps : Small8 ps) (a0 : Option Addr) (len cap b off : Nat) (hlen : len ≤ 60) (w : World) (hx : Pars w a0 len b off ps) :
    Calls Tryz.prog 52 #[.slice a0 len cap] w fun e w' => (∃ v, e = .returned v ∧ OwnS w' w.heap.size v (askedL ps)) ∧ Below w.heap.size w w' := by
  have HX : Hid (Pars w a0 len b off ps) := hx
  have HP : Hid (Small8 ps) := hps
  have HL : Hid (ps.length = len) := hx.len_eq
  clear hx hps
  go_enter Tryz.func52, Tryz.ntmps52
  go_wp2
  go_loopw [3, 11] (fun s3 i wr => ∃ (k tg : Nat), k ≤ len ∧ s3 = .int .i64 tg ∧ i = .int .i64 k ∧ tg ≤ 10000 ∧ Hid (tg = together (ps.take k)) ∧ Hid (Below w.heap.size w wr)) (fun _ i _ => len - (intOf i).toNat)
  case atStart => exact ⟨0, 0, Nat.zero_le _, rfl, rfl, by omega, rfl, Below.refl _ _⟩
  case round =>
    obtain ⟨k, tg, hk, rfl, rfl, htg, HT, HB⟩ := hrel
    by_cases hlt : k < len
    · have hltz : (k : Int) < (len : Int) := by omega
      obtain ⟨p, hp⟩ : ∃ p, ps[k]? = some p := ⟨ps[k]'(by have := HL.out; omega), List.getElem?_eq_getElem _⟩
      obtain ⟨pn, pv⟩ := p
      have HPK : Hid (ps[k]? = some (pn, pv)) := hp
      have hpz := HP.out _ (List.mem_of_getElem? hp)
      have hpz1 : pn.size ≤ 3000 := hpz.1
      have hpz2 : pv.size ≤ 3000 := hpz.2
      obtain ⟨ha0, _⟩ := HX.out.lies (by omega)
      subst ha0
      have hXr := HX.out.below HB.out
      have c1 : wr.cell? ⟨b, off + k * 2, none⟩ = some (.string pn) := hXr.one k _ hp
      have c2 : wr.cell? ⟨b, off + k * 2 + 1, none⟩ = some (.string pv) := hXr.two k _ hp
      have HW0 : Hid (∀ w', Below (wr.alloc (.cells #[.string pn, .string pv] 37)).heap.size (wr.alloc (.cells #[.string pn, .string pv] 37)) w' → Below w.heap.size w w' ∧ w'.heap[wr.heap.size]? = some (.cells #[.string pn, .string pv] 37 (0, 0))) := fun w' hb => by
        have hb0 : Below wr.heap.size wr (wr.alloc (.cells #[.string pn, .string pv] 37)) := (Below.refl _ _).alloc (Nat.le_refl _) _
        have hb1 : Below wr.heap.size wr w' := hb0.trans (hb.mono (by simp))
        exact ⟨HB.out.trans (hb1.mono HB.out.size), (hb.block _ (by simp)).trans (heap_alloc_new wr _)⟩
      obtain ⟨q, HQ⟩ : ∃ q, Hid (plainL pn.data.toList pv.data.toList = q) := ⟨_, rfl⟩
      have HS : Hid (together (ps.take (k + 1)) = if q = true then together (ps.take k) + pv.size else together (ps.take k)) := by
        rw [← HQ.out]; exact tog_next ps k _ HPK.out
      have HTL : Hid (together (ps.take (k + 1)) ≤ 10000) := by
        have h1 := together_le (ps.take (k + 1))
        have h2 : (ps.take (k + 1)).length ≤ k + 1 := List.length_take_le _ _
        show _ ≤ _
        omega
      clear hp hpz hXr
      go_wp2_with fail
      refine (refPlain_any pn pv (by omega) (by omega) _).mono ?_
      rintro e w2 ⟨rfl, hb2⟩
      rw [HQ.out]
      have HW2 := HW0.out _ hb2
      have HB2 : Hid (Below w.heap.size w w2) := HW2.1
      obtain ⟨_, x1, _⟩ := two_at HW2.2
      clear hb2 HW2 HW0 c1 c2
      cases q
      · go_wp2
        go_roundw
        case rel => exact ⟨k + 1, tg, by omega, rfl, by go_num, htg, by have h := HS.out; simp only [Bool.false_eq_true, if_false] at h; rw [h]; exact HT, HB2⟩
        case measure => simp [intOf]; omega
      · have HS1 : Hid (together (ps.take (k + 1)) = together (ps.take k) + pv.size) := by have h := HS.out; show _ = _; simpa using h
        have hts : tg + pv.size ≤ 10000 := by
          have h1 := HTL.out
          rw [HS1.out] at h1
          have h2 : tg = together (ps.take k) := HT
          omega
        go_wp2
        go_roundw
        case rel => exact ⟨k + 1, tg + pv.size, by omega, by go_num, by go_num, hts, by rw [HS1.out]; show tg + pv.size = _ + pv.size; rw [HT.out], HB2⟩
        case measure => simp [intOf]; omega
    · have hltz : ¬ (k : Int) < (len : Int) := by omega
      have HTG : Hid (tg = together ps) := by
        have h2 : tg = together (ps.take k) := HT
        rw [List.take_of_length_le (by have := HL.out; omega)] at h2
        exact h2
      obtain ⟨big, HBG⟩ : ∃ big, Hid (decide (1024 < together ps) = big) := ⟨_, rfl⟩
      clear HT
      go_wp2
      go_loopw [6, 25] (fun s6 i wq => ∃ (j : Nat) (u : Value), j ≤ len ∧ u = s6 ∧ i = .int .i64 j ∧ Hid (OwnS wq w.heap.size u (refNames (ps.take j) big) ∧ Below w.heap.size w wq)) (fun _ i _ => len - (intOf i).toNat)
      case atStart => exact ⟨0, _, Nat.zero_le _, rfl, rfl, by unfold refNames; exact ownS_nil _ _, HB.out⟩
      case round =>
        obtain ⟨j, u, hj, rfl, rfl, HI⟩ := hrel
        by_cases hjl : j < len
        · have hjz : (j : Int) < (len : Int) := by omega
          obtain ⟨p, hp⟩ : ∃ p, ps[j]? = some p := ⟨ps[j]'(by have := HL.out; omega), List.getElem?_eq_getElem _⟩
          obtain ⟨pn, pv⟩ := p
          have HPK : Hid (ps[j]? = some (pn, pv)) := hp
          have hpz := HP.out _ (List.mem_of_getElem? hp)
          have hpz1 : pn.size ≤ 3000 := hpz.1
          have hpz2 : pv.size ≤ 3000 := hpz.2
          obtain ⟨ha0, _⟩ := HX.out.lies (by omega)
          subst ha0
          have hXr := HX.out.below HI.out.2
          have c1 : wr.cell? ⟨b, off + j * 2, none⟩ = some (.string pn) := hXr.one j _ hp
          have c2 : wr.cell? ⟨b, off + j * 2 + 1, none⟩ = some (.string pv) := hXr.two j _ hp
          have HW0 : Hid (∀ w', Below (wr.alloc (.cells #[.string pn, .string pv] 37)).heap.size (wr.alloc (.cells #[.string pn, .string pv] 37)) w' → OwnS w' w.heap.size u (refNames (ps.take j) big) ∧ Below w.heap.size w w' ∧ w'.heap[wr.heap.size]? = some (.cells #[.string pn, .string pv] 37 (0, 0))) := fun w' hb => by
            have hb0 : Below wr.heap.size wr (wr.alloc (.cells #[.string pn, .string pv] 37)) := (Below.refl _ _).alloc (Nat.le_refl _) _
            have hb1 : Below wr.heap.size wr w' := hb0.trans (hb.mono (by simp))
            exact ⟨HI.out.1.below hb1, HI.out.2.trans (hb1.mono HI.out.2.size), (hb.block _ (by simp)).trans (heap_alloc_new wr _)⟩
          obtain ⟨q, HQ⟩ : ∃ q, Hid (plainL pn.data.toList pv.data.toList = q) := ⟨_, rfl⟩
          obtain ⟨x, HN⟩ : ∃ x : ByteArray, Hid (bs (pn.data.toList.map low) = x) := ⟨_, rfl⟩
          have HNX : Hid (lowN (pn, pv) = x) := HN.out
          have HS : Hid (refNames (ps.take (j + 1)) big = if (big || !q) = true then refNames (ps.take j) big ++ [x] else refNames (ps.take j) big) := by
            show _ = _
            rw [refNames_next ps j _ big HPK.out, HNX.out, ← HQ.out]
            rfl
          obtain ⟨nu, HNU⟩ : ∃ m, Hid ((refNames (ps.take j) big).length = m) := ⟨_, rfl⟩
          have hnu : nu ≤ 60 := by
            have h1 := refNames_le (ps.take j) big
            have h2 : (ps.take j).length ≤ j := List.length_take_le _ _
            have h3 := HNU.out
            omega
          clear hp hpz hXr
          go_upto_region 12 with fail
          generalize hWA : wr.alloc (.cells #[.string pn, .string pv] 37) = WA at HW0 ⊢
          have HWA : Hid (WA = wr.alloc (.cells #[.string pn, .string pv] 37)) := hWA.symm
          clear hWA c1 c2
          go_cut [35] (fun s35 wc => s35 = .bool (big || !q) ∧ Hid (Below WA.heap.size WA wc))
          case first =>
            cases big
            · have hbz : ¬ (1024 : Int) < (tg : Int) := by
                have h1 := of_decide_eq_false HBG.out
                have h2 := HTG.out
                omega
              obtain ⟨x0, x1, _⟩ := two_at (HW0.out _ (Below.refl _ _)).2.2
              go_wp2_with fail
              refine (refPlain_any pn pv (by omega) (by omega) _).mono ?_
              rintro e w2 ⟨rfl, hb2⟩
              rw [HQ.out]
              go_wp2
              go_meet
              exact ⟨rfl, hb2⟩
            · have hbz : (1024 : Int) < (tg : Int) := by
                have h1 := of_decide_eq_true HBG.out
                have h2 := HTG.out
                omega
              go_wp2
              go_meet
              exact ⟨rfl, Below.refl _ _⟩
          case rest =>
          obtain ⟨rfl, HC⟩ := hcut
          obtain ⟨z, HZZ⟩ : ∃ z, Hid ((big || !q) = z) := ⟨_, rfl⟩
          rw [HZZ.out] at HS ⊢
          have HWC := HW0.out _ HC.out
          obtain ⟨x0, x1, _⟩ := two_at HWC.2.2
          have HW2 : Hid (OwnS wc w.heap.size u (refNames (ps.take j) big) ∧ Below w.heap.size w wc) := ⟨HWC.1, HWC.2.1⟩
          clear HWC HW0 HWA
          cases z
          · have HS0 : Hid (refNames (ps.take (j + 1)) big = refNames (ps.take j) big) := by have h := HS.out; show _ = _; simpa using h
            go_wp2
            go_roundw
            case rel => exact ⟨j + 1, _, by omega, rfl, by go_num, by rw [HS0.out]; exact HW2⟩
            case measure => simp [intOf]; omega
          · have HS1 : Hid (refNames (ps.take (j + 1)) big = refNames (ps.take j) big ++ [x]) := by have h := HS.out; show _ = _; simpa using h
            go_wp2_with fail
            refine (refLower_any pn _ (by omega)).mono ?_
            rintro e w3 ⟨rfl, hb3⟩
            rw [HN.out]
            have HW3 : Hid (OwnS w3 w.heap.size u (refNames (ps.take j) big) ∧ Below w.heap.size w w3) := ⟨HW2.out.1.below hb3, HW2.out.2.trans (hb3.mono HW2.out.2.size)⟩
            clear hb3 x0 x1 HW2
            go_wp2_with (at_builtin; refine wp_apps rfl _ _ rfl w.heap.size w3 u _ nu rfl HW3.out.1 HNU.out (by omega) HW3.out.2.size x rfl ?_; intro g4 cap4 w4 hown4 hg4 hlt4; have HW4 : Hid (OwnS w4 w.heap.size (.slice (some ⟨g4, 0, none⟩) (nu + 1) cap4) (refNames (ps.take j) big ++ [x]) ∧ Below w.heap.size w w4) := ⟨hown4, (HW3.out.2.alloc HW3.out.2.size _).grown hg4 (by have := HW3.out.2.size; simp; omega) (fun i hi => (HW3.out.1.lt i hi).1)⟩; clear hown4 hg4 hlt4)
            go_roundw
            case rel => exact ⟨j + 1, _, by omega, rfl, by go_num, by rw [HS1.out]; exact HW4⟩
            case measure => simp [intOf]; omega
        · have hjz : ¬ (j : Int) < (len : Int) := by omega
          have HE : Hid (OwnS wr w.heap.size u (refNames ps big) ∧ Below w.heap.size w wr) := by
            have h := HI.out
            rw [List.take_of_length_le (by have := HL.out; omega)] at h
            exact h
          have hlr : (refNames ps big).length ≤ 1000 := by
            have h1 := refNames_le ps big
            have h2 := HL.out
            omega
          go_wp2_with fail
          refine (sortedR_any w.heap.size u _ hlr _ HE.out.2.size HE.out.1).mono ?_
          rintro e w5 ⟨⟨v, rfl, hown⟩, hb5⟩
          go_wp2
          go_ret
          refine ⟨⟨v, rfl, ?_⟩, HE.out.2.trans hb5⟩
          rw [← HBG.out, asked_ref] at hown
          exact hown
end Go.Proofs.YtoblpjknnchlmabGreatDoor

/- Cells of a block. -/
namespace Go.Proofs.YtoblpjknnchlmabGreatDoor
open Go.RowKit

theorem cells_of {w : World} {k : Nat} {cs : Array Value} {T : TypeId} {fz : Nat × Nat} (hk : w.heap[k]? = some (.cells cs T fz)) (j : Nat) (v : Value) (hj : cs[j]? = some v) : w.cell? ⟨k, j, none⟩ = some v := by
  simp [World.cell?, hk, hj]
theorem below_block {w w' : World} {k : Nat} {o : Obj} (hb : Below w.heap.size w w') (hk : w.heap[k]? = some o) : w'.heap[k]? = some o := by
  rw [hb.block k (Array.getElem?_eq_some_iff.1 hk).1]
  exact hk
end Go.Proofs.YtoblpjknnchlmabGreatDoor
