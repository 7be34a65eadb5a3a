/- Texts of one claim, joined: each begins with what it proves. -/
import Derived.Test.YtoblpjknnchlmabGreatDoorJo5
import Derived.Test.YtoblpjknnchlmabGreatDoorJo3
import Derived.Test.YtoblpjknnchlmabGreatDoorJo1
import Derived.Test.YtoblpjknnchlmabGreatDoorJo4
import Derived.Test.YtoblpjknnchlmabGreatDoorJo2
import Derived.Shelf.Strings.Builder1
import Derived.Shelf.Strings.BuilderK
import Derived.Lib.BufferKept
import Derived.Deep.Onto
import Derived.Deep.QuietTactic
import Derived.BigQuiet
import Derived.Lib.LaidU8
import Derived.Shelf.LaysM
import Derived.Shelf.Strconv.Itoa3
import Derived.Lib.AppendIntMem
import Derived.Lib.SmallJoins
import Derived.Lib.ItoaLen
/- Whether an answer may be seen by a request's origin. -/
namespace Go.Proofs.YtoblpjknnchlmabGreatDoor

def oN : List UInt8 := [65, 99, 99, 101, 115, 115, 45, 67, 111, 110, 116, 114, 111, 108, 45, 65, 108, 108, 111, 119, 45, 79, 114, 105, 103, 105, 110]
def cN : List UInt8 := [65, 99, 99, 101, 115, 115, 45, 67, 111, 110, 116, 114, 111, 108, 45, 65, 108, 108, 111, 119, 45, 67, 114, 101, 100, 101, 110, 116, 105, 97, 108, 115]
/-- An origin's text is t: by what an answer's fields tell. -/
def mayB (wi : Bool) (x t c : ByteArray) : Bool := !wi && x.toList == [42] || (x.toList == t.toList && (!wi || c.toList == [116, 114, 117, 101]))
def mayL (wi : Bool) (t : List UInt8) (ps : List Par) : Bool := mayB wi (bs (fieldT oN ps)) (bs t) (bs (fieldT cN ps))
theorem mayL_is (wi : Bool) (t : List UInt8) (ps : List Par) : mayL wi t ps = mayB wi (bs (fieldT oN ps)) (bs t) (bs (fieldT cN ps)) := rfl
theorem oN_is : oN = (⟨#[65, 99, 99, 101, 115, 115, 45, 67, 111, 110, 116, 114, 111, 108, 45, 65, 108, 108, 111, 119, 45, 79, 114, 105, 103, 105, 110]⟩ : ByteArray).data.toList := rfl
theorem cN_is : cN = (⟨#[65, 99, 99, 101, 115, 115, 45, 67, 111, 110, 116, 114, 111, 108, 45, 65, 108, 108, 111, 119, 45, 67, 114, 101, 100, 101, 110, 116, 105, 97, 108, 115]⟩ : ByteArray).data.toList := rfl
theorem oN_low : (⟨#[97, 99, 99, 101, 115, 115, 45, 99, 111, 110, 116, 114, 111, 108, 45, 97, 108, 108, 111, 119, 45, 111, 114, 105, 103, 105, 110]⟩ : ByteArray).data.toList.map low = oN.map low := by decide +kernel
theorem cN_low : (⟨#[97, 99, 99, 101, 115, 115, 45, 99, 111, 110, 116, 114, 111, 108, 45, 97, 108, 108, 111, 119, 45, 99, 114, 101, 100, 101, 110, 116, 105, 97, 108, 115]⟩ : ByteArray).data.toList.map low = cN.map low := by decide +kernel
end Go.Proofs.YtoblpjknnchlmabGreatDoor

/- How long an answer counts. -/
namespace Go.Proofs.YtoblpjknnchlmabGreatDoor

def aN : List UInt8 := [65, 99, 99, 101, 115, 115, 45, 67, 111, 110, 116, 114, 111, 108, 45, 77, 97, 120, 45, 65, 103, 101]
def ageL (ps : List Par) : Int := match secL (fieldT aN ps) with | none => 5 | some n => min (n : Int) 600
theorem aN_is : aN = (⟨#[65, 99, 99, 101, 115, 115, 45, 67, 111, 110, 116, 114, 111, 108, 45, 77, 97, 120, 45, 65, 103, 101]⟩ : ByteArray).data.toList := rfl
theorem aN_low : (⟨#[97, 99, 99, 101, 115, 115, 45, 99, 111, 110, 116, 114, 111, 108, 45, 109, 97, 120, 45, 97, 103, 101]⟩ : ByteArray).data.toList.map low = aN.map low := by decide +kernel
theorem ageL_bounds (ps : List Par) : 0 ≤ ageL ps ∧ ageL ps ≤ 600 := by
  unfold ageL
  split
  · decide
  · omega
theorem ageL_none {ps : List Par} (h : fieldL aN ps = none) : ageL ps = 5 := by
  unfold ageL
  rw [fieldT_none h]
  rfl
end Go.Proofs.YtoblpjknnchlmabGreatDoor

/- What an answer allows a request. -/
namespace Go.Proofs.YtoblpjknnchlmabGreatDoor

/-- The methods that an answer tells, or the request's own one. -/
def msOf (ms : List ByteArray) (m : ByteArray) : List ByteArray := if ms.length = 0 then [m] else ms
/-- The method and the header of each pass, or what is wrong. -/
def grantL (p : PsV) (may wi : Bool) (m : ByteArray) (xs : List ByteArray) (ps : List Par) : Except Int (List (ByteArray × ByteArray)) :=
  match wordsO (fieldT mN ps), wordsO (fieldT hN ps) with
  | some ms, some hs => if may = false then .error 6 else if coversL wi m xs ((passL (msOf ms m) hs).map p.of) then .ok (passL (msOf ms m) hs) else .error 6
  | _, _ => .error 3
theorem grantL_bad1 {p : PsV} {may wi : Bool} {m : ByteArray} {xs : List ByteArray} {ps : List Par} (h : wordsO (fieldT mN ps) = none) : grantL p may wi m xs ps = .error 3 := by
  unfold grantL
  rw [h]
theorem grantL_bad2 {p : PsV} {may wi : Bool} {m : ByteArray} {xs : List ByteArray} {ps : List Par} (h : wordsO (fieldT hN ps) = none) : grantL p may wi m xs ps = .error 3 := by
  unfold grantL
  rw [h]
  cases wordsO (fieldT mN ps) <;> rfl
theorem grantL_no {p : PsV} {wi : Bool} {m : ByteArray} {xs : List ByteArray} {ps : List Par} {ms hs : List ByteArray} (h1 : wordsO (fieldT mN ps) = some ms) (h2 : wordsO (fieldT hN ps) = some hs) : grantL p false wi m xs ps = .error 6 := by
  unfold grantL
  rw [h1, h2]
  rfl
theorem grantL_cov {p : PsV} {wi : Bool} {m : ByteArray} {xs : List ByteArray} {ps : List Par} {ms hs : List ByteArray} {t : Bool} (h1 : wordsO (fieldT mN ps) = some ms) (h2 : wordsO (fieldT hN ps) = some hs) (h3 : coversL wi m xs ((passL (msOf ms m) hs).map p.of) = t) : grantL p true wi m xs ps = if t then .ok (passL (msOf ms m) hs) else .error 6 := by
  unfold grantL
  rw [h1, h2]
  show (if coversL wi m xs _ = true then _ else _) = _
  rw [h3]
theorem mN_is : mN = (⟨#[65, 99, 99, 101, 115, 115, 45, 67, 111, 110, 116, 114, 111, 108, 45, 65, 108, 108, 111, 119, 45, 77, 101, 116, 104, 111, 100, 115]⟩ : ByteArray).data.toList := rfl
theorem hN_is : hN = (⟨#[65, 99, 99, 101, 115, 115, 45, 67, 111, 110, 116, 114, 111, 108, 45, 65, 108, 108, 111, 119, 45, 72, 101, 97, 100, 101, 114, 115]⟩ : ByteArray).data.toList := rfl
end Go.Proofs.YtoblpjknnchlmabGreatDoor

/- strings.Builder: WriteString and String, laid at this program's numbers. -/
namespace Go.Proofs.YtoblpjknnchlmabGreatDoor
open Go.Shelf Go.RowKit
def bld_ren : Go.Shelf.Ren := ⟨fun | 166 => 35 | 169 => 36 | 240 => 67 | 276 => 95 | n => n, fun | 9 => 9 | 3 => 3 | 4 => 4 | 0 => 0 | 20 => 20 | 72 => 72 | 76 => 74 | 70 => 69 | 37 => 70 | 75 => 32 | 127 => 100 | 164 => 122 | 5 => 5 | 80 => 76 | n => n, fun | n => n⟩
theorem bld166 : Go.Proofs.Lays.n166 Tryz.prog bld_ren := {
  mixed := by kernel_rfl
  f166 := Tryz.func35.trans (congrArg some (by kernel_rfl))
  f240 := Tryz.func67.trans (congrArg some (by kernel_rfl))
  f276 := Tryz.func95.trans (congrArg some (by kernel_rfl))
  t0 := Tryz.underlying0
  a0 := Tryz.isAgg0
  z0 := Tryz.sizeOf0
  v0 := Tryz.zeroValue0
  t3 := Tryz.underlying3
  a3 := Tryz.isAgg3
  z3 := Tryz.sizeOf3
  v3 := Tryz.zeroValue3
  t4 := Tryz.underlying4
  a4 := Tryz.isAgg4
  z4 := Tryz.sizeOf4
  v4 := Tryz.zeroValue4
  t9 := Tryz.underlying9
  a9 := Tryz.isAgg9
  z9 := Tryz.sizeOf9
  v9 := Tryz.zeroValue9
  t20 := Tryz.underlying20
  a20 := Tryz.isAgg20
  z20 := Tryz.sizeOf20
  v20 := Tryz.zeroValue20
  t37 := Tryz.underlying70
  a37 := Tryz.isAgg70
  z37 := Tryz.sizeOf70
  v37 := Tryz.zeroValue70
  t70 := Tryz.underlying69
  a70 := Tryz.isAgg69
  z70 := Tryz.sizeOf69
  v70 := Tryz.zeroValue69
  t72 := Tryz.underlying72
  a72 := Tryz.isAgg72
  z72 := Tryz.sizeOf72
  v72 := Tryz.zeroValue72
  t75 := Tryz.underlying32
  a75 := Tryz.isAgg32
  z75 := Tryz.sizeOf32
  v75 := Tryz.zeroValue32
  t164 := Tryz.underlying122
  a164 := Tryz.isAgg122
  z164 := Tryz.sizeOf122
  v164 := Tryz.zeroValue122 }
theorem bld169 : Go.Proofs.Lays.n169 Tryz.prog bld_ren := {
  mixed := by kernel_rfl
  f169 := Tryz.func36.trans (congrArg some (by kernel_rfl))
  t0 := Tryz.underlying0
  a0 := Tryz.isAgg0
  z0 := Tryz.sizeOf0
  v0 := Tryz.zeroValue0
  t3 := Tryz.underlying3
  a3 := Tryz.isAgg3
  z3 := Tryz.sizeOf3
  v3 := Tryz.zeroValue3
  t9 := Tryz.underlying9
  a9 := Tryz.isAgg9
  z9 := Tryz.sizeOf9
  v9 := Tryz.zeroValue9
  t37 := Tryz.underlying70
  a37 := Tryz.isAgg70
  z37 := Tryz.sizeOf70
  v37 := Tryz.zeroValue70
  t70 := Tryz.underlying69
  a70 := Tryz.isAgg69
  z70 := Tryz.sizeOf69
  v70 := Tryz.zeroValue69
  t72 := Tryz.underlying72
  a72 := Tryz.isAgg72
  z72 := Tryz.sizeOf72
  v72 := Tryz.zeroValue72
  t127 := Tryz.underlying100
  a127 := Tryz.isAgg100
  z127 := Tryz.sizeOf100
  v127 := Tryz.zeroValue100 }
theorem bldX : Builder.Extra Tryz.prog bld_ren := {
  sizeBuilder := by kernel_rfl
  liesBuilder := by kernel_rfl
  t5 := Tryz.underlying5
  a5 := Tryz.isAgg5
  z5 := Tryz.sizeOf5
  v5 := Tryz.zeroValue5
  infoByte := by kernel_rfl
  cellsByte := by kernel_rfl
  sizeByte := by kernel_rfl
  neB5 := by decide }
theorem bytes_cells (l : List UInt8) (s : ByteArray) : Lib.byteCells l ++ Lib.strCells s = Lib.byteCells (l ++ s.data.toList) := by
  simp [Lib.byteCells, Lib.strCells]
/-- More bytes into a builder. -/
theorem bld_write (B b : Nat) (l : List UInt8) (s : ByteArray) (w : World) (h : Lib.IsBuilder 72 5 B b (Lib.byteCells l) w) (hl : l.length + s.size ≤ 100000) (hB : B ≤ w.heap.size) :
    Calls Tryz.prog 35 #[.pointer (some ⟨b, 0, none⟩), .string s] w fun e w' => e = .returned (.tuple #[.int .i64 s.size, .nilIface]) ∧ Lib.IsBuilder 72 5 B b (Lib.byteCells (l ++ s.data.toList)) w' ∧ Below B w w' := by
  refine (Any.Builder_WriteString bld166 bldX B b _ s w h (by simp [Lib.byteCells]; omega) hB).mono ?_
  rintro e w' ⟨rfl, h2, hb⟩
  refine ⟨rfl, .inr ?_, hb⟩
  rw [← bytes_cells]
  exact h2
/-- What a builder holds, as a text. -/
theorem bld_string (B b : Nat) (l : List UInt8) (w : World) (h : Lib.IsBuilder 72 5 B b (Lib.byteCells l) w) (hB : B ≤ w.heap.size) :
    Calls Tryz.prog 36 #[.pointer (some ⟨b, 0, none⟩)] w fun e w' => e = .returned (.string (bs l)) ∧ Below B w w' := Any.Builder_String_any bld169 bldX B b l w h hB
end Go.Proofs.YtoblpjknnchlmabGreatDoor

/- strings.Builder: texts that are written leave all else as it lay. -/
namespace Go.Proofs.YtoblpjknnchlmabGreatDoor
open Go.Shelf Go.RowKit
/-- A builder at block b, its bytes, all among the blocks from B on. -/
def Built (w : World) (B b : Nat) (l : List UInt8) : Prop := Lib.IsBuilderF 72 5 B b (Lib.byteCells l) w
theorem builtAt_below {T e : TypeId} {B b : Nat} {p : Value} {l : List Value} {w w' : World} (h : Lib.BuilderAtF T e B b p l w) (hb : Below w.heap.size w w') : Lib.BuilderAtF T e B b p l w' := by
  have old : ∀ (k : Nat) (o : Obj), w.heap[k]? = some o → w'.heap[k]? = some o := fun k o hk => by
    rw [hb.block k (Array.getElem?_eq_some_iff.1 hk).1]
    exact hk
  obtain ⟨hB, v, hv, ⟨h1, h2⟩, hne⟩ := h
  refine ⟨hB, v, old _ _ hv, ⟨h1, ?_⟩, hne⟩
  rcases h2 with h2 | ⟨g, cap, cur, fz, e1, e2, e3, e4⟩
  · exact .inl h2
  · exact .inr ⟨g, cap, cur, fz, e1, e2, old _ _ e3, e4⟩
theorem Built.below {w w' : World} {B b : Nat} {l : List UInt8} (h : Built w B b l) (hb : Below w.heap.size w w') : Built w' B b l :=
  h.elim (fun x => .inl (builtAt_below x hb)) (fun x => .inr (builtAt_below x hb))
theorem Built.lt {w : World} {B b : Nat} {l : List UInt8} (h : Built w B b l) : B ≤ b ∧ b < w.heap.size := h.elim (fun x => ⟨x.1, x.lt⟩) (fun x => ⟨x.1, x.lt⟩)
/-- More bytes into a builder. -/
theorem bdk_write (B b : Nat) (l : List UInt8) (s : ByteArray) (w : World) (h : Built w B b l) (hl : l.length + s.size ≤ 10000000) (hB : B ≤ w.heap.size) :
    Calls Tryz.prog 35 #[.pointer (some ⟨b, 0, none⟩), .string s] w fun e w' => e = .returned (.tuple #[.int .i64 s.size, .nilIface]) ∧ Built w' B b (l ++ s.data.toList) ∧ Below B w w' ∧ Lib.OthersKept 5 (some b) w w' := by
  refine (Any.Builder_WriteString_k bld166 bldX B b _ s w h (by simp [Lib.byteCells]; omega) hB).mono ?_
  rintro e w' ⟨rfl, h2, hb, ho⟩
  refine ⟨rfl, .inr ?_, hb, ho⟩
  rw [← bytes_cells]
  exact h2
/-- What a builder holds, as a text. -/
theorem bdk_string (B b : Nat) (l : List UInt8) (w : World) (h : Built w B b l) (hB : B ≤ w.heap.size) :
    Calls Tryz.prog 36 #[.pointer (some ⟨b, 0, none⟩)] w fun e w' => e = .returned (.string (bs l)) ∧ Below B w w' := by
  refine (Any.Builder_String_any_k bld169 bldX B b l w h hB).mono ?_
  rintro e w' ⟨rfl, _, hb, _⟩
  exact ⟨rfl, hb⟩
/-- A block that is neither the builder's nor a row of bytes. -/
theorem kept_cells {w w' : World} {b k : Nat} {cs : Array Value} {T : TypeId} {fz : Nat × Nat} (h : Lib.OthersKept 5 (some b) w w') (hk : w.heap[k]? = some (.cells cs T fz)) (hT : T ≠ 5) (hb : k ≠ b) : w'.heap[k]? = some (.cells cs T fz) :=
  h k _ hk (by simpa using hb) (fun c f e => hT (by injection e))
end Go.Proofs.YtoblpjknnchlmabGreatDoor

/- cors.Get: the values of a field, by the program. -/
namespace Go.Proofs.YtoblpjknnchlmabGreatDoor
open Go.RowKit

theorem built_fresh (w : World) : Built (w.alloc (.cells #[.pointer none, .slice none 0 0] 72)) w.heap.size w.heap.size [] := Lib.IsBuilderF.of (Lib.fresh_isBuilder _ _ _)
/-- Fields that are few and not too long. -/
def FewW (ps : List Par) : Prop := ps.length ≤ 45 ∧ ∀ p ∈ ps, p.1.size ≤ 3000 ∧ p.2.size ≤ 3000
theorem Few9.wide {ps : List Par} (h : Few9 ps) : FewW ps := ⟨h.1, fun p hp => by have := h.2 p hp; omega⟩
set_option maxRecDepth 100000 in
set_option maxHeartbeats 4000000 in
theorem get9w_any (ps : List Par) (hf : FewW ps) (n : ByteArray) (hn : n.size ≤ 4000) (a0 : Option Addr) (len cap b off : Nat) (w : World) (hx : Pars w a0 len b off ps) :
    Calls Tryz.prog 16 #[.slice a0 len cap, .string n] w fun e w' => e = .returned (.tuple #[.string (bs (fieldT n.data.toList ps)), .bool (fieldL n.data.toList ps).isSome]) ∧ Below w.heap.size w w' := by
  have HX : Hid (Pars w a0 len b off ps) := hx
  have HF : Hid (FewW ps) := hf
  have hl := hx.len_eq
  have hlen : len ≤ 45 := by have := hf.1; omega
  have HL : Hid (ps.length = len) := hl
  have HB0 : Hid (Built (w.alloc (.cells #[.pointer none, .slice none 0 0] 72)) w.heap.size w.heap.size [] ∧ Below w.heap.size w (w.alloc (.cells #[.pointer none, .slice none 0 0] 72))) := ⟨built_fresh w, (Below.refl _ _).alloc (Nat.le_refl _) _⟩
  clear hx hf hl
  go_enter Tryz.func16, Tryz.ntmps16
  go_wp2
  go_loopw [7, 12] (fun v i wr => ∃ (k : Nat) (s : Option (List UInt8)), k ≤ len ∧ i = .int .i64 k ∧ v = .bool s.isSome ∧ Hid (fieldL n.data.toList (ps.take k) = s) ∧ Hid (Built wr w.heap.size w.heap.size (s.getD []) ∧ Below w.heap.size w wr)) (fun _ i _ => len - (intOf i).toNat)
  case atStart => exact ⟨0, none, Nat.zero_le _, rfl, rfl, rfl, HB0.out⟩
  case round =>
    obtain ⟨k, s, hk, rfl, rfl, HK, HI⟩ := hrel
    have hwz : w.heap.size < wr.heap.size := HI.out.1.lt.2
    by_cases hlt : k < len
    · have hltz : (k : Int) < (len : Int) := by omega
      obtain ⟨p, hp⟩ : ∃ p, ps[k]? = some p := ⟨ps[k]'(by have := HL.out; omega), List.getElem?_eq_getElem _⟩
      obtain ⟨pn, pv⟩ := p
      have HPK : Hid (ps[k]? = some (pn, pv)) := hp
      have hpz := HF.out.2 _ (List.mem_of_getElem? hp)
      have hz1 : pn.size ≤ 3000 := hpz.1
      have hz2 : pv.size ≤ 3000 := hpz.2
      obtain ⟨ha0, _⟩ := (HX.out.below HI.out.2).lies (by omega)
      subst ha0
      have c1 := (HX.out.below HI.out.2).one k _ hp
      have c2 := (HX.out.below HI.out.2).two k _ hp
      have HSZ : Hid ((s.getD []).length ≤ 3002 * 45) := by
        have h1 := fieldT_take_len n.data.toList ps 3000 (fun p hp => (HF.out.2 p hp).2) k
        unfold fieldT at h1
        rw [HK.out] at h1
        have h3 : (3000 + 2) * k ≤ 3002 * 45 := Nat.mul_le_mul_left _ (by omega)
        exact Nat.le_trans h1 h3
      have HB1 : Hid (Below wr.heap.size wr (wr.alloc (.cells #[.string pn, .string pv] 37))) := (Below.refl _ _).alloc (Nat.le_refl _) _
      have HBOX : Hid ((wr.alloc (.cells #[.string pn, .string pv] 37)).heap[wr.heap.size]? = some (.cells #[.string pn, .string pv] 37 (0, 0))) := heap_alloc_new wr _
      clear hp hpz
      obtain ⟨q, HQ⟩ : ∃ q, Hid (sameL pn.data.toList n.data.toList = q) := ⟨_, rfl⟩
      have hsm := fun w => same_any pn n (by omega) hn w
      rw [HQ.out] at hsm
      cases q
      · have HN : Hid (fieldL n.data.toList (ps.take (k + 1)) = s) := (fieldL_other HPK.out HQ.out).trans HK.out
        go_wp2_with fail
        refine (hsm _).mono ?_
        rintro e w2 ⟨rfl, hb2⟩
        have HB2 : Hid (Below wr.heap.size wr w2) := HB1.out.trans (hb2.mono HB1.out.size)
        have HI2 : Hid (Built w2 w.heap.size w.heap.size (s.getD []) ∧ Below w.heap.size w w2) := ⟨HI.out.1.below HB2.out, HI.out.2.trans (HB2.out.mono HI.out.2.size)⟩
        clear hb2
        go_wp2
        go_roundw
        case rel => exact ⟨k + 1, s, by omega, by go_num, rfl, HN, HI2⟩
        case measure => simp [intOf]; omega
      · have HN : Hid (fieldL n.data.toList (ps.take (k + 1)) = some (joinV s pv.data.toList)) := by
          have := fieldL_same HPK.out HQ.out
          rw [HK.out] at this
          exact this
        have HZV : Hid (pv.data.toList.length = pv.size) := Array.length_toList
        cases s with
        | none =>
          go_wp2_with fail
          refine (hsm _).mono ?_
          rintro e w2 ⟨rfl, hb2⟩
          have HB2 : Hid (Below wr.heap.size wr w2) := HB1.out.trans (hb2.mono HB1.out.size)
          have HI2 : Hid (Built w2 w.heap.size w.heap.size [] ∧ Below w.heap.size w w2) := ⟨HI.out.1.below HB2.out, HI.out.2.trans (HB2.out.mono HI.out.2.size)⟩
          have hd1 := cells_of (below_block hb2 HBOX.out) 1 _ rfl
          have hzr : w.heap.size ≤ w2.heap.size := HI2.out.2.size
          clear hb2
          go_wp2_with fail
          refine (bdk_write _ _ _ pv _ HI2.out.1 (by simp; omega) hzr).mono ?_
          rintro e w3 ⟨rfl, hw3, hb3, ho3⟩
          have HI3 : Hid (Built w3 w.heap.size w.heap.size pv.data.toList ∧ Below w.heap.size w w3) := ⟨by simpa using hw3, HI2.out.2.trans hb3⟩
          clear hw3 hb3 ho3
          go_wp2
          go_roundw
          case rel => exact ⟨k + 1, some (pv.data.toList), by omega, by go_num, rfl, HN, HI3⟩
          case measure => simp [intOf]; omega
        | some o =>
          go_wp2_with fail
          refine (hsm _).mono ?_
          rintro e w2 ⟨rfl, hb2⟩
          have HB2 : Hid (Below wr.heap.size wr w2) := HB1.out.trans (hb2.mono HB1.out.size)
          have HI2 : Hid (Built w2 w.heap.size w.heap.size o ∧ Below w.heap.size w w2) := ⟨HI.out.1.below HB2.out, HI.out.2.trans (HB2.out.mono HI.out.2.size)⟩
          have HBX2 : Hid (w2.heap[wr.heap.size]? = some (.cells #[.string pn, .string pv] 37 (0, 0))) := below_block hb2 HBOX.out
          have hzr : w.heap.size ≤ w2.heap.size := HI2.out.2.size
          have hol : o.length ≤ 3002 * 45 := HSZ.out
          clear hb2
          go_wp2_with fail
          refine (bdk_write _ _ _ ⟨#[44, 32]⟩ _ HI2.out.1 (by have : (⟨#[44, 32]⟩ : ByteArray).size = 2 := rfl; omega) hzr).mono ?_
          rintro e w3 ⟨rfl, hw3, hb3, ho3⟩
          have HI3 : Hid (Built w3 w.heap.size w.heap.size (o ++ [44, 32]) ∧ Below w.heap.size w w3) := ⟨hw3, HI2.out.2.trans hb3⟩
          have hd1 := cells_of (kept_cells ho3 HBX2.out (by decide) (by omega)) 1 _ rfl
          have hzs : w.heap.size ≤ w3.heap.size := HI3.out.2.size
          clear hw3 hb3 ho3
          go_wp2_with fail
          refine (bdk_write _ _ _ pv _ HI3.out.1 (by simp; omega) hzs).mono ?_
          rintro e w4 ⟨rfl, hw4, hb4, ho4⟩
          have HI4 : Hid (Built w4 w.heap.size w.heap.size (o ++ 44 :: 32 :: pv.data.toList) ∧ Below w.heap.size w w4) := ⟨by simpa using hw4, HI3.out.2.trans hb4⟩
          clear hw4 hb4 ho4
          go_wp2
          go_roundw
          case rel => exact ⟨k + 1, some (o ++ 44 :: 32 :: pv.data.toList), by omega, by go_num, rfl, HN, HI4⟩
          case measure => simp [intOf]; omega
    · have hltz : ¬ (k : Int) < (len : Int) := by omega
      have HE : Hid (fieldL n.data.toList ps = s) := by
        have := HK.out
        rw [List.take_of_length_le (by have := HL.out; omega)] at this
        exact this
      have HT : Hid (fieldT n.data.toList ps = s.getD []) := by show _ = _; unfold fieldT; rw [HE.out]
      go_wp2_with fail
      refine (bdk_string _ _ _ _ HI.out.1 (Nat.le_of_lt hwz)).mono ?_
      rintro e w2 ⟨rfl, hb2⟩
      have HB2 : Hid (Below w.heap.size w w2) := HI.out.2.trans hb2
      obtain ⟨so, HSO⟩ : ∃ so, Hid (bs (s.getD []) = so) := ⟨_, rfl⟩
      rw [HSO.out]
      go_wp2
      go_ret2
      exact ⟨by rw [HE.out, HT.out, HSO.out]; rfl, HB2.out⟩
theorem get9_any (ps : List Par) (hf : Few9 ps) (n : ByteArray) (hn : n.size ≤ 4000) (a0 : Option Addr) (len cap b off : Nat) (w : World) (hx : Pars w a0 len b off ps) :
    Calls Tryz.prog 16 #[.slice a0 len cap, .string n] w fun e w' => e = .returned (.tuple #[.string (bs (fieldT n.data.toList ps)), .bool (fieldL n.data.toList ps).isSome]) ∧ Below w.heap.size w w' :=
  get9w_any ps hf.wide n hn a0 len cap b off w hx
end Go.Proofs.YtoblpjknnchlmabGreatDoor

/- words: the list that a field tells, by the program. -/
namespace Go.Proofs.YtoblpjknnchlmabGreatDoor
open Go.RowKit

/-- What words answers. -/
def WdsAns (o : Option (List ByteArray)) (B : Nat) (e : Ending) (w' : World) : Prop :=
  (∃ (xs : List ByteArray) (v : Value), o = some xs ∧ e = .returned (.tuple #[v, .bool true]) ∧ OwnS w' B v xs) ∨ (o = none ∧ e = .returned (.tuple #[.slice none 0 0, .bool false]))
set_option maxRecDepth 100000 in
set_option maxHeartbeats 4000000 in
theorem words9_any (ps : List Par) (hf : Few9 ps) (n : ByteArray) (hn : n.size ≤ 4000) (a0 : Option Addr) (len cap b off : Nat) (w : World) (hx : Pars w a0 len b off ps) :
    Calls Tryz.prog 41 #[.slice a0 len cap, .string n] w fun e w' => WdsAns (wordsO (fieldT n.data.toList ps)) w.heap.size e w' ∧ Below w.heap.size w w' := by
  obtain ⟨x, HXE⟩ : ∃ x, Hid (bs (fieldT n.data.toList ps) = x) := ⟨_, rfl⟩
  have hxz : x.size ≤ 20000 := by rw [← HXE.out, bs_size]; exact Nat.le_trans (hf.len _) (by decide)
  have HXL : Hid (fieldT n.data.toList ps = x.data.toList) := by show _ = _; rw [← HXE.out, bs_data]
  have hg := get9_any ps hf n hn a0 len cap b off w hx
  rw [HXE.out] at hg
  rw [HXL.out]
  clear hf hx
  go_enter Tryz.func41, Tryz.ntmps41
  go_wp2_with fail
  refine hg.mono ?_
  rintro e w1 ⟨rfl, hb1⟩
  have HB1 : Hid (Below w.heap.size w w1) := hb1
  clear hb1 hg
  go_wp2_with fail
  refine (list_any x hxz _).mono ?_
  rintro e w2 ⟨⟨xs, v, hl, h40, rfl, hown⟩ | ⟨xs, hl, h40, rfl⟩ | ⟨p, g, hl, rfl, _, _, _⟩, hb2⟩
  · have HW : Hid (wordsO x.data.toList = some xs) := wordsO_ok hl h40
    have HO : Hid (OwnS w2 w.heap.size v xs) := World.ownsRow.mono hown (by have := HB1.out.size; omega)
    have HB2 : Hid (Below w.heap.size w w2) := HB1.out.trans (hb2.mono HB1.out.size)
    clear hl hown hb2
    go_wp2_with fail
    go_quiet (fail)
    go_wp2
    go_ret2
    exact ⟨.inl ⟨xs, v, HW.out, rfl, HO.out.below (drewN_below (Below.refl _ _) _)⟩, drewN_below HB2.out _⟩
  · have HW : Hid (wordsO x.data.toList = none) := wordsO_many hl h40
    have HB2 : Hid (Below w.heap.size w w2) := HB1.out.trans (hb2.mono HB1.out.size)
    clear hl hb2
    go_wp2_with fail
    go_quiet (fail)
    go_wp2
    go_ret2
    exact ⟨.inr ⟨HW.out, rfl⟩, drewN_below HB2.out _⟩
  · have HW : Hid (wordsO x.data.toList = none) := wordsO_bad hl
    have HB2 : Hid (Below w.heap.size w w2) := HB1.out.trans (hb2.mono HB1.out.size)
    clear hl hb2
    go_wp2_with fail
    go_quiet (fail)
    go_wp2
    go_ret2
    exact ⟨.inr ⟨HW.out, rfl⟩, drewN_below HB2.out _⟩
end Go.Proofs.YtoblpjknnchlmabGreatDoor

/- New blocks; rows of bytes. -/

/- The two schemes, as the program's table has them; the program's ports. -/
namespace Go.Proofs.YtoblpjknnchlmabGreatDoor
open Go.RowKit

/-- What the table of schemes holds. -/
structure Schemes (w : World) : Prop where
  lt : 1 < w.heap.size
  c0 : w.cell? ⟨1, 0, none⟩ = some (.string ⟨#[104, 116, 116, 112, 58, 47, 47]⟩)
  c1 : w.cell? ⟨1, 1, none⟩ = some (.bool false)
  c2 : w.cell? ⟨1, 2, none⟩ = some (.int .i64 80)
  c3 : w.cell? ⟨1, 3, none⟩ = some (.string ⟨#[104, 116, 116, 112, 115, 58, 47, 47]⟩)
  c4 : w.cell? ⟨1, 4, none⟩ = some (.bool true)
  c5 : w.cell? ⟨1, 5, none⟩ = some (.int .i64 443)
theorem Schemes.below {w w' : World} (h : Schemes w) {H : Nat} (hb : Below H w w') (hH : w.heap.size ≤ H) : Schemes w' := by
  have hg := Nat.lt_of_lt_of_le h.lt hH
  have hc := fun i => hb.cell (p := ⟨1, i, none⟩) hg
  have hz := hb.size
  exact ⟨by have := h.lt; omega, (hc 0).trans h.c0, (hc 1).trans h.c1, (hc 2).trans h.c2, (hc 3).trans h.c3, (hc 4).trans h.c4, (hc 5).trans h.c5⟩
theorem lt_of_cell {W : World} {g i : Nat} {v : Value} (h : W.cell? ⟨g, i, none⟩ = some v) : g < W.heap.size := by
  rcases Nat.lt_or_ge g W.heap.size with hl | hl
  · exact hl
  · simp [World.cell?, Array.getElem?_eq_none hl] at h
set_option maxRecDepth 100000 in
theorem scheme_cells {H : Type} {enc : TypeId × Value → H} {w : World} {base : Nat} {sp : Nat → Bool} {held : Bool} {fuel : Nat} {cs : List Value} {p : List MemPlace} {m : List UInt8} {b : Bool} {n : Int}
    (h : DataW.trod enc Tryz.prog w base sp held fuel 103 cs = some (.agg [.lit (.string m), .lit (.bool b), .lit (.int .i64 n)], p)) : cs[0]? = some (.string (bs m)) ∧ cs[1]? = some (.bool b) ∧ cs[2]? = some (.int .i64 n) := by
  obtain ⟨xs, k, rfl, hx, hl, hxl, hall⟩ := DataW.trod_struct Tryz.underlying103 h
  have hxs : xs.map (·.1) = [(.lit (.string m) : DataW H), .lit (.bool b), .lit (.int .i64 n)] := by
    have := congrArg Prod.fst hx
    simpa using this.symm
  have k9 : Tryz.prog.cellsOf 9 = 1 := by kernel_rfl
  have k4 : Tryz.prog.cellsOf 4 = 1 := by kernel_rfl
  have k3 : Tryz.prog.cellsOf 3 = 1 := by kernel_rfl
  have h0 : DataW.trod enc Tryz.prog w base sp held k 9 ((cs.drop 0).take (Tryz.prog.cellsOf 9)) = xs[0]? := hall 0 _ rfl
  have h1 : DataW.trod enc Tryz.prog w base sp held k 4 ((cs.drop 1).take (Tryz.prog.cellsOf 4)) = xs[1]? := hall 1 _ rfl
  have h2 : DataW.trod enc Tryz.prog w base sp held k 3 ((cs.drop 2).take (Tryz.prog.cellsOf 3)) = xs[2]? := hall 2 _ rfl
  rw [k9] at h0
  rw [k4] at h1
  rw [k3] at h2
  match xs, hxs with
  | [x0, x1, x2], hxs =>
    simp only [List.map_cons, List.map_nil, List.cons.injEq, and_true] at hxs
    obtain ⟨e0, e1, e2⟩ := hxs
    simp only [List.getElem?_cons_zero, List.getElem?_cons_succ] at h0 h1 h2
    obtain ⟨s, hs, hx0, _⟩ := DataW.trod_string Tryz.underlying9 h0
    obtain ⟨c, hc, hx1⟩ := DataW.trod_bool Tryz.underlying4 h1
    obtain ⟨z, hz, hx2, _⟩ := DataW.trod_int Tryz.underlying3 h2
    rw [hx0] at e0
    rw [hx1] at e1
    rw [hx2] at e2
    simp only [DataW.lit.injEq, Lit.string.injEq, Lit.bool.injEq, Lit.int.injEq, true_and] at e0 e1 e2
    subst e0 e1 e2
    rw [bs_self]
    refine ⟨?_, ?_, ?_⟩
    · have := congrArg (·[0]?) hs
      simpa [List.getElem?_take, List.getElem?_drop] using this
    · have := congrArg (·[0]?) hc
      simpa [List.getElem?_take, List.getElem?_drop] using this
    · have := congrArg (·[0]?) hz
      simpa [List.getElem?_take, List.getElem?_drop] using this
set_option maxRecDepth 100000 in
theorem schemes_laid {W : World} (h : Lib.VarReads Tryz.prog W "gatepost/url.schemes" Rows.laid_gatepost_url_schemes) : Schemes W := by
  obtain ⟨g', t', cs, fuel, p, hg, hty, hvar, hd⟩ := h
  have hn : Tryz.prog.globalNamed "gatepost/url.schemes" = some 1 := by kernel_rfl
  have ht : (Tryz.prog.globals[1]?).map (·.type) = some 124 := by kernel_rfl
  obtain rfl := Option.some.inj (hn.symm.trans hg)
  obtain rfl := Option.some.inj (ht.symm.trans hty)
  have k3 : Tryz.prog.cellsOf 103 = 3 := by kernel_rfl
  obtain ⟨f0, d0, q0, hd0, he0⟩ := Lib.array_elem Tryz.underlying124 hd 0 (by omega)
  obtain ⟨f1, d1, q1, hd1, he1⟩ := Lib.array_elem Tryz.underlying124 hd 1 (by omega)
  simp only [List.getElem?_cons_zero, List.getElem?_cons_succ, Option.some.injEq] at hd0 hd1
  subst hd0 hd1
  clear hd
  obtain ⟨a0, a1, a2⟩ := scheme_cells he0
  obtain ⟨b0, b1, b2⟩ := scheme_cells he1
  clear he0 he1
  rw [k3] at a0 a1 a2 b0 b1 b2
  simp only [List.getElem?_take, List.getElem?_drop] at a0 a1 a2 b0 b1 b2
  have hv := fun i => World.var?_cell hg hvar i
  have c0 : W.cell? ⟨1, 0, none⟩ = some (.string ⟨#[104, 116, 116, 112, 58, 47, 47]⟩) := by rw [hv 0, ← Array.getElem?_toList]; exact a0
  refine ⟨lt_of_cell c0, c0, ?_, ?_, ?_, ?_, ?_⟩
  · rw [hv 1, ← Array.getElem?_toList]; exact a1
  · rw [hv 2, ← Array.getElem?_toList]; exact a2
  · rw [hv 3, ← Array.getElem?_toList]; exact b0
  · rw [hv 4, ← Array.getElem?_toList]; exact b1
  · rw [hv 5, ← Array.getElem?_toList]; exact b2

theorem field_mark (a b c : Value) (W : World) : (Instr.field 103 (.agg #[a, b, c]) 0).run Tryz.prog W = .ok a W := by kernel_rfl
theorem field_secure (a b c : Value) (W : World) : (Instr.field 103 (.agg #[a, b, c]) 1).run Tryz.prog W = .ok b W := by kernel_rfl
theorem field_port (a b c : Value) (W : World) : (Instr.field 103 (.agg #[a, b, c]) 2).run Tryz.prog W = .ok c W := by kernel_rfl
def markOf (sec : Bool) : ByteArray := if sec then ⟨#[104, 116, 116, 112, 115, 58, 47, 47]⟩ else ⟨#[104, 116, 116, 112, 58, 47, 47]⟩
theorem schemeOf_yes (w : World) (h : Schemes w) :
    Calls Tryz.prog 69 #[.bool true] w fun e w' => e = .returned (.agg #[.string ⟨#[104, 116, 116, 112, 115, 58, 47, 47]⟩, .bool true, .int .i64 443]) ∧ Below w.heap.size w w' := by
  obtain ⟨hlt, h0, h1, h2, h3, h4, h5⟩ := h
  go_enter Tryz.func69, Tryz.ntmps69
  go_wp2
  (try simp only [Exit.inBlock, Exit.then])
  refine bodyPost_ret (v := .agg #[.string ⟨#[104, 116, 116, 112, 115, 58, 47, 47]⟩, .bool true, .int .i64 443]) ?_ rfl ⟨rfl, (Below.refl _ _).alloc (Nat.le_refl _) _⟩
  simp [results, Tryz.f69, go_sem]
theorem schemeOf_no (w : World) (h : Schemes w) :
    Calls Tryz.prog 69 #[.bool false] w fun e w' => e = .returned (.agg #[.string ⟨#[104, 116, 116, 112, 58, 47, 47]⟩, .bool false, .int .i64 80]) ∧ Below w.heap.size w w' := by
  obtain ⟨hlt, h0, h1, h2, h3, h4, h5⟩ := h
  go_enter Tryz.func69, Tryz.ntmps69
  go_wp2
  (try simp only [Exit.inBlock, Exit.then])
  refine bodyPost_ret (v := .agg #[.string ⟨#[104, 116, 116, 112, 58, 47, 47]⟩, .bool false, .int .i64 80]) ?_ rfl ⟨rfl, (Below.refl _ _).alloc (Nat.le_refl _) _⟩
  simp [results, Tryz.f69, go_sem]
theorem schemeOf_any (sec : Bool) (w : World) (h : Schemes w) :
    Calls Tryz.prog 69 #[.bool sec] w fun e w' => e = .returned (.agg #[.string (markOf sec), .bool sec, .int .i64 (portI sec)]) ∧ Below w.heap.size w w' := by
  cases sec
  · exact schemeOf_no w h
  · exact schemeOf_yes w h
end Go.Proofs.YtoblpjknnchlmabGreatDoor

/- The library's contracts that are leant on, laid at this program's numbers. -/
namespace Go.Proofs.YtoblpjknnchlmabGreatDoor
open Go.Shelf Go.RowKit
def laysM171_ren : Go.Shelf.Ren := ⟨fun | 171 => 70 | 243 => 96 | 246 => 127 | 283 => 149 | 284 => 150 | 285 => 151 | 286 => 152 | 129 => 140 | 317 => 162 | 318 => 163 | 319 => 164 | 320 => 165 | 337 => 170 | 338 => 171 | n => n, fun | 3 => 3 | 9 => 9 | 2 => 2 | 4 => 4 | 171 => 166 | 0 => 0 | 53 => 155 | 37 => 70 | 5 => 5 | 173 => 168 | 212 => 182 | 51 => 153 | 20 => 20 | 213 => 183 | 46 => 80 | 232 => 195 | 233 => 196 | n => n, fun | 17 => 6 | 18 => 7 | 19 => 8 | n => n⟩
theorem laysM171 : Go.Proofs.LaysM.n171 Tryz.prog laysM171_ren := {
  mixed := by kernel_rfl
  f129 := Tryz.func140.trans (congrArg some (by kernel_rfl))
  f171 := Tryz.func70.trans (congrArg some (by kernel_rfl))
  f243 := Tryz.func96.trans (congrArg some (by kernel_rfl))
  f246 := Tryz.func127.trans (congrArg some (by kernel_rfl))
  f283 := Tryz.func149.trans (congrArg some (by kernel_rfl))
  f284 := Tryz.func150.trans (congrArg some (by kernel_rfl))
  f285 := Tryz.func151.trans (congrArg some (by kernel_rfl))
  f286 := Tryz.func152.trans (congrArg some (by kernel_rfl))
  f317 := Tryz.func162.trans (congrArg some (by kernel_rfl))
  f318 := Tryz.func163.trans (congrArg some (by kernel_rfl))
  f319 := Tryz.func164.trans (congrArg some (by kernel_rfl))
  f320 := Tryz.func165.trans (congrArg some (by kernel_rfl))
  f337 := Tryz.func170.trans (congrArg some (by kernel_rfl))
  f338 := Tryz.func171.trans (congrArg some (by kernel_rfl))
  t0 := Tryz.underlying0
  a0 := Tryz.isAgg0
  z0 := Tryz.sizeOf0
  v0 := Tryz.zeroValue0
  t2 := Tryz.underlying2
  a2 := Tryz.isAgg2
  z2 := Tryz.sizeOf2
  v2 := Tryz.zeroValue2
  t3 := Tryz.underlying3
  a3 := Tryz.isAgg3
  z3 := Tryz.sizeOf3
  v3 := Tryz.zeroValue3
  t4 := Tryz.underlying4
  a4 := Tryz.isAgg4
  z4 := Tryz.sizeOf4
  v4 := Tryz.zeroValue4
  t5 := Tryz.underlying5
  a5 := Tryz.isAgg5
  z5 := Tryz.sizeOf5
  v5 := Tryz.zeroValue5
  t9 := Tryz.underlying9
  a9 := Tryz.isAgg9
  z9 := Tryz.sizeOf9
  v9 := Tryz.zeroValue9
  t20 := Tryz.underlying20
  a20 := Tryz.isAgg20
  z20 := Tryz.sizeOf20
  v20 := Tryz.zeroValue20
  t37 := Tryz.underlying70
  a37 := Tryz.isAgg70
  z37 := Tryz.sizeOf70
  v37 := Tryz.zeroValue70
  t46 := Tryz.underlying80
  a46 := Tryz.isAgg80
  z46 := Tryz.sizeOf80
  v46 := Tryz.zeroValue80
  t51 := Tryz.underlying153
  a51 := Tryz.isAgg153
  z51 := Tryz.sizeOf153
  v51 := Tryz.zeroValue153
  t53 := Tryz.underlying155
  a53 := Tryz.isAgg155
  z53 := Tryz.sizeOf155
  v53 := Tryz.zeroValue155
  t171 := Tryz.underlying166
  a171 := Tryz.isAgg166
  z171 := Tryz.sizeOf166
  v171 := Tryz.zeroValue166
  t173 := Tryz.underlying168
  a173 := Tryz.isAgg168
  z173 := Tryz.sizeOf168
  v173 := Tryz.zeroValue168
  t212 := Tryz.underlying182
  a212 := Tryz.isAgg182
  z212 := Tryz.sizeOf182
  v212 := Tryz.zeroValue182
  t213 := Tryz.underlying183
  a213 := Tryz.isAgg183
  z213 := Tryz.sizeOf183
  t232 := Tryz.underlying195
  a232 := Tryz.isAgg195
  z232 := Tryz.sizeOf195
  v232 := Tryz.zeroValue195
  t233 := Tryz.underlying196
  a233 := Tryz.isAgg196
  z233 := Tryz.sizeOf196
  v233 := Tryz.zeroValue196
  g17 := by kernel_rfl
  g18 := by kernel_rfl
  g19 := by kernel_rfl
  i0 := by kernel_rfl
  i2 := by kernel_rfl
  i3 := by kernel_rfl
  i4 := by kernel_rfl
  i5 := by kernel_rfl
  i9 := by kernel_rfl
  i20 := by kernel_rfl
  i37 := by kernel_rfl
  i46 := by kernel_rfl
  i51 := by kernel_rfl
  i53 := by kernel_rfl
  i171 := by kernel_rfl
  i173 := by kernel_rfl
  i212 := by kernel_rfl
  i232 := by kernel_rfl
  i233 := by kernel_rfl
  m17 := by kernel_rfl
  m18 := by kernel_rfl
  m19 := by kernel_rfl }
theorem itoa_any (n : Int) (h0 : -9223372036854775808 ≤ n) (h1 : n ≤ 9223372036854775807) (w : World) (htab : Lib.TabIs Tryz.prog w "internal/strconv.uint64pow10" .u64 Lib.pow10Tab) :
    Calls Tryz.prog 70 #[.int .i64 n] w fun e w' => e = .returned (.string (bs (Lib.itoa n))) ∧ Below w.heap.size w w' := by
  refine (Any.strconv_Itoa laysM171 n h0 h1 w htab).mono ?_
  rintro e w' ⟨rfl, k, os, rfl⟩
  exact ⟨rfl, Lib.below_grow _ w (Nat.le_refl _) k os⟩
end Go.Proofs.YtoblpjknnchlmabGreatDoor

/- An origin as text, by the program. -/
namespace Go.Proofs.YtoblpjknnchlmabGreatDoor
open Go.RowKit

/-- What a text of an origin leans on: the two tables. -/
structure Env (w : World) : Prop where
  sch : Schemes w
  tab : Lib.TabIs Tryz.prog w "internal/strconv.uint64pow10" .u64 Lib.pow10Tab
theorem Env.below {w w' : World} (h : Env w) {H : Nat} (hb : Below H w w') (hH : w.heap.size ≤ H) : Env w' :=
  ⟨h.sch.below hb hH, Joins.tab_stays (g := 6) (by kernel_rfl) h.tab hb hH⟩
def tailT (sec : Bool) (port : Int) : List UInt8 := if port = portI sec then [] else 58 :: Lib.itoa port
def textL (sec : Bool) (host : List UInt8) (port : Int) : List UInt8 := (markOf sec).data.toList ++ host ++ tailT sec port
structure TKeep (w W : World) : Prop where
  env : Env W
  bel : Below w.heap.size w W
  siz : w.heap.size < W.heap.size

theorem TKeep.step {w W W' : World} (h : TKeep w W) (hb : Below W.heap.size W W') : TKeep w W' :=
  ⟨h.env.below hb (Nat.le_refl _), h.bel.trans (hb.mono h.bel.size), Nat.lt_of_lt_of_le h.siz hb.size⟩

theorem keepQ {w W W' : World} {a b : Nat} {x y z : Value} (h : W.cell? ⟨a, 1, none⟩ = some x ∧ W.cell? ⟨a, 2, none⟩ = some y ∧ W.cell? ⟨b, 0, none⟩ = some z ∧ TKeep w W) (_hab : a < b) (hb : Below W.heap.size W W') :
    W'.cell? ⟨a, 1, none⟩ = some x ∧ W'.cell? ⟨a, 2, none⟩ = some y ∧ W'.cell? ⟨b, 0, none⟩ = some z ∧ TKeep w W' := by
  obtain ⟨h1, h2, h3, h4⟩ := h
  exact ⟨(hb.cell (p := ⟨a, 1, none⟩) (lt_of_cell h1)).trans h1, (hb.cell (p := ⟨a, 2, none⟩) (lt_of_cell h2)).trans h2, (hb.cell (p := ⟨b, 0, none⟩) (lt_of_cell h3)).trans h3, h4.step hb⟩
set_option maxRecDepth 100000 in
set_option maxHeartbeats 1000000 in
theorem text_any (sec : Bool) (host : ByteArray) (port : Int) (hs : host.size ≤ 4000) (h0 : -9223372036854775808 ≤ port) (h1 : port ≤ 9223372036854775807) (w : World) (h : Env w) :
    Calls Tryz.prog 39 #[.agg #[.bool sec, .string host, .int .i64 port]] w fun e w' => e = .returned (.string (bs (textL sec host.data.toList port))) ∧ Below w.heap.size w w' := by
  have hS : TKeep w (w.alloc (.cells #[.bool sec, .string host, .int .i64 port] 23)) := by
    have hb : Below w.heap.size w (w.alloc (.cells #[.bool sec, .string host, .int .i64 port] 23)) := (Below.refl _ _).alloc (Nat.le_refl _) _
    exact ⟨h.below hb (Nat.le_refl _), hb, by simp⟩
  obtain ⟨mk, HM⟩ : ∃ mk : ByteArray, Hid (markOf sec = mk) := ⟨_, rfl⟩
  have hmk : mk.size ≤ 8 := by rw [← HM.out]; cases sec <;> decide
  obtain ⟨pt, HP⟩ : ∃ pt : Int, Hid (portI sec = pt) := ⟨_, rfl⟩
  by_cases hp : port = pt
  · subst hp
    have HR : Hid (bs (textL sec host.data.toList port) = mk ++ host) := by
      show _ = _
      unfold textL tailT
      rw [HM.out, HP.out, if_pos rfl, List.append_nil, bs_append, bs_self, bs_self]
    go_enter Tryz.func39, Tryz.ntmps39
    go_wp2_with fail
    refine (schemeOf_any sec _ hS.env.sch).mono ?_
    rintro e w1 ⟨rfl, hb1⟩
    rw [HM.out, HP.out]
    have hT := hS.step hb1
    have k1 : ∀ o, (w1.alloc o).cell? ⟨w.heap.size, 1, none⟩ = some (.string host) := fun o => (World.cell?_alloc_lt (w := w1) (o := o) (a := ⟨w.heap.size, 1, none⟩) (h := hT.siz)).trans ((hb1.cell (p := ⟨w.heap.size, 1, none⟩) (by simp)).trans (cells_new _ _ _ 1))
    have k2 : ∀ o, (w1.alloc o).cell? ⟨w.heap.size, 2, none⟩ = some (.int .i64 port) := fun o => (World.cell?_alloc_lt (w := w1) (o := o) (a := ⟨w.heap.size, 2, none⟩) (h := hT.siz)).trans ((hb1.cell (p := ⟨w.heap.size, 2, none⟩) (by simp)).trans (cells_new _ _ _ 2))
    go_wp2
    go_ret
    exact ⟨ret_str HR.out.symm, hT.bel.trans ((Below.refl _ _).alloc (Nat.le_refl _) _ |>.mono hT.bel.size)⟩
  · have hpq : (port == pt) = false := beq_eq_false_iff_ne.2 hp
    have HR : Hid (bs (textL sec host.data.toList port) = mk ++ host ++ bs [58] ++ bs (Lib.itoa port)) := by
      show _ = _
      unfold textL tailT
      rw [HM.out, HP.out, if_neg hp, bs_append, bs_append, bs_self, bs_self, ← List.singleton_append, bs_append]
      simp only [ByteArray.append_assoc]
    obtain ⟨tx, HTX⟩ : ∃ tx : ByteArray, Hid (bs (Lib.itoa port) = tx) := ⟨_, rfl⟩
    have htx : tx.size ≤ 21 := by rw [← HTX.out, bs_size]; exact Lib.itoa_length_le port h0 h1
    have a1 := fun W => run_string_add_sum (P := Tryz.prog) W mk host (by omega)
    have a2 := fun W => run_string_add_sum (P := Tryz.prog) W (mk ++ host) ⟨#[58]⟩ (by simp [ByteArray.size_append]; have : (⟨#[58]⟩ : ByteArray).size = 1 := rfl; omega)
    have a3 := fun W => run_string_add_sum (P := Tryz.prog) W (mk ++ host ++ ⟨#[58]⟩) tx (by simp only [ByteArray.size_append]; have : (⟨#[58]⟩ : ByteArray).size = 1 := rfl; omega)
    go_enter Tryz.func39, Tryz.ntmps39
    go_wp2_with fail
    refine (schemeOf_any sec _ hS.env.sch).mono ?_
    rintro e w1 ⟨rfl, hb1⟩
    rw [HM.out, HP.out]
    have hT := hS.step hb1
    have k1 : ∀ o, (w1.alloc o).cell? ⟨w.heap.size, 1, none⟩ = some (.string host) := fun o => (World.cell?_alloc_lt (w := w1) (o := o) (a := ⟨w.heap.size, 1, none⟩) (h := hT.siz)).trans ((hb1.cell (p := ⟨w.heap.size, 1, none⟩) (by simp)).trans (cells_new _ _ _ 1))
    have k2 : ∀ o, (w1.alloc o).cell? ⟨w.heap.size, 2, none⟩ = some (.int .i64 port) := fun o => (World.cell?_alloc_lt (w := w1) (o := o) (a := ⟨w.heap.size, 2, none⟩) (h := hT.siz)).trans ((hb1.cell (p := ⟨w.heap.size, 2, none⟩) (by simp)).trans (cells_new _ _ _ 2))
    go_wp2
    have hQ : (w1.alloc (.cells #[.string mk, .bool sec, .int .i64 pt] 103)).drew.cell? ⟨w.heap.size, 1, none⟩ = some (.string host) ∧ (w1.alloc (.cells #[.string mk, .bool sec, .int .i64 pt] 103)).drew.cell? ⟨w.heap.size, 2, none⟩ = some (.int .i64 port) ∧ (w1.alloc (.cells #[.string mk, .bool sec, .int .i64 pt] 103)).drew.cell? ⟨w1.heap.size, 0, none⟩ = some (.string mk) ∧ TKeep w (w1.alloc (.cells #[.string mk, .bool sec, .int .i64 pt] 103)).drew :=
      ⟨k1 _, k2 _, cells_new _ _ _ 0, hT.step (((Below.refl _ _).alloc (Nat.le_refl _) _).drew)⟩
    go_region_held3 (fun W => W.cell? ⟨w.heap.size, 1, none⟩ = some (.string host) ∧ W.cell? ⟨w.heap.size, 2, none⟩ = some (.int .i64 port) ∧ W.cell? ⟨w1.heap.size, 0, none⟩ = some (.string mk) ∧ TKeep w W) (first | assumption | exact hQ) (
      (go_at_call 70; refine (itoa_any port h0 h1 _ (TKeep.env (And.right (And.right (And.right (by assumption))))).tab).mono ?_; rintro e w3 ⟨rfl, hb3⟩; rw [HTX.out]; have hQ3 := keepQ (a := w.heap.size) (b := w1.heap.size) (by assumption) hT.siz hb3))
    go_wp2
    go_ret
    exact ⟨ret_str (by rw [HR.out, HTX.out]; rfl), hQ3.2.2.2.bel⟩
end Go.Proofs.YtoblpjknnchlmabGreatDoor

/- May: whether an answer may be seen by a request's origin, by the program. -/
namespace Go.Proofs.YtoblpjknnchlmabGreatDoor
open Go.RowKit

set_option maxRecDepth 100000 in
set_option maxHeartbeats 4000000 in
theorem may9_any (ps : List Par) (hf : Few9 ps) (a0 : Option Addr) (len cap b off : Nat) (pt fp up : Int) (fs us : Bool) (fh uh pa qu me bo : ByteArray) (ra : Option Addr) (rl rc : Nat) (wi : Bool) (hfh : fh.size ≤ 4000) (h0 : -9223372036854775808 ≤ fp) (h1 : fp ≤ 9223372036854775807) (w : World) (he : Env w) (hx : Pars w a0 len b off ps) :
    Calls Tryz.prog 19 #[.agg #[.int .i64 pt, .bool fs, .string fh, .int .i64 fp, .bool us, .string uh, .int .i64 up, .string pa, .string qu, .string me, .slice ra rl rc, .bool wi, .string bo], .slice a0 len cap] w fun e w' => e = .returned (.bool (mayL wi (textL fs fh.data.toList fp) ps)) ∧ Below w.heap.size w w' := by
  obtain ⟨x, HXE⟩ : ∃ x, Hid (bs (fieldT oN ps) = x) := ⟨_, rfl⟩
  obtain ⟨c, HCE⟩ : ∃ c, Hid (bs (fieldT cN ps) = c) := ⟨_, rfl⟩
  obtain ⟨t, HTE⟩ : ∃ t, Hid (bs (textL fs fh.data.toList fp) = t) := ⟨_, rfl⟩
  have HA : Hid (mayL wi (textL fs fh.data.toList fp) ps = mayB wi x t c) := by show _ = _; rw [mayL_is, HXE.out, HCE.out, HTE.out]
  have HQ : Hid (BoxQ 28 w #[.int .i64 pt, .bool fs, .string fh, .int .i64 fp, .bool us, .string uh, .int .i64 up, .string pa, .string qu, .string me, .slice ra rl rc, .bool wi, .string bo] (w.alloc (.cells #[.int .i64 pt, .bool fs, .string fh, .int .i64 fp, .bool us, .string uh, .int .i64 up, .string pa, .string qu, .string me, .slice ra rl rc, .bool wi, .string bo] 28))) := BoxQ.new _ _ _
  have HGO : Hid (∀ W, Below w.heap.size w W → ∃ f : Bool, Calls Tryz.prog 16 #[.slice a0 len cap, .string ⟨#[65, 99, 99, 101, 115, 115, 45, 67, 111, 110, 116, 114, 111, 108, 45, 65, 108, 108, 111, 119, 45, 79, 114, 105, 103, 105, 110]⟩] W fun e w' => e = .returned (.tuple #[.string x, .bool f]) ∧ Below W.heap.size W w') := fun W hW => ⟨_, by
    have := get9_any ps hf ⟨#[65, 99, 99, 101, 115, 115, 45, 67, 111, 110, 116, 114, 111, 108, 45, 65, 108, 108, 111, 119, 45, 79, 114, 105, 103, 105, 110]⟩ (by decide) a0 len cap b off W (hx.below hW)
    rw [← oN_is, HXE.out] at this
    exact this⟩
  have HGC : Hid (∀ W, Below w.heap.size w W → ∃ f : Bool, Calls Tryz.prog 16 #[.slice a0 len cap, .string ⟨#[65, 99, 99, 101, 115, 115, 45, 67, 111, 110, 116, 114, 111, 108, 45, 65, 108, 108, 111, 119, 45, 67, 114, 101, 100, 101, 110, 116, 105, 97, 108, 115]⟩] W fun e w' => e = .returned (.tuple #[.string c, .bool f]) ∧ Below W.heap.size W w') := fun W hW => ⟨_, by
    have := get9_any ps hf ⟨#[65, 99, 99, 101, 115, 115, 45, 67, 111, 110, 116, 114, 111, 108, 45, 65, 108, 108, 111, 119, 45, 67, 114, 101, 100, 101, 110, 116, 105, 97, 108, 115]⟩ (by decide) a0 len cap b off W (hx.below hW)
    rw [← cN_is, HCE.out] at this
    exact this⟩
  have HGT : Hid (∀ W, Below w.heap.size w W → Calls Tryz.prog 39 #[.agg #[.bool fs, .string fh, .int .i64 fp]] W fun e w' => e = .returned (.string t) ∧ Below W.heap.size W w') := fun W hW => by
    have := text_any fs fh fp hfh h0 h1 W (he.below hW (Nat.le_refl _))
    rw [HTE.out] at this
    exact this
  clear hf hx he HXE HCE HTE h0 h1 hfh
  obtain ⟨q, HQ1⟩ : ∃ q, Hid ((x.toList == [42]) = q) := ⟨_, rfl⟩
  obtain ⟨r, HQ2⟩ : ∃ r, Hid ((x.toList == t.toList) = r) := ⟨_, rfl⟩
  have q1 : (x.toList == [42]) = q := HQ1.out
  have q2 : (x.toList == t.toList) = r := HQ2.out
  have HB : Hid (mayB wi x t c = (!wi && q || (r && (!wi || c.toList == [116, 114, 117, 101])))) := by show _ = _; unfold mayB; rw [q1, q2]
  go_enter Tryz.func19, Tryz.ntmps19
  go_wp2_with fail
  obtain ⟨f, hg⟩ := HGO.out _ HQ.out.bel
  refine hg.mono ?_
  rintro e w1 ⟨rfl, hb1⟩
  have HQ1' : Hid (BoxQ 28 w #[.int .i64 pt, .bool fs, .string fh, .int .i64 fp, .bool us, .string uh, .int .i64 up, .string pa, .string qu, .string me, .slice ra rl rc, .bool wi, .string bo] w1) := HQ.out.step hb1
  clear hg hb1 HQ HGO
  have c1 := HQ1'.out.at 1 _ rfl
  have c2 := HQ1'.out.at 2 _ rfl
  have c3 := HQ1'.out.at 3 _ rfl
  have c11 := HQ1'.out.at 11 _ rfl
  cases wi
  · cases q
    · go_wp2_with fail
      obtain ⟨f2, hg⟩ := HGC.out _ HQ1'.out.bel
      refine hg.mono ?_
      rintro e w2 ⟨rfl, hb2⟩
      have HQ2' : Hid (BoxQ 28 w #[.int .i64 pt, .bool fs, .string fh, .int .i64 fp, .bool us, .string uh, .int .i64 up, .string pa, .string qu, .string me, .slice ra rl rc, .bool false, .string bo] w2) := HQ1'.out.step hb2
      clear hg hb2 c1 c2 c3 c11
      have c1 := HQ2'.out.at 1 _ rfl
      have c2 := HQ2'.out.at 2 _ rfl
      have c3 := HQ2'.out.at 3 _ rfl
      have c11 := HQ2'.out.at 11 _ rfl
      go_wp2_with fail
      refine (HGT.out _ HQ2'.out.bel).mono ?_
      rintro e w3 ⟨rfl, hb3⟩
      have HQ3' : Hid (BoxQ 28 w #[.int .i64 pt, .bool fs, .string fh, .int .i64 fp, .bool us, .string uh, .int .i64 up, .string pa, .string qu, .string me, .slice ra rl rc, .bool false, .string bo] w3) := HQ2'.out.step hb3
      clear hb3 c1 c2 c3 c11
      have c11 := HQ3'.out.at 11 _ rfl
      cases r
      · go_wp2
        go_ret
        exact ⟨ret_bool (by rw [HA.out, HB.out]; rfl), HQ3'.out.bel⟩
      · go_wp2
        go_ret
        exact ⟨ret_bool (by rw [HA.out, HB.out]; rfl), HQ3'.out.bel⟩
    · go_wp2
      go_ret
      exact ⟨ret_bool (by rw [HA.out, HB.out]; rfl), HQ1'.out.bel⟩
  · go_wp2_with fail
    obtain ⟨f2, hg⟩ := HGC.out _ HQ1'.out.bel
    refine hg.mono ?_
    rintro e w2 ⟨rfl, hb2⟩
    have HQ2' : Hid (BoxQ 28 w #[.int .i64 pt, .bool fs, .string fh, .int .i64 fp, .bool us, .string uh, .int .i64 up, .string pa, .string qu, .string me, .slice ra rl rc, .bool true, .string bo] w2) := HQ1'.out.step hb2
    clear hg hb2 c1 c2 c3 c11
    have c1 := HQ2'.out.at 1 _ rfl
    have c2 := HQ2'.out.at 2 _ rfl
    have c3 := HQ2'.out.at 3 _ rfl
    have c11 := HQ2'.out.at 11 _ rfl
    go_wp2_with fail
    refine (HGT.out _ HQ2'.out.bel).mono ?_
    rintro e w3 ⟨rfl, hb3⟩
    have HQ3' : Hid (BoxQ 28 w #[.int .i64 pt, .bool fs, .string fh, .int .i64 fp, .bool us, .string uh, .int .i64 up, .string pa, .string qu, .string me, .slice ra rl rc, .bool true, .string bo] w3) := HQ2'.out.step hb3
    clear hb3 c1 c2 c3 c11
    have c11 := HQ3'.out.at 11 _ rfl
    cases r
    · go_wp2
      go_ret
      exact ⟨ret_bool (by rw [HA.out, HB.out]; cases q <;> rfl), HQ3'.out.bel⟩
    · go_wp2
      go_ret
      exact ⟨ret_bool (by rw [HA.out, HB.out]; cases q <;> simp), HQ3'.out.bel⟩
end Go.Proofs.YtoblpjknnchlmabGreatDoor

/- A number of seconds, by the program. -/
namespace Go.Proofs.YtoblpjknnchlmabGreatDoor
open Go.RowKit

theorem empty_of {s : ByteArray} (h : s.size = 0) : s = ⟨#[]⟩ := by
  apply ByteArray.ext
  exact Array.eq_empty_of_size_eq_zero h
theorem not_empty {s : ByteArray} (h : s.size ≠ 0) : (s.toList == ([] : List UInt8)) = false := by
  rw [beq_eq_false_iff_ne]
  intro e
  have h5 : s.data.toList = [] := by
    rw [← ByteArray.toList_eq]
    exact e
  have h6 : s.data.toList.length = s.size := Array.length_toList
  rw [h5] at h6
  exact h h6.symm
theorem secL_empty : secL (⟨#[]⟩ : ByteArray).data.toList = none := rfl
theorem secL_none (s : ByteArray) (h : runL digB s.data.toList < s.size) : secL s.data.toList = none := by
  unfold secL
  rw [if_pos]
  right
  have h2 := runL_all digB s.data.toList
  have h3 : s.data.toList.length = s.size := Array.length_toList
  cases h4 : s.data.toList.all digB
  · rfl
  · have := h2.2 h4
    omega
theorem secL_some (s : ByteArray) (h0 : s.size ≠ 0) (h : ¬ runL digB s.data.toList < s.size) : secL s.data.toList = some (secN 0 s.data.toList) ∧ s.data.toList.all digB = true := by
  have h2 := runL_all digB s.data.toList
  have h3 : s.data.toList.length = s.size := Array.length_toList
  have h4 := runL_le digB s.data.toList
  have h5 : s.data.toList.all digB = true := h2.1 (by omega)
  refine ⟨?_, h5⟩
  unfold secL
  rw [if_neg]
  rintro (h6 | h6)
  · rw [h6] at h3
    exact h0 h3.symm
  · rw [h5] at h6
    cases h6
theorem secStep_int (n : Nat) (c : UInt8) (h : digB c = true) (x : Int) (hx : x = (n : Int)) : ((secStep n c : Nat) : Int) = min (10 * x + ((c.toNat : Int) - 48)) 2147483648 := by
  subst hx
  have h1 := of_decide_eq_true h
  unfold secStep
  omega
/-- What it answers: a number, or ErrForm. -/
def SecAns (s : ByteArray) (e : Ending) : Prop :=
  (∃ n : Nat, secL s.data.toList = some n ∧ n ≤ 2147483648 ∧ e = .returned (.tuple #[.int .i64 (n : Int), .nilIface])) ∨ (secL s.data.toList = none ∧ e = .returned (.tuple #[.int .i64 0, .iface 56 (.int .i64 3)]))
set_option maxRecDepth 100000 in
set_option maxHeartbeats 1000000 in
theorem seconds_any (s : ByteArray) (hs : s.size ≤ 20000) (w : World) :
    Calls Tryz.prog 40 #[.string s] w fun e w' => SecAns s e ∧ w' = w := by
  by_cases h0 : s.size = 0
  · obtain rfl := empty_of h0
    have HA : Hid (secL (⟨#[]⟩ : ByteArray).data.toList = none) := secL_empty
    go_enter Tryz.func40, Tryz.ntmps40
    go_wp2
    go_ret2
    exact ⟨.inr ⟨HA, rfl⟩, rfl⟩
  · have hne := not_empty h0
    by_cases hr : runL digB s.data.toList < s.size
    · have HA : Hid (secL s.data.toList = none) := secL_none s hr
      obtain ⟨n, HN, hn⟩ : ∃ n : Nat, Hid (runL digB s.data.toList = n) ∧ n < s.size := ⟨_, rfl, hr⟩
      clear hr h0
      go_enter Tryz.func40, Tryz.ntmps40
      go_wp2_with (go_at_call 56; refine (run_any _ _ kind_digit s (by omega) _).mono ?_; rintro e w' ⟨rfl, hw⟩; obtain rfl := hw.symm; rw [HN.out])
      go_ret2
      exact ⟨.inr ⟨HA, rfl⟩, rfl⟩
    · obtain ⟨hsome, hall⟩ := secL_some s h0 hr
      have HA : Hid (secL s.data.toList = some (secN 0 s.data.toList)) := hsome
      have HL : Hid (s.data.toList.all digB = true) := hall
      have HN : Hid (runL digB s.data.toList = s.size) := by
        show _ = _
        have h3 : s.data.toList.length = s.size := Array.length_toList
        rw [(runL_all digB s.data.toList).2 hall, h3]
      clear hsome hall hr h0
      go_enter Tryz.func40, Tryz.ntmps40
      go_wp2_with (go_at_call 56; refine (run_any _ _ kind_digit s (by omega) _).mono ?_; rintro e w' ⟨rfl, hw⟩; obtain rfl := hw.symm; rw [HN.out])
      go_loop [4, 18] (fun v i => ∃ (k : Nat) (x : Int), k ≤ s.size ∧ i = .int .i64 k ∧ v = .int .i64 x ∧ 0 ≤ x ∧ x ≤ 2147483648 ∧ Hid (x = ((secN 0 (s.data.toList.take k) : Nat) : Int))) (fun _ i => s.size - (intOf i).toNat)
      case atStart => exact ⟨0, 0, Nat.zero_le _, rfl, rfl, by omega, by omega, rfl⟩
      case round =>
        obtain ⟨k, x, hk, rfl, rfl, hx0, hx1, HX⟩ := hrel
        by_cases hlt : k < s.size
        · obtain ⟨c, hcd⟩ : ∃ c : UInt8, s[k] = c := ⟨_, rfl⟩
          have hd : digB c = true := by
            refine List.all_eq_true.1 HL.out c ?_
            rw [← hcd]
            exact List.getElem_mem (l := s.data.toList) (by simpa using hlt)
          have hc1 : 48 ≤ (c.toNat : Int) := by have := of_decide_eq_true hd; omega
          have hc2 : (c.toNat : Int) ≤ 57 := by have := of_decide_eq_true hd; omega
          have HS : Hid (((secN 0 (s.data.toList.take (k + 1)) : Nat) : Int) = min (10 * x + ((c.toNat : Int) - 48)) 2147483648) := by
            show _ = _
            rw [take_snoc s k hlt, hcd, secN_snoc, secStep_int _ _ hd x HX.out]
          clear hd
          go_wp2
          go_round
          case rel => exact ⟨k + 1, _, by omega, by go_num, rfl, by omega, by omega, by show _ = _; rw [HS.out]⟩
          case measure => simp [intOf]; omega
        · have HE : Hid (((secN 0 s.data.toList : Nat) : Int) = x) := by
            show _ = _
            rw [HX.out, List.take_of_length_le (by simp; omega)]
          have hle := secN_le 0 s.data.toList (by omega)
          go_wp2
          go_ret2
          exact ⟨.inl ⟨_, HA, hle, by rw [HE.out]; rfl⟩, rfl⟩
end Go.Proofs.YtoblpjknnchlmabGreatDoor

/- Age: how long an answer counts, by the program. -/
namespace Go.Proofs.YtoblpjknnchlmabGreatDoor
open Go.RowKit

set_option maxRecDepth 100000 in
set_option maxHeartbeats 4000000 in
theorem age9_any (ps : List Par) (hf : Few9 ps) (a0 : Option Addr) (len cap b off : Nat) (w : World) (hx : Pars w a0 len b off ps) :
    Calls Tryz.prog 20 #[.slice a0 len cap] w fun e w' => e = .returned (.int .i64 (ageL ps)) ∧ Below w.heap.size w w' := by
  obtain ⟨x, HXE⟩ : ∃ x, Hid (bs (fieldT aN ps) = x) := ⟨_, rfl⟩
  have hxz : x.size ≤ 20000 := by rw [← HXE.out, bs_size]; exact Nat.le_trans (hf.len aN) (by decide)
  have HXL : Hid (fieldT aN ps = x.data.toList) := by show _ = _; rw [← HXE.out, bs_data]
  have hg := get9_any ps hf ⟨#[65, 99, 99, 101, 115, 115, 45, 67, 111, 110, 116, 114, 111, 108, 45, 77, 97, 120, 45, 65, 103, 101]⟩ (by decide) a0 len cap b off w hx
  rw [← aN_is, HXE.out] at hg
  clear hf hx
  go_enter Tryz.func20, Tryz.ntmps20
  go_wp2_with fail
  refine hg.mono ?_
  rintro e w1 ⟨rfl, hb1⟩
  have HB1 : Hid (Below w.heap.size w w1) := hb1
  clear hb1 hg
  go_wp2_with fail
  refine (seconds_any x hxz _).mono ?_
  rintro e w2 ⟨⟨n, hn, hn2, rfl⟩ | ⟨hn, rfl⟩, hw⟩
  · obtain rfl := hw.symm
    have HA : Hid (ageL ps = min (n : Int) 600) := by show _ = _; unfold ageL; rw [HXL.out, hn]
    clear hn
    go_wp2
    go_ret
    exact ⟨by rw [HA.out]; rfl, HB1.out⟩
  · obtain rfl := hw.symm
    have HA : Hid (ageL ps = 5) := by show _ = _; unfold ageL; rw [HXL.out, hn]
    clear hn
    go_wp2
    go_ret
    exact ⟨by rw [HA.out]; rfl, HB1.out⟩
end Go.Proofs.YtoblpjknnchlmabGreatDoor
