/- Texts of one claim, joined: each begins with what it proves. -/
import Derived.Test.YtoblpjknnchlmacGreatDoorJo1
import Derived.Test.YtoblpjknnchlmacGreatDoorJo2
import Derived.Test.YtoblpjknnchlmacGreatDoorJo4
import Derived.Shelf.Strings.Builder1
import Derived.Shelf.Strings.BuilderK
import Derived.Lib.BufferKept
import Derived.Deep.Onto
import Derived.Deep.LoopGhost
import Derived.Laws.OwnMore
import Derived.Laws.IdiomCopy
import Derived.Deep.Upon
import Derived.Below
import Derived.Shelf.SlicesQ.Load
import Derived.Deep.QuietTactic
import Derived.BigQuiet
import Derived.Deep.AppendLies
/- A text without what it ends with, by the library's own functions. -/
namespace Go.Proofs.YtoblpjknnchlmacGreatDoor
open Go.RowKit

set_option maxHeartbeats 1000000 in
theorem trim_any (s p : ByteArray) (w : World) (hs : s.size ≤ 1000000) :
    Calls Tryz.prog 19 #[.string s, .string p] w fun e w' => e = .returned (.string (bs (Lib.trimSuffix s.data.toList p.data.toList))) ∧ w' = w := by
  go_enter Tryz.func19, Tryz.ntmps19
  go_wp2
  · have h1 : p.size ≤ s.size := by assumption
    have h2 : ((s.extract (s.size - p.size) s.size).toList == p.toList) = true := by assumption
    go_ret
    refine ⟨?_, rfl⟩
    have := Lib.trimSuffix_hit s p h1 h2
    unfold bs
    rw [this]
    rfl
  · have h2 : ((s.extract (s.size - p.size) s.size).toList == p.toList) = false := by assumption
    go_ret
    refine ⟨?_, rfl⟩
    have := Lib.trimSuffix_miss s p (by rw [h2]; simp)
    unfold bs
    rw [this]
    rfl
  · have h1 : ¬ p.size ≤ s.size := by assumption
    go_ret
    refine ⟨?_, rfl⟩
    have := Lib.trimSuffix_miss s p (by simp [h1])
    unfold bs
    rw [this]
    rfl
end Go.Proofs.YtoblpjknnchlmacGreatDoor

/- strings.Builder: WriteString and String, laid at this program's numbers. -/
namespace Go.Proofs.YtoblpjknnchlmacGreatDoor
open Go.Shelf Go.RowKit
def bld_ren : Go.Shelf.Ren := ⟨fun | 166 => 56 | 169 => 57 | 240 => 85 | 276 => 109 | n => n, fun | 9 => 9 | 3 => 3 | 4 => 4 | 0 => 0 | 20 => 20 | 72 => 94 | 76 => 89 | 70 => 91 | 37 => 92 | 75 => 33 | 127 => 108 | 164 => 135 | 5 => 5 | 80 => 95 | n => n, fun | n => n⟩
theorem bld166 : Go.Proofs.Lays.n166 Tryz.prog bld_ren := {
  mixed := by kernel_rfl
  f166 := Tryz.func56.trans (congrArg some (by kernel_rfl))
  f240 := Tryz.func85.trans (congrArg some (by kernel_rfl))
  f276 := Tryz.func109.trans (congrArg some (by kernel_rfl))
  t0 := Tryz.underlying0
  a0 := Tryz.isAgg0
  z0 := Tryz.sizeOf0
  v0 := Tryz.zeroValue0
  t3 := Tryz.underlying3
  a3 := Tryz.isAgg3
  z3 := Tryz.sizeOf3
  v3 := Tryz.zeroValue3
  t4 := Tryz.underlying4
  a4 := Tryz.isAgg4
  z4 := Tryz.sizeOf4
  v4 := Tryz.zeroValue4
  t9 := Tryz.underlying9
  a9 := Tryz.isAgg9
  z9 := Tryz.sizeOf9
  v9 := Tryz.zeroValue9
  t20 := Tryz.underlying20
  a20 := Tryz.isAgg20
  z20 := Tryz.sizeOf20
  v20 := Tryz.zeroValue20
  t37 := Tryz.underlying92
  a37 := Tryz.isAgg92
  z37 := Tryz.sizeOf92
  v37 := Tryz.zeroValue92
  t70 := Tryz.underlying91
  a70 := Tryz.isAgg91
  z70 := Tryz.sizeOf91
  v70 := Tryz.zeroValue91
  t72 := Tryz.underlying94
  a72 := Tryz.isAgg94
  z72 := Tryz.sizeOf94
  v72 := Tryz.zeroValue94
  t75 := Tryz.underlying33
  a75 := Tryz.isAgg33
  z75 := Tryz.sizeOf33
  v75 := Tryz.zeroValue33
  t164 := Tryz.underlying135
  a164 := Tryz.isAgg135
  z164 := Tryz.sizeOf135
  v164 := Tryz.zeroValue135 }
theorem bld169 : Go.Proofs.Lays.n169 Tryz.prog bld_ren := {
  mixed := by kernel_rfl
  f169 := Tryz.func57.trans (congrArg some (by kernel_rfl))
  t0 := Tryz.underlying0
  a0 := Tryz.isAgg0
  z0 := Tryz.sizeOf0
  v0 := Tryz.zeroValue0
  t3 := Tryz.underlying3
  a3 := Tryz.isAgg3
  z3 := Tryz.sizeOf3
  v3 := Tryz.zeroValue3
  t9 := Tryz.underlying9
  a9 := Tryz.isAgg9
  z9 := Tryz.sizeOf9
  v9 := Tryz.zeroValue9
  t37 := Tryz.underlying92
  a37 := Tryz.isAgg92
  z37 := Tryz.sizeOf92
  v37 := Tryz.zeroValue92
  t70 := Tryz.underlying91
  a70 := Tryz.isAgg91
  z70 := Tryz.sizeOf91
  v70 := Tryz.zeroValue91
  t72 := Tryz.underlying94
  a72 := Tryz.isAgg94
  z72 := Tryz.sizeOf94
  v72 := Tryz.zeroValue94
  t127 := Tryz.underlying108
  a127 := Tryz.isAgg108
  z127 := Tryz.sizeOf108
  v127 := Tryz.zeroValue108 }
theorem bldX : Builder.Extra Tryz.prog bld_ren := {
  sizeBuilder := by kernel_rfl
  liesBuilder := by kernel_rfl
  t5 := Tryz.underlying5
  a5 := Tryz.isAgg5
  z5 := Tryz.sizeOf5
  v5 := Tryz.zeroValue5
  infoByte := by kernel_rfl
  cellsByte := by kernel_rfl
  sizeByte := by kernel_rfl
  neB5 := by decide }
theorem bytes_cells (l : List UInt8) (s : ByteArray) : Lib.byteCells l ++ Lib.strCells s = Lib.byteCells (l ++ s.data.toList) := by
  simp [Lib.byteCells, Lib.strCells]
/-- More bytes into a builder. -/
theorem bld_write (B b : Nat) (l : List UInt8) (s : ByteArray) (w : World) (h : Lib.IsBuilder 94 5 B b (Lib.byteCells l) w) (hl : l.length + s.size ≤ 100000) (hB : B ≤ w.heap.size) :
    Calls Tryz.prog 56 #[.pointer (some ⟨b, 0, none⟩), .string s] w fun e w' => e = .returned (.tuple #[.int .i64 s.size, .nilIface]) ∧ Lib.IsBuilder 94 5 B b (Lib.byteCells (l ++ s.data.toList)) w' ∧ Below B w w' := by
  refine (Any.Builder_WriteString bld166 bldX B b _ s w h (by simp [Lib.byteCells]; omega) hB).mono ?_
  rintro e w' ⟨rfl, h2, hb⟩
  refine ⟨rfl, .inr ?_, hb⟩
  rw [← bytes_cells]
  exact h2
/-- What a builder holds, as a text. -/
theorem bld_string (B b : Nat) (l : List UInt8) (w : World) (h : Lib.IsBuilder 94 5 B b (Lib.byteCells l) w) (hB : B ≤ w.heap.size) :
    Calls Tryz.prog 57 #[.pointer (some ⟨b, 0, none⟩)] w fun e w' => e = .returned (.string (bs l)) ∧ Below B w w' := Any.Builder_String_any bld169 bldX B b l w h hB
end Go.Proofs.YtoblpjknnchlmacGreatDoor

/- strings.Builder: texts that are written leave all else as it lay. -/
namespace Go.Proofs.YtoblpjknnchlmacGreatDoor
open Go.Shelf Go.RowKit
/-- A builder at block b, its bytes, all among the blocks from B on. -/
def Built (w : World) (B b : Nat) (l : List UInt8) : Prop := Lib.IsBuilderF 94 5 B b (Lib.byteCells l) w
theorem builtAt_below {T e : TypeId} {B b : Nat} {p : Value} {l : List Value} {w w' : World} (h : Lib.BuilderAtF T e B b p l w) (hb : Below w.heap.size w w') : Lib.BuilderAtF T e B b p l w' := by
  have old : ∀ (k : Nat) (o : Obj), w.heap[k]? = some o → w'.heap[k]? = some o := fun k o hk => by
    rw [hb.block k (Array.getElem?_eq_some_iff.1 hk).1]
    exact hk
  obtain ⟨hB, v, hv, ⟨h1, h2⟩, hne⟩ := h
  refine ⟨hB, v, old _ _ hv, ⟨h1, ?_⟩, hne⟩
  rcases h2 with h2 | ⟨g, cap, cur, fz, e1, e2, e3, e4⟩
  · exact .inl h2
  · exact .inr ⟨g, cap, cur, fz, e1, e2, old _ _ e3, e4⟩
theorem Built.below {w w' : World} {B b : Nat} {l : List UInt8} (h : Built w B b l) (hb : Below w.heap.size w w') : Built w' B b l :=
  h.elim (fun x => .inl (builtAt_below x hb)) (fun x => .inr (builtAt_below x hb))
theorem Built.lt {w : World} {B b : Nat} {l : List UInt8} (h : Built w B b l) : B ≤ b ∧ b < w.heap.size := h.elim (fun x => ⟨x.1, x.lt⟩) (fun x => ⟨x.1, x.lt⟩)
/-- More bytes into a builder. -/
theorem bdk_write (B b : Nat) (l : List UInt8) (s : ByteArray) (w : World) (h : Built w B b l) (hl : l.length + s.size ≤ 10000000) (hB : B ≤ w.heap.size) :
    Calls Tryz.prog 56 #[.pointer (some ⟨b, 0, none⟩), .string s] w fun e w' => e = .returned (.tuple #[.int .i64 s.size, .nilIface]) ∧ Built w' B b (l ++ s.data.toList) ∧ Below B w w' ∧ Lib.OthersKept 5 (some b) w w' := by
  refine (Any.Builder_WriteString_k bld166 bldX B b _ s w h (by simp [Lib.byteCells]; omega) hB).mono ?_
  rintro e w' ⟨rfl, h2, hb, ho⟩
  refine ⟨rfl, .inr ?_, hb, ho⟩
  rw [← bytes_cells]
  exact h2
/-- What a builder holds, as a text. -/
theorem bdk_string (B b : Nat) (l : List UInt8) (w : World) (h : Built w B b l) (hB : B ≤ w.heap.size) :
    Calls Tryz.prog 57 #[.pointer (some ⟨b, 0, none⟩)] w fun e w' => e = .returned (.string (bs l)) ∧ Below B w w' := by
  refine (Any.Builder_String_any_k bld169 bldX B b l w h hB).mono ?_
  rintro e w' ⟨rfl, _, hb, _⟩
  exact ⟨rfl, hb⟩
/-- A block that is neither the builder's nor a row of bytes. -/
theorem kept_cells {w w' : World} {b k : Nat} {cs : Array Value} {T : TypeId} {fz : Nat × Nat} (h : Lib.OthersKept 5 (some b) w w') (hk : w.heap[k]? = some (.cells cs T fz)) (hT : T ≠ 5) (hb : k ≠ b) : w'.heap[k]? = some (.cells cs T fz) :=
  h k _ hk (by simpa using hb) (fun c f e => hT (by injection e))
theorem cells_of {w : World} {k : Nat} {cs : Array Value} {T : TypeId} {fz : Nat × Nat} (hk : w.heap[k]? = some (.cells cs T fz)) (j : Nat) (v : Value) (hj : cs[j]? = some v) : w.cell? ⟨k, j, none⟩ = some v := by
  simp [World.cell?, hk, hj]
theorem below_block {w w' : World} {k : Nat} {o : Obj} (hb : Below w.heap.size w w') (hk : w.heap[k]? = some o) : w'.heap[k]? = some o := by
  rw [hb.block k (Array.getElem?_eq_some_iff.1 hk).1]
  exact hk
end Go.Proofs.YtoblpjknnchlmacGreatDoor

/- Fields: the lines of an answer, by the program. -/
namespace Go.Proofs.YtoblpjknnchlmacGreatDoor
open Go.RowKit

/-- What Fields answers. -/
def FldAns (o : Except (Option Nat) (List Par)) (B : Nat) (e : Ending) (w' : World) : Prop :=
  (∃ acc v, o = .ok acc ∧ acc.length ≤ 40 ∧ e = .returned (.tuple #[v, .nilIface]) ∧ OwnP w' B v acc) ∨
  (o = .error none ∧ e = .returned (.tuple #[.slice none 0 0, .iface 49 (.int .i64 4)])) ∨
  (∃ i g : Nat, o = .error (some i) ∧ e = .returned (.tuple #[.slice none 0 0, .iface 54 (.pointer (some ⟨g, 0, none⟩))]) ∧ w'.cell? ⟨g, 0, none⟩ = some (.int .i64 3) ∧ w'.cell? ⟨g, 1, none⟩ = some (.int .i64 (i : Int)) ∧ B ≤ g)
theorem drop_at9 {α : Type} {l : List α} {k : Nat} {x : α} (h : l[k]? = some x) : l.drop k = x :: l.drop (k + 1) := by
  obtain ⟨hl, e⟩ := List.getElem?_eq_some_iff.1 h
  rw [List.drop_eq_getElem_cons hl, e]
theorem OwnP.mono9 {w : World} {B B' : Nat} {v : Value} {ps : List Par} (h : OwnP w B v ps) (hb : B' ≤ B) : OwnP w B' v ps := World.ownsRow.mono h hb
set_option maxRecDepth 100000 in
set_option maxHeartbeats 8000000 in
theorem fields9_any (s : ByteArray) (hs : s.size ≤ 3000) (w : World) :
    Calls Tryz.prog 8 #[.string s] w fun e w' => FldAns (fieldsF s.data.toList) w.heap.size e w' ∧ Below w.heap.size w w' := by
  obtain ⟨o, HO⟩ : ∃ o, Hid (fieldsF s.data.toList = o) := ⟨_, rfl⟩
  rw [HO.out]
  go_enter Tryz.func8, Tryz.ntmps8
  go_wp2_with fail
  refine (split_one s 10 (by omega) _).mono ?_
  rintro e w1 ⟨ls, rfl, hn, hw1, hsp⟩
  have HSP : Hid (ls.map (·.data.toList) = splitL 10 s.data.toList) := hsp
  have HB1 : Hid (Below w.heap.size w w1) := by show Below _ _ _; rw [hw1]; exact (Below.refl _ _).alloc (Nat.le_refl _) _
  have HR1 : Hid (w1.heap[w.heap.size]? = some (.cells (ls.map Value.string).toArray 9 (0, 0)) ∧ w1.heap.size = w.heap.size + 1) := by show _ ∧ _; rw [hw1]; exact ⟨heap_alloc_new _ _, by simp⟩
  have HLZ : Hid (∀ l ∈ ls, l.size ≤ 3000) := fun l hl => by
    have h1 : l.data.toList ∈ splitL 10 s.data.toList := by rw [← hsp]; exact List.mem_map.2 ⟨l, hl, rfl⟩
    have h2 := splitL_lens 10 _ _ h1
    have h3 : s.data.toList.length = s.size := Array.length_toList
    have h4 : l.data.toList.length = l.size := Array.length_toList
    omega
  have HFF : Hid (fieldsF s.data.toList = runF 0 [] (ls.map (·.data.toList))) := by show _ = _; unfold fieldsF; rw [hsp]
  obtain ⟨n, HN⟩ : ∃ n, Hid (ls.length = n) := ⟨_, rfl⟩
  have hn1 : n ≤ 3001 := by have := HN.out; omega
  rw [HN.out]
  clear hw1 hsp hn
  go_wp2
  go_loopw [4, 17] (fun v i wr => ∃ (k : Nat) (acc : List Par) (a : Option Addr) (m c : Nat), k ≤ n ∧ i = .int .i64 k ∧ v = .slice a m c ∧ m ≤ 40 ∧ Hid (acc.length = m) ∧ Hid (runF 0 [] (ls.map (·.data.toList)) = runF k acc ((ls.map (·.data.toList)).drop k)) ∧ Hid (OwnP wr (w.heap.size + 1) (.slice a m c) acc ∧ Below (w.heap.size + 1) w1 wr)) (fun _ i _ => n - (intOf i).toNat)
  case atStart => exact ⟨0, [], none, 0, 0, Nat.zero_le _, rfl, rfl, by omega, rfl, rfl, ownP_nil _ _, Below.refl _ _⟩
  case round =>
    obtain ⟨k, acc, a, m, c, hk, rfl, rfl, hm, HAC, HK, HI⟩ := hrel
    have HBW : Hid (Below w.heap.size w wr) := HB1.out.trans (HI.out.2.mono (by omega))
    have HZR : Hid (w.heap.size + 1 ≤ wr.heap.size) := by have := HI.out.2.size; have := HR1.out.2; show _ ≤ _; omega
    by_cases hlt : k < n
    · have hltz : (k : Int) < (n : Int) := by omega
      obtain ⟨l, hl⟩ : ∃ l, ls[k]? = some l := ⟨ls[k]'(by have := HN.out; omega), List.getElem?_eq_getElem _⟩
      have hlz := HLZ.out l (List.mem_of_getElem? hl)
      have cl : wr.cell? ⟨w.heap.size, k, none⟩ = some (.string l) := by
        have hr : wr.heap[w.heap.size]? = some (.cells (ls.map Value.string).toArray 9 (0, 0)) := by rw [HI.out.2.block _ (by omega)]; exact HR1.out.1
        exact cells_of hr k _ (by simp [hl])
      have HD : Hid ((ls.map (·.data.toList)).drop k = l.data.toList :: (ls.map (·.data.toList)).drop (k + 1)) := drop_at9 (by rw [List.getElem?_map, hl]; rfl)
      obtain ⟨t, HT⟩ : ∃ t, Hid (bs (lineT l.data.toList) = t) := ⟨_, rfl⟩
      have htz : t.size ≤ 3000 := by
        rw [← HT.out, bs_size]
        have h4 : l.data.toList.length = l.size := Array.length_toList
        have h5 : (lineT l.data.toList).length ≤ l.data.toList.length := by
          unfold lineT Lib.trimSuffix
          split <;> simp
        omega
      have HTL : Hid (lineT l.data.toList = t.data.toList) := by show _ = _; rw [← HT.out, bs_data]
      have htr := fun W => trim_any l ⟨#[13]⟩ W (by omega)
      have e13 : bs (Lib.trimSuffix l.data.toList (⟨#[13]⟩ : ByteArray).data.toList) = t := HT.out
      rw [e13] at htr
      clear hl e13
      go_wp2_with fail
      refine (htr _).mono ?_
      rintro e w2 ⟨rfl, hw2⟩
      obtain rfl := hw2.symm
      clear htr cl
      by_cases h0 : t.size = 0
      · have HNX : Hid (runF 0 [] (ls.map (·.data.toList)) = runF (k + 1) acc ((ls.map (·.data.toList)).drop (k + 1))) := by
          show _ = _
          rw [HK.out, HD.out]
          refine runF_skip ?_
          rw [HTL.out]
          exact List.eq_nil_of_length_eq_zero (by rw [Array.length_toList]; exact h0)
        have he : t.toList.isEmpty = true := by
          rw [ByteArray.toList_eq, List.isEmpty_iff]
          exact List.eq_nil_of_length_eq_zero (by rw [Array.length_toList]; exact h0)
        go_wp2
        go_roundw
        case rel => exact ⟨k + 1, acc, a, m, c, by omega, by go_num, rfl, hm, HAC, HNX, HI.out⟩
        case measure => simp [intOf]; omega
      · have HNE : Hid (lineT l.data.toList ≠ []) := by
          show _ ≠ _
          rw [HTL.out]
          intro e
          have h4 : t.data.toList.length = t.size := Array.length_toList
          rw [e] at h4
          exact h0 h4.symm
        have he : t.toList.isEmpty = false := by
          rw [ByteArray.toList_eq, ← HTL.out, List.isEmpty_eq_false_iff]
          exact HNE.out
        go_wp2_with fail
        refine (cut_any t 58 (by omega) _).mono ?_
        rintro e w3 ⟨x, y, f, rfl, hx, hy, hcut, hb3⟩
        have HB3 : Hid (Below wr.heap.size wr w3) := hb3
        clear hb3
        cases f
        · have HEE : Hid (o = .error (some k)) := by
            show _ = _
            rw [← HO.out, HFF.out, HK.out, HD.out]
            exact runF_bad HNE.out (by rw [HTL.out]; exact lineF_none1 hcut.out)
          have HBZ : Hid (Below w.heap.size w w3) := HBW.out.trans (HB3.out.mono HBW.out.size)
          go_wp2
          go_ret2
          exact ⟨.inr (.inr ⟨k, _, HEE.out, rfl, World.cell?_alloc_mark _ _ _ _ _, World.cell?_alloc_mark _ _ _ _ _, HBZ.out.size⟩), HBZ.out.alloc HBZ.out.size _⟩
        · obtain ⟨q, HQ⟩ : ∃ q, Hid (isL x.data.toList = q) := ⟨_, rfl⟩
          have his := fun W => is_any x (by omega) W
          rw [HQ.out] at his
          go_wp2_with fail
          refine (his _).mono ?_
          rintro e w4 ⟨rfl, hw4⟩
          obtain rfl := hw4.symm
          clear his
          cases q
          · have HEE : Hid (o = .error (some k)) := by
              show _ = _
              rw [← HO.out, HFF.out, HK.out, HD.out]
              exact runF_bad HNE.out (by rw [HTL.out]; exact lineF_none2 hcut.out HQ.out)
            have HBZ : Hid (Below w.heap.size w w3) := HBW.out.trans (HB3.out.mono HBW.out.size)
            go_wp2
            go_ret2
            exact ⟨.inr (.inr ⟨k, _, HEE.out, rfl, World.cell?_alloc_mark _ _ _ _ _, World.cell?_alloc_mark _ _ _ _ _, HBZ.out.size⟩), HBZ.out.alloc HBZ.out.size _⟩
          · have HLF : Hid (lineF (lineT l.data.toList) = some (x, bs (trimW y.data.toList))) := by
              show _ = _
              rw [HTL.out, lineF_some hcut.out HQ.out, bs_self]
            by_cases h40 : m = 40
            · have HEE : Hid (o = .error none) := by
                show _ = _
                rw [← HO.out, HFF.out, HK.out, HD.out]
                exact runF_many HNE.out HLF.out (by rw [HAC.out]; exact h40)
              have HBZ : Hid (Below w.heap.size w w3) := HBW.out.trans (HB3.out.mono HBW.out.size)
              have h40z : (m : Int) = 40 := by omega
              go_wp2
              go_ret2
              exact ⟨.inr (.inl ⟨HEE.out, rfl⟩), HBZ.out⟩
            · have HNX : Hid (runF 0 [] (ls.map (·.data.toList)) = runF (k + 1) (acc ++ [(x, bs (trimW y.data.toList))]) ((ls.map (·.data.toList)).drop (k + 1))) := by
                show _ = _
                rw [HK.out, HD.out]
                exact runF_next HNE.out HLF.out (by rw [HAC.out]; exact h40)
              have h40z : ¬ (m : Int) = 40 := by omega
              have HI3 : Hid (OwnP w3 (w.heap.size + 1) (.slice a m c) acc ∧ Below (w.heap.size + 1) w1 w3) := ⟨HI.out.1.below HB3.out, HI.out.2.trans (HB3.out.mono HZR.out)⟩
              clear hcut HB3
              go_wp2_with fail
              refine (clone_any x (by omega) _).mono ?_
              rintro e w4 ⟨rfl, hb4⟩
              go_wp2_with fail
              refine (trimBoth_any y (by omega) _).mono ?_
              rintro e w5 ⟨u, rfl, hu, huz, hb5⟩
              have HU : Hid (bs (trimW y.data.toList) = u) := by show _ = _; rw [← hu.out, bs_self]
              rw [HU.out] at HNX
              go_wp2_with fail
              refine (clone_any u (by omega) _).mono ?_
              rintro e w6 ⟨rfl, hb6⟩
              have HI6 : Hid (OwnP w6 (w.heap.size + 1) (.slice a m c) acc ∧ Below (w.heap.size + 1) w1 w6 ∧ w.heap.size + 1 ≤ w6.heap.size) := by
                have hz : w.heap.size + 1 ≤ w3.heap.size := by have := HI3.out.2.size; have := HR1.out.2; omega
                have b6 := hb4.trans ((hb5.trans (hb6.mono hb5.size)).mono hb4.size)
                exact ⟨HI3.out.1.below b6, HI3.out.2.trans (b6.mono hz), Nat.le_trans hz b6.size⟩
              clear hu hb4 hb5 hb6 HI3
              go_wp2_with (at_builtin; refine wp_appp rfl _ _ rfl (w.heap.size + 1) w6 (.slice a m c) acc m rfl HI6.out.1 HAC.out (by omega) HI6.out.2.2 (x, u) _ rfl rfl ?_; intro g7 cap7 w7 hown7 hg7 hlt7; have HI7 : Hid (OwnP w7 (w.heap.size + 1) (.slice (some ⟨g7, 0, none⟩) (m + 1) cap7) (acc ++ [(x, u)]) ∧ Below (w.heap.size + 1) w1 w7) := ⟨hown7, (HI6.out.2.1.alloc HI6.out.2.2 _).grown hg7 (by have := HI6.out.2.2; simp; omega) (fun i hi => (HI6.out.1.lt i hi).1)⟩; clear hown7 hg7 hlt7)
              go_roundw
              case rel => exact ⟨k + 1, acc ++ [(x, u)], _, m + 1, _, by omega, by go_num, rfl, by omega, (by show _ = _; rw [List.length_append, HAC.out]; rfl), HNX, HI7.out⟩
              case measure => simp [intOf]; omega
    · have hltz : ¬ (k : Int) < (n : Int) := by omega
      have HE : Hid (o = .ok acc) := by
        show _ = _
        rw [← HO.out, HFF.out, HK.out, List.drop_of_length_le (by rw [List.length_map]; have := HN.out; omega)]
        rfl
      go_wp2
      go_ret2
      exact ⟨.inl ⟨acc, _, HE.out, by rw [HAC.out]; exact hm, rfl, HI.out.1.mono9 (by omega)⟩, HBW.out⟩
end Go.Proofs.YtoblpjknnchlmacGreatDoor

/- Rows of elements of some cells each that a call owns, and how they are written into. -/
namespace Go.Proofs.YtoblpjknnchlmacGreatDoor
open Go.RowKit

theorem heap_setCells (g : Nat) (t : TypeId) : ∀ (vs : List Value) (o : Nat) (w : World) (cur : Array Value), w.heap[g]? = some (.cells cur t (0, 0)) →
    ∃ cur', (w.setCells g o vs).heap[g]? = some (.cells cur' t (0, 0)) ∧ cur'.size = cur.size ∧ (o + vs.length ≤ cur.size → cur'.toList = cur.toList.take o ++ vs ++ cur.toList.drop (o + vs.length))
  | [], o, w, cur, h => ⟨cur, h, rfl, fun _ => by simp⟩
  | v :: r, o, w, cur, h => by
    obtain ⟨cur', h1, h2, h3⟩ := heap_setCells g t r (o + 1) (w.setCell ⟨g, o, none⟩ v) (cur.setIfInBounds o v) (heap_setCell_same w g o cur t v h)
    refine ⟨cur', h1, by rw [h2]; simp, fun hl => ?_⟩
    simp only [List.length_cons] at hl
    rw [h3 (by simp; omega), Array.toList_setIfInBounds]
    have ho : o < cur.toList.length := by rw [Array.length_toList]; omega
    have e1 : (cur.toList.set o v).take (o + 1) = cur.toList.take o ++ [v] := by
      apply List.ext_getElem?
      intro i
      simp only [List.getElem?_take, List.getElem?_set, List.getElem?_append, List.length_take]
      by_cases h1 : i < o
      · rw [if_pos (by omega), if_neg (by omega), if_pos (by omega), if_pos h1]
      · by_cases h2 : i = o
        · subst h2
          rw [if_pos (by omega), if_pos rfl, if_pos ho, if_neg (by omega)]
          rw [show i - min i cur.toList.length = 0 by omega]
          rfl
        · rw [if_neg (by omega), if_neg (by omega)]
          symm
          rw [List.getElem?_eq_none]
          simp
          omega
    have e2 : (cur.toList.set o v).drop (o + 1 + r.length) = cur.toList.drop (o + (v :: r).length) := by
      rw [List.drop_set_of_lt (by omega)]
      congr 1
      simp
      omega
    rw [e1, e2]
    simp
theorem grown_setCells (w : World) (g o : Nat) (vs : List Value) : w.grownBy (w.setCells g o vs) (some g) :=
  ⟨World.os_setCells w g o vs, by
    induction vs generalizing o w with
    | nil => rfl
    | cons v r ih => exact (ih (w.setCell ⟨g, o, none⟩ v) (o + 1)).trans rfl, World.output_setCells w g o vs, by
    induction vs generalizing o w with
    | nil => exact Nat.le_refl _
    | cons v r ih => exact Nat.le_trans (by simp [World.setCell]) (ih (w.setCell ⟨g, o, none⟩ v) (o + 1)), fun k hk hne => World.heap_setCells_other w g o vs hk (fun e => hne (by rw [e]))⟩

theorem gtrans {a b c : World} {row : Option Nat} (h : a.grownBy b row) (k : b.grownBy c row) : a.grownBy c row :=
  ⟨k.os.trans h.os, k.tape.trans h.tape, k.output.trans h.output, Nat.le_trans h.size k.size, fun i hi hne => (k.block i (Nat.lt_of_lt_of_le hi h.size) hne).trans (h.block i hi hne)⟩
theorem flat_len {k : Nat} : ∀ {xs : List (List Value)}, (∀ x ∈ xs, x.length = k) → xs.flatten.length = xs.length * k
  | [], _ => by simp
  | x :: r, h => by
    rw [List.flatten_cons, List.length_append, h x (by simp), flat_len (fun y hy => h y (by simp [hy])), List.length_cons, Nat.succ_mul, Nat.add_comm]
theorem flat_take {k : Nat} : ∀ {xs : List (List Value)} (_ : ∀ x ∈ xs, x.length = k) (i : Nat), xs.flatten.take (i * k) = (xs.take i).flatten
  | [], _, i => by simp
  | x :: r, h, 0 => by simp
  | x :: r, h, i + 1 => by
    have hx := h x (by simp)
    rw [List.flatten_cons, List.take_succ_cons, List.flatten_cons, ← flat_take (fun y hy => h y (by simp [hy])) i, Nat.succ_mul, Nat.add_comm, List.take_append]
    rw [hx, Nat.add_sub_cancel_left, List.take_of_length_le (by omega)]
theorem flat_drop {k : Nat} : ∀ {xs : List (List Value)} (_ : ∀ x ∈ xs, x.length = k) (i : Nat), xs.flatten.drop (i * k) = (xs.drop i).flatten
  | [], _, i => by simp
  | x :: r, h, 0 => by simp
  | x :: r, h, i + 1 => by
    have hx := h x (by simp)
    rw [List.flatten_cons, List.drop_succ_cons, ← flat_drop (fun y hy => h y (by simp [hy])) i, Nat.succ_mul, Nat.add_comm, List.drop_append]
    rw [hx, Nat.add_sub_cancel_left, List.drop_of_length_le (by omega), List.nil_append]
theorem flat_at {k : Nat} {xs : List (List Value)} (h : ∀ x ∈ xs, x.length = k) {j i : Nat} {x : List Value} {u : Value} (hj : xs[j]? = some x) (hi : x[i]? = some u) : xs.flatten[j * k + i]? = some u := by
  have e := flat_drop h j
  obtain ⟨hjl, hx⟩ := List.getElem?_eq_some_iff.1 hj
  rw [List.drop_eq_getElem_cons hjl, hx, List.flatten_cons] at e
  have e2 : (xs.flatten.drop (j * k))[i]? = some u := by
    rw [e, List.getElem?_append_left (List.getElem?_eq_some_iff.1 hi).1]
    exact hi
  rwa [List.getElem?_drop] at e2

/-- A value of slice type that owns these elements, of k cells each, among the blocks from B on. -/
structure OwnK (k : Nat) (t : TypeId) (w : World) (B : Nat) (v : Value) (xs : List (List Value)) : Prop where
  row : w.ownsRow B t k v xs.length xs.flatten
  len : ∀ x ∈ xs, x.length = k
  one : ∀ x ∈ xs, ∀ u ∈ x, u.oneCell' = true
theorem ownK_nil (k : Nat) (t : TypeId) (w : World) (B : Nat) : OwnK k t w B (.slice none 0 0) [] := ⟨⟨by simp, .inl ⟨rfl, rfl⟩⟩, fun x hx => (by cases hx), fun x hx => (by cases hx)⟩
section
variable {k n cap g B : Nat} {t : TypeId} {w : World} {v : Value} {xs : List (List Value)}
theorem OwnK.lt (h : OwnK k t w B v xs) : ∀ b, v.ownBlock = some b → B ≤ b ∧ b < w.heap.size := World.ownsRow.lt h.row
theorem OwnK.mono {B' : Nat} (h : OwnK k t w B v xs) (hb : B' ≤ B) : OwnK k t w B' v xs := ⟨World.ownsRow.mono h.row hb, h.len, h.one⟩
theorem OwnK.kept {w' : World} {row : Option Nat} (h : OwnK k t w B v xs) (hg : w.grownBy w' row) (hne : v.ownBlock = none ∨ v.ownBlock ≠ row) : OwnK k t w' B v xs := ⟨World.ownsRow.kept h.row hg hne, h.len, h.one⟩
theorem OwnK.below {w' : World} (h : OwnK k t w B v xs) (hb : Below w.heap.size w w') : OwnK k t w' B v xs := by
  refine h.kept (row := none) ⟨hb.os, hb.tape, hb.output, hb.size, fun i hi _ => hb.block i hi⟩ ?_
  rcases v.ownBlock with _ | k
  · exact .inl rfl
  · exact .inr (by simp)
theorem OwnK.drewN (h : OwnK k t w B v xs) (q : Nat) : OwnK k t (w.drewN q) B v xs := ⟨h.row, h.len, h.one⟩
/-- What it looks like. -/
theorem OwnK.forms (h : OwnK k t w B v xs) : (v = .slice none 0 0 ∧ xs = []) ∨ ∃ g cap, v = .slice (some ⟨g, 0, none⟩) xs.length cap ∧ B ≤ g ∧ g < w.heap.size ∧ xs.length ≤ cap ∧ cap ≤ maxLen := by
  rcases h.row.2 with ⟨e, h0⟩ | ⟨g, cap, cur, e, hB, hh, h1, h2, _⟩
  · exact .inl ⟨e, List.eq_nil_of_length_eq_zero h0⟩
  · exact .inr ⟨g, cap, e, hB, (Array.getElem?_eq_some_iff.1 hh).1, h1, h2⟩
theorem OwnK.cell (h : OwnK k t w B (.slice (some ⟨g, 0, none⟩) n cap) xs) {j i : Nat} {x : List Value} {u : Value} (hj : xs[j]? = some x) (hi : x[i]? = some u) : w.cell? ⟨g, j * k + i, none⟩ = some u := by
  have hc := World.ownsRow.cells h.row (g := g) rfl (j * k + i) u (flat_at h.len hj hi)
  rw [Addr.add_lit, Nat.zero_add] at hc
  exact hc
theorem OwnK.load (P : Program) (h : OwnK k t w B (.slice (some ⟨g, 0, none⟩) n cap) xs) {j : Nat} {x : List Value} (hj : xs[j]? = some x) : Sem.run P (loadCellsFrom ⟨g, j * k, none⟩ 0 k #[]) w = .ok x.toArray w :=
  run_loadCellsFrom_list P w _ x k (h.len x (List.mem_of_getElem? hj)) (fun i u hi => by rw [Addr.add_lit]; exact h.cell hj hi)
theorem OwnK.frozen (h : OwnK k t w B (.slice (some ⟨g, 0, none⟩) n cap) xs) (j : Nat) : w.frozen? ⟨g, j, none⟩ = false := by
  rcases h.row.2 with ⟨e, _⟩ | ⟨g', cap', cur, e, _, hh, _⟩
  · cases e
  · injection e with e1 _ _
    injection e1 with e1
    injection e1 with e1
    subst e1
    simp [World.frozen?, hh]
theorem OwnK.there (h : OwnK k t w B (.slice (some ⟨g, 0, none⟩) n cap) xs) (j : Nat) (hj : j < cap * k) : (w.cell? ⟨g, j, none⟩).isSome = true := by
  rcases h.row.2 with ⟨e, _⟩ | ⟨g', cap', cur, e, _, hh, _, _, hs, _⟩
  · cases e
  · injection e with e1 e2 e3
    injection e1 with e1
    injection e1 with e1
    subst e1 e3
    rw [cell_of_row w g j cur t (0, 0) hh, Array.getElem?_eq_getElem (by omega)]
    rfl
/-- Elements are written at a place. -/
theorem OwnK.put (h : OwnK k t w B (.slice (some ⟨g, 0, none⟩) n cap) xs) (i : Nat) (ys : List (List Value)) (hy : ∀ y ∈ ys, y.length = k) (hy1 : ∀ y ∈ ys, ∀ u ∈ y, u.oneCell' = true) (hi : i ≤ xs.length) (hc : i + ys.length ≤ cap) :
    OwnK k t (w.setCells g (i * k) ys.flatten) B (.slice (some ⟨g, 0, none⟩) (xs.take i ++ ys ++ xs.drop (i + ys.length)).length cap) (xs.take i ++ ys ++ xs.drop (i + ys.length)) := by
  have hall : ∀ x ∈ xs.take i ++ ys ++ xs.drop (i + ys.length), x ∈ xs ∨ x ∈ ys := fun x hx => by
    rcases List.mem_append.1 hx with hx | hx
    · rcases List.mem_append.1 hx with hx | hx
      · exact .inl (List.mem_of_mem_take hx)
      · exact .inr hx
    · exact .inl (List.mem_of_mem_drop hx)
  have hlen : ∀ x ∈ xs.take i ++ ys ++ xs.drop (i + ys.length), x.length = k := fun x hx => (hall x hx).elim (h.len x) (hy x)
  refine ⟨⟨flat_len hlen, ?_⟩, hlen, fun x hx => (hall x hx).elim (h.one x) (hy1 x)⟩
  rcases h.row.2 with ⟨e, _⟩ | ⟨g', cap', cur, e, hB, hh, hn, hm, hs, ht⟩
  · cases e
  · injection e with e1 e2 e3
    injection e1 with e1
    injection e1 with e1
    subst e1 e3
    obtain ⟨cur', h1, h2, h3⟩ := heap_setCells g t ys.flatten (i * k) w cur hh
    have hyl := flat_len hy
    have hck : i * k + ys.flatten.length ≤ cur.size := by
      rw [hyl, hs, ← Nat.add_mul]
      exact Nat.mul_le_mul_right _ hc
    have h3 := h3 hck
    have hLl : (xs.take i ++ ys ++ xs.drop (i + ys.length)).length ≤ cap := by simp; omega
    refine .inr ⟨g, cap, cur', rfl, hB, h1, hLl, hm, by rw [h2, hs], ?_⟩
    rw [h3]
    have hd : (xs.drop (i + ys.length)).flatten = (cur.toList.drop (i * k + ys.flatten.length)).take ((xs.length - (i + ys.length)) * k) := by
      rw [← flat_drop h.len, ← ht, hyl, ← Nat.add_mul, List.drop_take, Nat.sub_mul]
    have htk : (xs.take i).flatten = cur.toList.take (i * k) := by
      rw [← flat_take h.len, ← ht, List.take_take, Nat.min_eq_left (Nat.mul_le_mul_right _ hi)]
    have hl1 : (cur.toList.take (i * k)).length = i * k := by rw [List.length_take, Array.length_toList]; omega
    rw [List.flatten_append, List.flatten_append, hd, htk]
    have hT : (xs.take i ++ ys ++ xs.drop (i + ys.length)).length = i + ys.length + (xs.length - (i + ys.length)) := by simp; omega
    rw [hT, Nat.add_mul, Nat.add_mul, ← hyl, List.take_append, List.length_append, hl1]
    rw [List.take_of_length_le (by rw [List.length_append, hl1]; omega)]
    congr 2
    omega
theorem OwnK.set (h : OwnK k t w B (.slice (some ⟨g, 0, none⟩) n cap) xs) (i : Nat) (x : List Value) (hx : x.length = k) (hx1 : ∀ u ∈ x, u.oneCell' = true) (hi : i < xs.length) :
    OwnK k t (w.setCells g (i * k) x) B (.slice (some ⟨g, 0, none⟩) n cap) (xs.set i x) := by
  have hn : n = xs.length ∧ xs.length ≤ cap := by
    rcases h.forms with ⟨e, _⟩ | ⟨g', cap', e, _, _, h1, _⟩
    · cases e
    · injection e with e1 e2 e3
      subst e2 e3
      exact ⟨rfl, h1⟩
  have h2 := h.put i [x] (fun y hy => by rw [List.mem_singleton.1 hy]; exact hx) (fun y hy => by rw [List.mem_singleton.1 hy]; exact hx1) (by omega) (by simp; omega)
  have e1 : xs.take i ++ [x] ++ xs.drop (i + [x].length) = xs.set i x := by rw [List.set_eq_take_append_cons_drop, if_pos hi]; simp
  have e2 : [x].flatten = x := by simp
  rw [e1, e2, List.length_set, ← hn.1] at h2
  exact h2
theorem OwnK.cut (h : OwnK k t w B (.slice (some ⟨g, 0, none⟩) n cap) xs) (i : Nat) (hi : i ≤ xs.length) : OwnK k t w B (.slice (some ⟨g, 0, none⟩) i cap) (xs.take i) := by
  have hlen : ∀ x ∈ xs.take i, x.length = k := fun x hx => h.len x (List.mem_of_mem_take hx)
  have hl : (xs.take i).length = i := by rw [List.length_take]; omega
  refine ⟨⟨flat_len hlen, ?_⟩, hlen, fun x hx => h.one x (List.mem_of_mem_take hx)⟩
  rcases h.row.2 with ⟨e, _⟩ | ⟨g', cap', cur, e, hB, hh, hn, hm, hs, ht⟩
  · cases e
  · injection e with e1 e2 e3
    injection e1 with e1
    injection e1 with e1
    subst e1 e3
    refine .inr ⟨g, cap, cur, by rw [hl], hB, hh, by omega, hm, hs, ?_⟩
    rw [← flat_take h.len, ← ht, List.take_take, hl, Nat.min_eq_left (Nat.mul_le_mul_right _ hi)]
/-- What stands behind a place is written over, and cut off. -/
theorem OwnK.wipe (h : OwnK k t w B (.slice (some ⟨g, 0, none⟩) n cap) xs) (i : Nat) (hi : i ≤ xs.length) (vs : List Value) (hv : i * k + vs.length ≤ cap * k) : OwnK k t (w.setCells g (i * k) vs) B (.slice (some ⟨g, 0, none⟩) i cap) (xs.take i) := by
  have hc := h.cut i hi
  refine ⟨⟨hc.row.1, ?_⟩, hc.len, hc.one⟩
  rcases hc.row.2 with ⟨e, _⟩ | ⟨g', cap', cur, e, hB, hh, hn, hm, hs, ht⟩
  · cases e
  · injection e with e1 e2 e3
    injection e1 with e1
    injection e1 with e1
    subst e1 e3
    obtain ⟨cur', h1, h2, h3⟩ := heap_setCells g t vs (i * k) w cur hh
    have hl : (xs.take i).length = i := by rw [List.length_take]; omega
    refine .inr ⟨g, cap, cur', by rw [hl], hB, h1, hn, hm, by rw [h2, hs], ?_⟩
    rw [h3 (by rw [hs]; exact hv), ← ht, hl, List.take_append, List.take_append, List.take_take]
    rw [List.length_take, Array.length_toList]
    have hik : i * k ≤ cur.size := by omega
    rw [show i * k - min (i * k) cur.size = 0 by omega, Nat.min_self, List.length_append, List.length_take, Array.length_toList]
    rw [show i * k - (min (i * k) cur.size + vs.length) = 0 by omega]
    simp
end
end Go.Proofs.YtoblpjknnchlmacGreatDoor

/- Two passes held against each other. -/
namespace Go.Proofs.YtoblpjknnchlmacGreatDoor
open Go.RowKit

theorem eqO9 (k : Nat) (a : Bool) (x : ByteArray) (n : Int) (w : World) :
    (Op.equalIn (k + 2) 23 (.agg #[.bool a, .string x, .int .i64 n]) (.agg #[.bool a, .string x, .int .i64 n])).run Tryz.prog w = .ok true w := by
  have u3 := Tryz.underlying3
  have u4 := Tryz.underlying4
  have u9 := Tryz.underlying9
  have a3 := Tryz.isAgg3
  have z3 := Tryz.sizeOf3
  have hS : Tryz.prog.underlying 23 = some (.struct (Tryz.prog.fieldsOf 23)) := by kernel_rfl
  have hp : Tryz.prog.stoodInHeld 23 = false := by kernel_rfl
  rw [run_equalIn_agg w (k + 1) 23 _ _ hS hp]
  simp only [Program.fieldsOf, Tryz.underlying23]
  go_simp
theorem eqU9 (k : Nat) (a : Bool) (x : ByteArray) (n : Int) (p q : ByteArray) (w : World) :
    (Op.equalIn (k + 3) 25 (.agg #[.bool a, .string x, .int .i64 n, .string p, .string q]) (.agg #[.bool a, .string x, .int .i64 n, .string p, .string q])).run Tryz.prog w = .ok true w := by
  have u3 := Tryz.underlying3
  have u4 := Tryz.underlying4
  have u9 := Tryz.underlying9
  have a3 := Tryz.isAgg3
  have z3 := Tryz.sizeOf3
  have hS : Tryz.prog.underlying 25 = some (.struct (Tryz.prog.fieldsOf 25)) := by kernel_rfl
  have hp : Tryz.prog.stoodInHeld 25 = false := by kernel_rfl
  have eo := fun w => eqO9 k a x n w
  rw [run_equalIn_agg w (k + 2) 25 _ _ hS hp]
  simp only [Program.fieldsOf, Tryz.underlying25]
  go_simp
theorem eqP9 (fs : Bool) (fh : ByteArray) (fp : Int) (us : Bool) (uh : ByteArray) (up : Int) (pa qu : ByteArray) (wi : Bool) (un : Int) (m1 h1 m2 h2 : ByteArray) (E : Bool) (hE : (m1.toList == m2.toList && h1.toList == h2.toList) = E) (w : World) :
    (Op.equalIn 10000 40 (.agg #[.bool fs, .string fh, .int .i64 fp, .bool us, .string uh, .int .i64 up, .string pa, .string qu, .bool wi, .string m1, .string h1, .int .i64 un]) (.agg #[.bool fs, .string fh, .int .i64 fp, .bool us, .string uh, .int .i64 up, .string pa, .string qu, .bool wi, .string m2, .string h2, .int .i64 un])).run Tryz.prog w = .ok E w := by
  have u3 := Tryz.underlying3
  have u4 := Tryz.underlying4
  have u9 := Tryz.underlying9
  have a3 := Tryz.isAgg3
  have z3 := Tryz.sizeOf3
  have hS : Tryz.prog.underlying 40 = some (.struct (Tryz.prog.fieldsOf 40)) := by kernel_rfl
  have hp : Tryz.prog.stoodInHeld 40 = false := by kernel_rfl
  have eo := fun w => eqO9 9997 fs fh fp w
  have eu := fun w => eqU9 9996 us uh up pa qu w
  rw [show (10000 : Nat) = 9999 + 1 from rfl, run_equalIn_agg w 9999 40 _ _ hS hp, ← hE]
  simp only [Program.fieldsOf, Tryz.underlying40]
  go_simp
  rw [← hE]
  by_cases h1' : m1.toList = m2.toList <;> by_cases h2' : h1.toList = h2.toList <;> simp [h1', h2']
end Go.Proofs.YtoblpjknnchlmacGreatDoor

/- New blocks: what they hold, and that nothing older has turned. -/
namespace Go.Proofs.YtoblpjknnchlmacGreatDoor
open Go.RowKit

theorem cells_new (W : World) (cs : Array Value) (t : TypeId) (j : Nat) : (W.alloc (.cells cs t)).cell? ⟨W.heap.size, j, none⟩ = cs[j]? := World.cell?_alloc_mark _ _ _ _ _
theorem drewN_below {B : Nat} {a w : World} (h : Below B a w) (n : Nat) : Below B a (w.drewN n) := h.trans ⟨rfl, rfl, rfl, Nat.le_refl _, fun _ _ => rfl⟩
end Go.Proofs.YtoblpjknnchlmacGreatDoor

/- Whether a pass stands in a row of passes that differ by method and header alone, by the library's own functions. -/
namespace Go.Proofs.YtoblpjknnchlmacGreatDoor
open Go.RowKit

/-- A pass with this method and this header. -/
def PsV.of (p : PsV) (x : ByteArray × ByteArray) : PsV := ⟨p.fs, p.fh, p.fp, p.us, p.uh, p.up, p.pa, p.qu, p.wi, x.1, x.2, p.un⟩
def sameX (x y : ByteArray × ByteArray) : Bool := x.1.toList == y.1.toList && x.2.toList == y.2.toList
set_option maxRecDepth 100000 in
set_option maxHeartbeats 4000000 in
theorem indexX_any (p : PsV) (x : ByteArray × ByteArray) (l : List (ByteArray × ByteArray)) (a0 : Option Addr) (len cap b off : Nat) (hlen : len ≤ 1000000) (w : World) (hx : Pss w a0 len b off (l.map p.of)) :
    Calls Tryz.prog 84 #[.slice a0 len cap, .agg #[.bool p.fs, .string p.fh, .int .i64 p.fp, .bool p.us, .string p.uh, .int .i64 p.up, .string p.pa, .string p.qu, .bool p.wi, .string x.1, .string x.2, .int .i64 p.un]] w fun e w' => (∃ r : Int, e = .returned (.int .i64 r) ∧ Hid (decide (0 ≤ r) = l.any (sameX x))) ∧ Below w.heap.size w w' := by
  have hl : l.length = len := by have := hx.len_eq; simpa using this
  have HL : Hid (l.length = len) := hl
  have HQ : Hid (BoxQ 40 w #[.bool p.fs, .string p.fh, .int .i64 p.fp, .bool p.us, .string p.uh, .int .i64 p.up, .string p.pa, .string p.qu, .bool p.wi, .string x.1, .string x.2, .int .i64 p.un] (w.alloc (.cells #[.bool p.fs, .string p.fh, .int .i64 p.fp, .bool p.us, .string p.uh, .int .i64 p.up, .string p.pa, .string p.qu, .bool p.wi, .string x.1, .string x.2, .int .i64 p.un] 40))) := BoxQ.new _ _ _
  have HX : Hid (Pss (w.alloc (.cells #[.bool p.fs, .string p.fh, .int .i64 p.fp, .bool p.us, .string p.uh, .int .i64 p.up, .string p.pa, .string p.qu, .bool p.wi, .string x.1, .string x.2, .int .i64 p.un] 40)) a0 len b off (l.map p.of)) := hx.below HQ.out.bel
  have HB : Hid (Below w.heap.size w (w.alloc (.cells #[.bool p.fs, .string p.fh, .int .i64 p.fp, .bool p.us, .string p.uh, .int .i64 p.up, .string p.pa, .string p.qu, .bool p.wi, .string x.1, .string x.2, .int .i64 p.un] 40))) := HQ.out.bel
  clear hx hl
  obtain ⟨fs, fh, fp, us, uh, up, pa, qu, wi, me, he, un⟩ := p
  obtain ⟨xm, xh⟩ := x
  simp only at HQ HX HB ⊢
  go_enter Tryz.func84, Tryz.ntmps84
  go_wp2
  generalize hW0 : w.alloc (.cells #[.bool fs, .string fh, .int .i64 fp, .bool us, .string uh, .int .i64 up, .string pa, .string qu, .bool wi, .string xm, .string xh, .int .i64 un] 40) = W0 at HQ HX HB ⊢
  clear hW0
  have b0 := HQ.out.at 0 _ rfl
  have b1 := HQ.out.at 1 _ rfl
  have b2 := HQ.out.at 2 _ rfl
  have b3 := HQ.out.at 3 _ rfl
  have b4 := HQ.out.at 4 _ rfl
  have b5 := HQ.out.at 5 _ rfl
  have b6 := HQ.out.at 6 _ rfl
  have b7 := HQ.out.at 7 _ rfl
  have b8 := HQ.out.at 8 _ rfl
  have b9 := HQ.out.at 9 _ rfl
  have b10 := HQ.out.at 10 _ rfl
  have b11 := HQ.out.at 11 _ rfl
  go_loopw [8] (fun i wr => ∃ (k q : Nat), k ≤ len ∧ i = .int .i64 k ∧ wr = W0.drewN q ∧ Hid ((l.take k).any (sameX (xm, xh)) = false)) (fun i _ => len - (intOf i).toNat)
  case atStart => exact ⟨0, 0, Nat.zero_le _, rfl, rfl, rfl⟩
  case round =>
    obtain ⟨k, q, hk, rfl, rfl, HK⟩ := hrel
    by_cases hlt : k < len
    · have hltz : (k : Int) < (len : Int) := by omega
      obtain ⟨y, hy⟩ : ∃ y, l[k]? = some y := ⟨l[k]'(by have := HL.out; omega), List.getElem?_eq_getElem (by have := HL.out; omega)⟩
      have HYK : Hid (l[k]? = some y) := hy
      obtain ⟨ha0, _⟩ := HX.out.lies (by omega)
      subst ha0
      obtain ⟨c0, c1, c2, c3, c4, c5, c6, c7, c8, c9, c10, c11⟩ := HX.out.all (j := k) (v := PsV.of ⟨fs, fh, fp, us, uh, up, pa, qu, wi, me, he, un⟩ y) (by rw [List.getElem?_map, hy]; rfl)
      obtain ⟨ym, yh⟩ := y
      simp only [PsV.of] at c0 c1 c2 c3 c4 c5 c6 c7 c8 c9 c10 c11
      obtain ⟨t, HT⟩ : ∃ t, Hid (sameX (xm, xh) (ym, yh) = t) := ⟨_, rfl⟩
      have ep := fun W => eqP9 fs fh fp us uh up pa qu wi un xm xh ym yh t HT.out W
      clear hy
      cases t
      · have HS : Hid ((l.take (k + 1)).any (sameX (xm, xh)) = false) := take_any HK.out HYK.out HT.out
        go_wp2
        go_quiet (fail)
        go_wp2
        go_roundw
        case rel => exact ⟨k + 1, _, by omega, by go_num, rfl, HS⟩
        case measure => simp [intOf]; omega
      · have HS : Hid (l.any (sameX (xm, xh)) = true) := List.any_eq_true.2 ⟨_, List.mem_of_getElem? HYK.out, HT.out⟩
        go_wp2
        go_quiet (fail)
        go_wp2
        go_ret
        exact ⟨⟨_, rfl, by show _ = _; rw [HS.out]; exact decide_eq_true (Int.natCast_nonneg _)⟩, drewN_below (drewN_below HB.out _) _⟩
    · have hltz : ¬ (k : Int) < (len : Int) := by omega
      have HS : Hid (l.any (sameX (xm, xh)) = false) := by
        have := HK.out
        rw [List.take_of_length_le (by have := HL.out; omega)] at this
        exact this
      go_wp2
      go_ret
      exact ⟨⟨_, rfl, by show _ = _; rw [HS.out]; rfl⟩, drewN_below HB.out _⟩
set_option maxRecDepth 100000 in
set_option maxHeartbeats 4000000 in
theorem containsX_any (p : PsV) (x : ByteArray × ByteArray) (l : List (ByteArray × ByteArray)) (a0 : Option Addr) (len cap b off : Nat) (hlen : len ≤ 1000000) (w : World) (hx : Pss w a0 len b off (l.map p.of)) :
    Calls Tryz.prog 54 #[.slice a0 len cap, .agg #[.bool p.fs, .string p.fh, .int .i64 p.fp, .bool p.us, .string p.uh, .int .i64 p.up, .string p.pa, .string p.qu, .bool p.wi, .string x.1, .string x.2, .int .i64 p.un]] w fun e w' => e = .returned (.bool (l.any (sameX x))) ∧ Below w.heap.size w w' := by
  have HQ : Hid (BoxQ 40 w #[.bool p.fs, .string p.fh, .int .i64 p.fp, .bool p.us, .string p.uh, .int .i64 p.up, .string p.pa, .string p.qu, .bool p.wi, .string x.1, .string x.2, .int .i64 p.un] (w.alloc (.cells #[.bool p.fs, .string p.fh, .int .i64 p.fp, .bool p.us, .string p.uh, .int .i64 p.up, .string p.pa, .string p.qu, .bool p.wi, .string x.1, .string x.2, .int .i64 p.un] 40))) := BoxQ.new _ _ _
  have HI : Hid (Calls Tryz.prog 84 #[.slice a0 len cap, .agg #[.bool p.fs, .string p.fh, .int .i64 p.fp, .bool p.us, .string p.uh, .int .i64 p.up, .string p.pa, .string p.qu, .bool p.wi, .string x.1, .string x.2, .int .i64 p.un]] (w.alloc (.cells #[.bool p.fs, .string p.fh, .int .i64 p.fp, .bool p.us, .string p.uh, .int .i64 p.up, .string p.pa, .string p.qu, .bool p.wi, .string x.1, .string x.2, .int .i64 p.un] 40)) fun e w' => (∃ r : Int, e = .returned (.int .i64 r) ∧ Hid (decide (0 ≤ r) = l.any (sameX x))) ∧ Below (w.alloc (.cells #[.bool p.fs, .string p.fh, .int .i64 p.fp, .bool p.us, .string p.uh, .int .i64 p.up, .string p.pa, .string p.qu, .bool p.wi, .string x.1, .string x.2, .int .i64 p.un] 40)).heap.size (w.alloc (.cells #[.bool p.fs, .string p.fh, .int .i64 p.fp, .bool p.us, .string p.uh, .int .i64 p.up, .string p.pa, .string p.qu, .bool p.wi, .string x.1, .string x.2, .int .i64 p.un] 40)) w') :=
    indexX_any p x l a0 len cap b off hlen _ (hx.below HQ.out.bel)
  have b0 := HQ.out.at 0 _ rfl
  have b1 := HQ.out.at 1 _ rfl
  have b2 := HQ.out.at 2 _ rfl
  have b3 := HQ.out.at 3 _ rfl
  have b4 := HQ.out.at 4 _ rfl
  have b5 := HQ.out.at 5 _ rfl
  have b6 := HQ.out.at 6 _ rfl
  have b7 := HQ.out.at 7 _ rfl
  have b8 := HQ.out.at 8 _ rfl
  have b9 := HQ.out.at 9 _ rfl
  have b10 := HQ.out.at 10 _ rfl
  have b11 := HQ.out.at 11 _ rfl
  clear hx
  go_enter Tryz.func54, Tryz.ntmps54
  go_wp2_with fail
  refine HI.out.mono ?_
  rintro e w1 ⟨⟨r, rfl, HR⟩, hb⟩
  have HB1 : Hid (Below w.heap.size w w1) := HQ.out.inB hb
  clear hb HI
  go_wp2
  go_ret
  exact ⟨ret_bool HR.out, HB1.out⟩
end Go.Proofs.YtoblpjknnchlmacGreatDoor

/- Passes that differ by method and header alone, in a row that a call owns; one more. -/
namespace Go.Proofs.YtoblpjknnchlmacGreatDoor
open Go.RowKit

theorem infoX : (Tryz.prog.info? 40).map (fun i => (i.zero, i.size, i.bytes)) = some (some (.agg #[.bool false, .string ⟨#[]⟩, .int .i64 0, .bool false, .string ⟨#[]⟩, .int .i64 0, .string ⟨#[]⟩, .string ⟨#[]⟩, .bool false, .string ⟨#[]⟩, .string ⟨#[]⟩, .int .i64 0]), 12, 144) := by kernel_rfl
def cellsX (p : PsV) (l : List (ByteArray × ByteArray)) : List (List Value) := l.map fun x => (p.of x).vals
/-- A value of type []api.Pass that owns these, among the blocks from B on. -/
def OwnX (p : PsV) (w : World) (B : Nat) (v : Value) (l : List (ByteArray × ByteArray)) : Prop := OwnK 12 40 w B v (cellsX p l)
theorem vals_len (v : PsV) : v.vals.length = 12 := rfl
theorem vals_one (v : PsV) : ∀ u ∈ v.vals, u.oneCell' = true := by
  intro u hu
  simp only [PsV.vals, List.mem_cons, List.not_mem_nil, or_false] at hu
  rcases hu with h | h | h | h | h | h | h | h | h | h | h | h <;> subst h <;> rfl
theorem ownX_nil (p : PsV) (w : World) (B : Nat) : OwnX p w B (.slice none 0 0) [] := ownK_nil 12 40 w B
theorem OwnX.pss {p : PsV} {w : World} {B : Nat} {v : Value} {l : List (ByteArray × ByteArray)} (h : OwnX p w B v l) : ∃ (a : Option Addr) (cap g : Nat), v = .slice a l.length cap ∧ Pss w a l.length g 0 (l.map p.of) := by
  have hl : (cellsX p l).length = l.length := by unfold cellsX; simp
  rcases OwnK.forms h with ⟨rfl, he⟩ | ⟨g, cap, rfl, hB, hg, hc, _⟩
  · have h0 : l = [] := by unfold cellsX at he; simpa using he
    subst h0
    exact ⟨none, 0, 0, rfl, pss_nil w⟩
  · refine ⟨_, cap, g, by rw [hl], by simp, fun _ => ⟨rfl, hg⟩, fun j v hj i u hi => ?_⟩
    obtain ⟨x, hx, rfl⟩ : ∃ x, l[j]? = some x ∧ p.of x = v := by
      rw [List.getElem?_map] at hj
      simpa using hj
    have hj' : (cellsX p l)[j]? = some (p.of x).vals := by unfold cellsX; rw [List.getElem?_map, hx]; rfl
    rw [Nat.zero_add]
    exact OwnK.cell (show OwnK 12 40 w B (.slice (some ⟨g, 0, none⟩) (cellsX p l).length cap) (cellsX p l) from h) hj' hi
theorem OwnX.below {p : PsV} {w w' : World} {B : Nat} {v : Value} {l : List (ByteArray × ByteArray)} (h : OwnX p w B v l) (hb : Below w.heap.size w w') : OwnX p w' B v l := OwnK.below h hb
theorem OwnX.kept {p : PsV} {w w' : World} {B : Nat} {row : Option Nat} {v : Value} {l : List (ByteArray × ByteArray)} (h : OwnX p w B v l) (hg : w.grownBy w' row) (hne : v.ownBlock = none ∨ v.ownBlock ≠ row) : OwnX p w' B v l := OwnK.kept h hg hne
theorem wp_appX {ops : Array Oper} {rest : List Oper} {o : Oper} {a : Act} {Q : Exit → Act → World → Prop} (hgd : o.guard = none) (s x : Operand)
    (ho : o.op = .call { callee := .builtin .append, args := #[s, x], argTypes := #[36, 36] })
    (p : PsV) (B : Nat) (wr : World) (v : Value) (l : List (ByteArray × ByteArray)) (n : Nat) (hs : a.eval s = v) (hown : OwnX p wr B v l) (hn : l.length = n) (hl : n ≤ 1000) (hB : B ≤ wr.heap.size)
    (y : ByteArray × ByteArray) (hx : a.eval x = .slice (some ⟨wr.heap.size, 0, none⟩) 1 1)
    (h : ∀ g cap w', OwnX p w' B (.slice (some ⟨g, 0, none⟩) (n + 1) cap) (l ++ [y]) → (wr.alloc (.cells #[.bool p.fs, .string p.fh, .int .i64 p.fp, .bool p.us, .string p.uh, .int .i64 p.up, .string p.pa, .string p.qu, .bool p.wi, .string y.1, .string y.2, .int .i64 p.un] 40)).grownBy w' v.ownBlock → g < w'.heap.size → B ≤ g → wpList Tryz.prog ops Q rest (a.put o.dst (.slice (some ⟨g, 0, none⟩) (n + 1) cap)) w') :
    wpList Tryz.prog ops Q (o :: rest) a (wr.alloc (.cells #[.bool p.fs, .string p.fh, .int .i64 p.fp, .bool p.us, .string p.uh, .int .i64 p.up, .string p.pa, .string p.qu, .bool p.wi, .string y.1, .string y.2, .int .i64 p.un] 40)) := by
  subst hn
  obtain ⟨i0, hi0, hz0, hz1, hz2⟩ := info_parts infoX
  have hlc : (cellsX p l).length = l.length := by unfold cellsX; simp
  refine wpList_append_lies _ hgd s x 36 ho B 40 i0 (.agg #[.bool false, .string ⟨#[]⟩, .int .i64 0, .bool false, .string ⟨#[]⟩, .int .i64 0, .string ⟨#[]⟩, .string ⟨#[]⟩, .bool false, .string ⟨#[]⟩, .string ⟨#[]⟩, .int .i64 0]) 12 144 Tryz.underlying36 hi0 hz0 hz1 hz2 rfl (by omega) v (cellsX p l).length _ hs (World.ownsRow.alloc hown.row _) ⟨wr.heap.size, 0, none⟩ 1 1 (p.of y).vals hx rfl
    (World.news_of_block (cs := #[.bool p.fs, .string p.fh, .int .i64 p.fp, .bool p.us, .string p.uh, .int .i64 p.up, .string p.pa, .string p.qu, .bool p.wi, .string y.1, .string y.2, .int .i64 p.un]) (t := 40) (fr := (0, 0)) (heap_alloc_new wr _)) (vals_one _) (by omega) (by rw [hlc]; unfold maxLen; omega) (by omega) (by simp; omega) _ rfl ?_
  intro g cap w' hown1 hgrow _ hlt
  have hnew : OwnX p w' B (.slice (some ⟨g, 0, none⟩) (l.length + 1) cap) (l ++ [y]) := by
    have hc : cellsX p (l ++ [y]) = cellsX p l ++ [(p.of y).vals] := by unfold cellsX; simp
    refine ⟨?_, ?_, ?_⟩
    · rw [hc, List.length_append, List.flatten_append, hlc]
      rw [hlc] at hown1
      simpa using hown1
    · intro z hz
      rw [hc] at hz
      rcases List.mem_append.1 hz with hz | hz
      · exact hown.len z hz
      · rw [List.mem_singleton.1 hz]; rfl
    · intro z hz
      rw [hc] at hz
      rcases List.mem_append.1 hz with hz | hz
      · exact hown.one z hz
      · rw [List.mem_singleton.1 hz]; exact vals_one _
  rw [hlc]
  exact h g cap w' hnew hgrow hlt (OwnK.lt hnew g rfl).1
end Go.Proofs.YtoblpjknnchlmacGreatDoor

/- A text cloned, however long; what a world is where a cell is told again what it holds. -/
namespace Go.Proofs.YtoblpjknnchlmacGreatDoor
open Go.RowKit Go.Shelf

theorem cloneS_any (s : ByteArray) (hs : s.size ≤ 140737488355328) (w : World) :
    Calls Tryz.prog 22 #[.string s] w fun e w' => e = .returned (.string s) ∧ Below w.heap.size w w' := by
  have hc : ∀ w, Calls Tryz.prog 42 #[.string s] w fun e w' => e = .returned (.string s) ∧ Below w.heap.size w w' := fun w => Any.stringslite_Clone laysM316 s w (by omega)
  go_enter Tryz.func22, Tryz.ntmps22
  go_wp2_with (go_at_call 42; refine (hc _).mono ?_; rintro e w' ⟨rfl, hb⟩)
  go_ret
  exact ⟨rfl, hb⟩
/-- A cell is told again what it holds: the world is as it was. -/
theorem setCell_same {w : World} {g i : Nat} {cs : Array Value} {t : TypeId} (h : w.heap[g]? = some (.cells cs t (0, 0))) {v : Value} (hv : cs[i]? = some v) : w.setCell ⟨g, i, none⟩ v = w := by
  have e : (w.setCell ⟨g, i, none⟩ v).heap = w.heap := by
    apply Array.ext_getElem?
    intro j
    by_cases hj : j = g
    · subst hj
      rw [heap_setCell_same w j i cs t v h, h]
      congr 2
      apply Array.ext_getElem?
      intro m
      rw [Array.getElem?_setIfInBounds]
      by_cases hm : i = m
      · subst hm
        rw [if_pos rfl, hv, if_pos (Array.getElem?_eq_some_iff.1 hv).1]
      · rw [if_neg hm]
    · exact Below.heap_setCell w ⟨g, i, none⟩ v j hj
  show { w with heap := _ } = w
  have : (w.setCell ⟨g, i, none⟩ v).heap = w.heap := e
  cases w
  simp only [World.setCell] at this ⊢
  congr
/-- All cells of a block anew. -/
theorem heap_setAll (g : Nat) (t : TypeId) (vs : List Value) (w : World) (cur : Array Value) (h : w.heap[g]? = some (.cells cur t (0, 0))) (hs : cur.size = vs.length) : (w.setCells g 0 vs).heap[g]? = some (.cells vs.toArray t (0, 0)) := by
  obtain ⟨cur', h1, h2, h3⟩ := heap_setCells g t vs 0 w cur h
  have e := h3 (by omega)
  rw [List.take_zero, List.nil_append, Nat.zero_add, List.drop_of_length_le (by rw [Array.length_toList]; omega), List.append_nil] at e
  have : cur' = vs.toArray := by rw [← e]
  rw [h1, this]
theorem cell_of {w : World} {g i : Nat} {cs : Array Value} {t : TypeId} (h : w.heap[g]? = some (.cells cs t (0, 0))) : w.cell? ⟨g, i, none⟩ = cs[i]? := cell_of_row w g i cs t (0, 0) h
theorem free_of {w : World} {g : Nat} {cs : Array Value} {t : TypeId} (h : w.heap[g]? = some (.cells cs t (0, 0))) (i : Nat) : w.frozen? ⟨g, i, none⟩ = false := frozen_of_row w g i cs t h
end Go.Proofs.YtoblpjknnchlmacGreatDoor

/- A block of an argument's and one of an answer's own. -/
namespace Go.Proofs.YtoblpjknnchlmacGreatDoor
open Go.RowKit
set_option linter.unusedVariables false

/-- All cells anew: what stands there, and what may have turned. -/
theorem setAll {wi : World} {g : Nat} {cur : Array Value} {T : TypeId} (vs : List Value) (h : wi.heap[g]? = some (.cells cur T (0, 0))) (hs : cur.size = vs.length) : (wi.setCells g 0 vs).heap[g]? = some (.cells vs.toArray T (0, 0)) ∧ wi.grownBy (wi.setCells g 0 vs) (some g) := ⟨heap_setAll g T vs wi cur h hs, grown_setCells _ _ _ _⟩
theorem boxes2 (w : World) (x y : Array Value) (t u : TypeId) : Below w.heap.size w ((w.alloc (.cells x t)).alloc (.cells y u)) ∧ ((w.alloc (.cells x t)).alloc (.cells y u)).heap[w.heap.size]? = some (.cells x t (0, 0)) ∧ ((w.alloc (.cells x t)).alloc (.cells y u)).heap[w.heap.size + 1]? = some (.cells y u (0, 0)) := by
  refine ⟨((Below.refl _ _).alloc (Nat.le_refl _) _).alloc (by simp) _, ?_, ?_⟩
  · rw [heap_alloc_old _ _ (by simp)]
    exact heap_alloc_new w _
  · have := heap_alloc_new (w.alloc (.cells x t)) (.cells y u)
    simpa using this
/-- What is kept of a box, and of the result's, by a call. -/
structure BoxF (w w1 : World) (x y : Array Value) (t : TypeId) : Prop where
  bel : Below w.heap.size w w1
  box : w1.heap[w.heap.size]? = some (.cells x t (0, 0))
  res : w1.heap[w.heap.size + 1]? = some (.cells y t (0, 0))
theorem boxF_start (w : World) (x y : Array Value) (t : TypeId) : BoxF w ((w.alloc (.cells x t)).alloc (.cells y t)) x y t := ⟨(boxes2 w x y t t).1, (boxes2 w x y t t).2.1, (boxes2 w x y t t).2.2⟩
theorem BoxF.below {w w1 w2 : World} {x y : Array Value} {t : TypeId} (h : BoxF w w1 x y t) (hb : Below w1.heap.size w1 w2) : BoxF w w2 x y t := by
  have h2 : w.heap.size + 1 < w1.heap.size := (Array.getElem?_eq_some_iff.1 h.res).1
  exact ⟨h.bel.trans (hb.mono h.bel.size), by rw [hb.block _ (by omega)]; exact h.box, by rw [hb.block _ h2]; exact h.res⟩
theorem BoxF.set {w w1 : World} {x y : Array Value} {t : TypeId} (h : BoxF w w1 x y t) (i : Nat) (v : Value) : BoxF w (w1.setCell ⟨w.heap.size, i, none⟩ v) (x.setIfInBounds i v) y t :=
  ⟨h.bel.setCell (Nat.le_refl _) v, heap_setCell_same w1 _ i x t v h.box, (Below.heap_setCell w1 ⟨w.heap.size, i, none⟩ v _ (by show w.heap.size + 1 ≠ w.heap.size; omega)).trans h.res⟩
theorem BoxF.same {w w1 : World} {x y : Array Value} {t : TypeId} (h : BoxF w w1 x y t) {i : Nat} {v : Value} (hv : x[i]? = some v) : w1.setCell ⟨w.heap.size, i, none⟩ v = w1 := setCell_same h.box hv
theorem BoxF.at {w w1 : World} {x y : Array Value} {t : TypeId} (h : BoxF w w1 x y t) (i : Nat) {v : Value} (hv : x[i]? = some v) : w1.cell? ⟨w.heap.size, i, none⟩ = some v := (cell_of h.box).trans hv
/-- What a function answers whose result lies in a block. -/
theorem res_cell {P : Program} {fn : Func} {tmps : Array Value} {W : World} {a : Tmp} {t u : TypeId} {g : Nat} {vs : List Value} {k : Nat} (hf : fn.results = #[.cell a t]) (hp : tmps.getD a undef = .pointer (some ⟨g, 0, none⟩)) (ha : ∀ w, (isAgg t).run P w = .ok true w) (hs : ∀ w, (Go.sizeOf t).run P w = .ok k w) (hk : vs.length = k) (h : W.heap[g]? = some (.cells vs.toArray u (0, 0))) :
    (results fn tmps).run P W = .ok (.agg vs.toArray) W := by
  have hl := run_loadCellsFrom_list P W ⟨g, 0, none⟩ vs k hk (fun i v hi => by
    rw [Addr.add_lit, Nat.zero_add, cell_of h]
    simpa using hi)
  simp only [Array.getD_eq_getD_getElem?] at hp
  unfold results
  rw [hf]
  simp [hp, loadVar, ha, hs, asAddr, loadCells, hl]
end Go.Proofs.YtoblpjknnchlmacGreatDoor

/- A block of an argument's, and one of an answer's that is written into. -/
namespace Go.Proofs.YtoblpjknnchlmacGreatDoor
open Go.RowKit

structure BoxG (w : World) (x : Array Value) (n : Nat) (t : TypeId) (W : World) : Prop where
  bel : Below w.heap.size w W
  box : W.heap[w.heap.size]? = some (.cells x t (0, 0))
  res : ∃ y : Array Value, y.size = n ∧ W.heap[w.heap.size + 1]? = some (.cells y t (0, 0))
theorem BoxG.below {w w1 w2 : World} {x : Array Value} {n : Nat} {t : TypeId} (h : BoxG w x n t w1) (hb : Below w1.heap.size w1 w2) : BoxG w x n t w2 := by
  obtain ⟨y, hy, hr⟩ := h.res
  have h2 : w.heap.size + 1 < w1.heap.size := (Array.getElem?_eq_some_iff.1 hr).1
  exact ⟨h.bel.trans (hb.mono h.bel.size), by rw [hb.block _ (by omega)]; exact h.box, y, hy, by rw [hb.block _ h2]; exact hr⟩
theorem BoxG.at {w w1 : World} {x : Array Value} {n : Nat} {t : TypeId} (h : BoxG w x n t w1) (i : Nat) {v : Value} (hv : x[i]? = some v) : w1.cell? ⟨w.heap.size, i, none⟩ = some v := (cell_of h.box).trans hv
theorem BoxG.of {w w1 : World} {x y : Array Value} {t : TypeId} (h : BoxF w w1 x y t) : BoxG w x y.size t w1 := ⟨h.bel, h.box, y, rfl, h.res⟩
theorem BoxG.store {w w1 : World} {x : Array Value} {n : Nat} {t : TypeId} (h : BoxG w x n t w1) (vs : List Value) (hn : vs.length = n) :
    BoxG w x n t (w1.setCells (w.heap.size + 1) 0 vs) ∧ (w1.setCells (w.heap.size + 1) 0 vs).heap[w.heap.size + 1]? = some (.cells vs.toArray t (0, 0)) := by
  obtain ⟨y, hy, hr⟩ := h.res
  obtain ⟨z1, z2⟩ := setAll vs hr (by omega)
  have h2 : w.heap.size < w1.heap.size := (Array.getElem?_eq_some_iff.1 h.box).1
  exact ⟨⟨h.bel.grown z2 h.bel.size (fun i hi => by injection hi with hi; omega), by rw [z2.block _ h2 (by simp)]; exact h.box, _, by simpa using hn, z1⟩, z1⟩
theorem BoxG.frees {w w1 : World} {x : Array Value} {n : Nat} {t : TypeId} (h : BoxG w x n t w1) (i : Nat) : w1.frozen? ⟨w.heap.size + 1, i, none⟩ = false := by
  obtain ⟨y, hy, hr⟩ := h.res
  exact free_of hr i
theorem BoxG.some {w w1 : World} {x : Array Value} {n : Nat} {t : TypeId} (h : BoxG w x n t w1) (i : Nat) (hi : i < n) : ∃ v, w1.cell? ⟨w.heap.size + 1, i, none⟩ = some v := by
  obtain ⟨y, hy, hr⟩ := h.res
  exact ⟨y[i]'(by omega), (cell_of hr).trans (Array.getElem?_eq_getElem (by omega))⟩
end Go.Proofs.YtoblpjknnchlmacGreatDoor

/- passesFor's closure: one pass more, if it isn't there. -/
namespace Go.Proofs.YtoblpjknnchlmacGreatDoor
open Go.RowKit

def addX (l : List (ByteArray × ByteArray)) (x : ByteArray × ByteArray) : List (ByteArray × ByteArray) := if l.any (sameX x) then l else l ++ [x]
/-- What passesFor's closure holds: a pass, and the passes so far. -/
structure HoldX (p : PsV) (gp gs B : Nat) (l : List (ByteArray × ByteArray)) (W : World) : Prop where
  one : W.heap[gp]? = some (.cells #[.bool p.fs, .string p.fh, .int .i64 p.fp, .bool p.us, .string p.uh, .int .i64 p.up, .string p.pa, .string p.qu, .bool p.wi, .string ⟨#[]⟩, .string ⟨#[]⟩, .int .i64 p.un] 40 (0, 0))
  own : ∃ v, W.heap[gs]? = some (.cells #[v] 36 (0, 0)) ∧ OwnX p W B v l
  gpB : gp < B
  gsB : gs < B
  ne : gp ≠ gs
  bW : B ≤ W.heap.size
theorem HoldX.below {p : PsV} {gp gs B : Nat} {l : List (ByteArray × ByteArray)} {W W' : World} (h : HoldX p gp gs B l W) (hb : Below W.heap.size W W') : HoldX p gp gs B l W' := by
  obtain ⟨v, h1, h2⟩ := h.own
  refine ⟨?_, ⟨v, ?_, h2.below hb⟩, h.gpB, h.gsB, h.ne, Nat.le_trans h.bW hb.size⟩
  · rw [hb.block _ (Array.getElem?_eq_some_iff.1 h.one).1]; exact h.one
  · rw [hb.block _ (Array.getElem?_eq_some_iff.1 h1).1]; exact h1
theorem HoldX.setTo {p : PsV} {gp gs B : Nat} {l' : List (ByteArray × ByteArray)} {W : World} {g cap n : Nat} (h1 : W.heap[gp]? = some (.cells #[.bool p.fs, .string p.fh, .int .i64 p.fp, .bool p.us, .string p.uh, .int .i64 p.up, .string p.pa, .string p.qu, .bool p.wi, .string ⟨#[]⟩, .string ⟨#[]⟩, .int .i64 p.un] 40 (0, 0))) (h2 : ∃ u, W.heap[gs]? = some (.cells #[u] 36 (0, 0))) (hown : OwnX p W B (.slice (some ⟨g, 0, none⟩) n cap) l') (hgp : gp < B) (hgs : gs < B) (hne : gp ≠ gs) (hbW : B ≤ W.heap.size) :
    HoldX p gp gs B l' (W.setCell ⟨gs, 0, none⟩ (.slice (some ⟨g, 0, none⟩) n cap)) := by
  obtain ⟨u, hu⟩ := h2
  have hg : W.grownBy (W.setCell ⟨gs, 0, none⟩ (.slice (some ⟨g, 0, none⟩) n cap)) (some gs) := grown_setCells W gs 0 [.slice (some ⟨g, 0, none⟩) n cap]
  have hlt : gp < W.heap.size := (Array.getElem?_eq_some_iff.1 h1).1
  refine ⟨?_, ⟨.slice (some ⟨g, 0, none⟩) n cap, ?_, ?_⟩, hgp, hgs, hne, Nat.le_trans hbW hg.size⟩
  · rw [hg.block _ hlt (by intro e; injection e with e; exact hne e)]
    exact h1
  · have := heap_setCell_same W gs 0 #[u] 36 (.slice (some ⟨g, 0, none⟩) n cap) hu
    simpa using this
  · refine hown.kept hg (.inr ?_)
    have := (OwnK.lt hown g rfl).1
    intro e
    have e2 : (some g : Option Nat) = some gs := e
    injection e2 with e2
    omega
set_option maxRecDepth 100000 in
set_option maxHeartbeats 8000000 in
theorem add9_any (p : PsV) (gp gs B : Nat) (l : List (ByteArray × ByteArray)) (hl : l.length ≤ 500) (x y : ByteArray) (w : World) (h : HoldX p gp gs B l w) :
    Calls Tryz.prog 53 #[.string x, .string y, .pointer (some ⟨gp, 0, none⟩), .pointer (some ⟨gs, 0, none⟩)] w fun e w' => e = .returned (.tuple #[]) ∧ HoldX p gp gs B (addX l (x, y)) w' ∧ Below gs w w' := by
  have H : Hid (HoldX p gp gs B l w) := h
  obtain ⟨v, hv, hown⟩ := h.own
  obtain ⟨a, cap, g, rfl, hps⟩ := hown.pss
  obtain ⟨n, HN⟩ : ∃ n, Hid (l.length = n) := ⟨_, rfl⟩
  rw [HN.out] at hv hown hps hl
  have HV : Hid (w.heap[gs]? = some (.cells #[.slice a n cap] 36 (0, 0)) ∧ OwnX p w B (.slice a n cap) l ∧ Pss w a n g 0 (l.map p.of)) := ⟨hv, hown, hps⟩
  have sv : w.cell? ⟨gs, 0, none⟩ = some (.slice a n cap) := cell_of hv
  have HGSW : Hid (gs ≤ w.heap.size ∧ gs < B ∧ gp < B ∧ gp ≠ gs ∧ B ≤ w.heap.size) := ⟨Nat.le_of_lt (Array.getElem?_eq_some_iff.1 hv).1, h.gsB, h.gpB, h.ne, h.bW⟩
  have c0 : w.cell? ⟨gp, 0, none⟩ = some (.bool p.fs) := cell_of h.one
  have c1 : w.cell? ⟨gp, 1, none⟩ = some (.string p.fh) := cell_of h.one
  have c2 : w.cell? ⟨gp, 2, none⟩ = some (.int .i64 p.fp) := cell_of h.one
  have c3 : w.cell? ⟨gp, 3, none⟩ = some (.bool p.us) := cell_of h.one
  have c4 : w.cell? ⟨gp, 4, none⟩ = some (.string p.uh) := cell_of h.one
  have c5 : w.cell? ⟨gp, 5, none⟩ = some (.int .i64 p.up) := cell_of h.one
  have c6 : w.cell? ⟨gp, 6, none⟩ = some (.string p.pa) := cell_of h.one
  have c7 : w.cell? ⟨gp, 7, none⟩ = some (.string p.qu) := cell_of h.one
  have c8 : w.cell? ⟨gp, 8, none⟩ = some (.bool p.wi) := cell_of h.one
  have c9 : w.cell? ⟨gp, 9, none⟩ = some (.string ⟨#[]⟩) := cell_of h.one
  have c10 : w.cell? ⟨gp, 10, none⟩ = some (.string ⟨#[]⟩) := cell_of h.one
  have c11 : w.cell? ⟨gp, 11, none⟩ = some (.int .i64 p.un) := cell_of h.one
  clear h hv hown hps
  have HQ : Hid (BoxQ 40 w #[.bool p.fs, .string p.fh, .int .i64 p.fp, .bool p.us, .string p.uh, .int .i64 p.up, .string p.pa, .string p.qu, .bool p.wi, .string x, .string y, .int .i64 p.un] (w.alloc (.cells #[.bool p.fs, .string p.fh, .int .i64 p.fp, .bool p.us, .string p.uh, .int .i64 p.up, .string p.pa, .string p.qu, .bool p.wi, .string x, .string y, .int .i64 p.un] 40))) := BoxQ.new _ _ _
  have hsv1 : (w.alloc (.cells #[.bool p.fs, .string p.fh, .int .i64 p.fp, .bool p.us, .string p.uh, .int .i64 p.up, .string p.pa, .string p.qu, .bool p.wi, .string x, .string y, .int .i64 p.un] 40)).cell? ⟨gs, 0, none⟩ = some (.slice a n cap) := (HQ.out.bel.cell (p := ⟨gs, 0, none⟩) (lt_cell9 sv)).trans sv
  have q0 := HQ.out.at 0 _ rfl
  have q1 := HQ.out.at 1 _ rfl
  have q2 := HQ.out.at 2 _ rfl
  have q3 := HQ.out.at 3 _ rfl
  have q4 := HQ.out.at 4 _ rfl
  have q5 := HQ.out.at 5 _ rfl
  have q6 := HQ.out.at 6 _ rfl
  have q7 := HQ.out.at 7 _ rfl
  have q8 := HQ.out.at 8 _ rfl
  have q9 := HQ.out.at 9 _ rfl
  have q10 := HQ.out.at 10 _ rfl
  have q11 := HQ.out.at 11 _ rfl
  go_enter Tryz.func53, Tryz.ntmps53
  go_wp2_with fail
  refine (containsX_any p (x, y) l a n cap g 0 (by omega) _ (HV.out.2.2.below HQ.out.bel)).mono ?_
  rintro e w2 ⟨rfl, hb2⟩
  have HB2 : Hid (Below w.heap.size w w2) := HQ.out.inB hb2
  have HQ2 : Hid (BoxQ 40 w #[.bool p.fs, .string p.fh, .int .i64 p.fp, .bool p.us, .string p.uh, .int .i64 p.up, .string p.pa, .string p.qu, .bool p.wi, .string x, .string y, .int .i64 p.un] w2) := HQ.out.step hb2
  clear hb2 HQ sv hsv1 c0 q0 c1 q1 c2 q2 c3 q3 c4 q4 c5 q5 c6 q6 c7 q7 c8 q8 c9 q9 c10 q10 c11 q11
  obtain ⟨t, HT⟩ : ∃ t, Hid (l.any (sameX (x, y)) = t) := ⟨_, rfl⟩
  rw [HT.out]
  cases t
  · have HA : Hid (addX l (x, y) = l ++ [(x, y)]) := by show _ = _; unfold addX; rw [HT.out]; rfl
    have HV2 : Hid (w2.heap[gs]? = some (.cells #[.slice a n cap] 36 (0, 0)) ∧ w2.heap[gp]? = some (.cells #[.bool p.fs, .string p.fh, .int .i64 p.fp, .bool p.us, .string p.uh, .int .i64 p.up, .string p.pa, .string p.qu, .bool p.wi, .string ⟨#[]⟩, .string ⟨#[]⟩, .int .i64 p.un] 40 (0, 0)) ∧ OwnX p w2 B (.slice a n cap) l) :=
      ⟨by rw [HB2.out.block _ (Array.getElem?_eq_some_iff.1 HV.out.1).1]; exact HV.out.1, by rw [HB2.out.block _ (Array.getElem?_eq_some_iff.1 H.out.one).1]; exact H.out.one, HV.out.2.1.below HB2.out⟩
    have sv2 : w2.cell? ⟨gs, 0, none⟩ = some (.slice a n cap) := cell_of HV2.out.1
    have hz2 : B ≤ w2.heap.size := Nat.le_trans HGSW.out.2.2.2.2 HB2.out.size
    have b0 := HQ2.out.at 0 _ rfl
    have b1 := HQ2.out.at 1 _ rfl
    have b2 := HQ2.out.at 2 _ rfl
    have b3 := HQ2.out.at 3 _ rfl
    have b4 := HQ2.out.at 4 _ rfl
    have b5 := HQ2.out.at 5 _ rfl
    have b6 := HQ2.out.at 6 _ rfl
    have b7 := HQ2.out.at 7 _ rfl
    have b8 := HQ2.out.at 8 _ rfl
    have b9 := HQ2.out.at 9 _ rfl
    have b10 := HQ2.out.at 10 _ rfl
    have b11 := HQ2.out.at 11 _ rfl
    go_wp2_with (at_builtin; refine wp_appX rfl _ _ rfl p B w2 (.slice a n cap) l n rfl HV2.out.2.2 HN.out (by omega) hz2 (x, y) rfl ?_; intro g4 cap4 w4 hown4 hg4 hlt4 hBg; have HR4 : Hid (OwnX p w4 B (.slice (some ⟨g4, 0, none⟩) (n + 1) cap4) (l ++ [(x, y)]) ∧ w4.heap[gs]? = some (.cells #[.slice a n cap] 36 (0, 0)) ∧ w4.heap[gp]? = some (.cells #[.bool p.fs, .string p.fh, .int .i64 p.fp, .bool p.us, .string p.uh, .int .i64 p.up, .string p.pa, .string p.qu, .bool p.wi, .string ⟨#[]⟩, .string ⟨#[]⟩, .int .i64 p.un] 40 (0, 0)) ∧ Below gs w w4 ∧ B ≤ w4.heap.size) := (have hA : Below w2.heap.size w2 (w2.alloc (.cells #[.bool p.fs, .string p.fh, .int .i64 p.fp, .bool p.us, .string p.uh, .int .i64 p.up, .string p.pa, .string p.qu, .bool p.wi, .string x, .string y, .int .i64 p.un] 40)) := (Below.refl _ _).alloc (Nat.le_refl _) _; have hob : ∀ k, k < B → some k ≠ (Value.slice a n cap).ownBlock := fun k hk e => (by have := (OwnK.lt HV2.out.2.2 k e.symm).1; omega); have hk4 : ∀ k, k < B → w4.heap[k]? = w2.heap[k]? := fun k hk => (by rw [hg4.block k (by simp; omega) (hob k hk), hA.block k (by omega)]); ⟨hown4, (by rw [hk4 _ HGSW.out.2.1]; exact HV2.out.1), (by rw [hk4 _ HGSW.out.2.2.1]; exact HV2.out.2.1), ((HB2.out.mono HGSW.out.1).alloc (by have := HGSW.out.1; have := HB2.out.size; omega) _).grown hg4 (by have := HGSW.out.1; have := HB2.out.size; simp; omega) (fun i hi => by have := (OwnK.lt HV2.out.2.2 i hi).1; have := HGSW.out.2.1; omega), Nat.le_trans (by simp; omega) hg4.size⟩); clear hown4 hg4 hlt4 hBg; have sv4 : w4.cell? ⟨gs, 0, none⟩ = some (.slice a n cap) := cell_of HR4.out.2.1; have fz4 := free_of HR4.out.2.1)
    have HF : Hid (HoldX p gp gs B (l ++ [(x, y)]) (w4.setCell ⟨gs, 0, none⟩ (.slice (some ⟨g4, 0, none⟩) (n + 1) cap4)) ∧ Below gs w (w4.setCell ⟨gs, 0, none⟩ (.slice (some ⟨g4, 0, none⟩) (n + 1) cap4))) :=
      ⟨HoldX.setTo HR4.out.2.2.1 ⟨_, HR4.out.2.1⟩ HR4.out.1 HGSW.out.2.2.1 HGSW.out.2.1 HGSW.out.2.2.2.1 HR4.out.2.2.2.2, HR4.out.2.2.2.1.setCell (Nat.le_refl _) _⟩
    go_wp2
    go_end0
    exact ⟨rfl, by rw [HA.out]; exact HF.out.1, HF.out.2⟩
  · have HA : Hid (addX l (x, y) = l) := by show _ = _; unfold addX; rw [HT.out]; rfl
    go_wp2
    go_end0
    exact ⟨rfl, by rw [HA.out]; exact H.out.below HB2.out, HB2.out.mono HGSW.out.1⟩
end Go.Proofs.YtoblpjknnchlmacGreatDoor

/- The passes for a request, each once. -/
namespace Go.Proofs.YtoblpjknnchlmacGreatDoor

theorem addX_len (l : List (ByteArray × ByteArray)) (x : ByteArray × ByteArray) : (addX l x).length ≤ l.length + 1 := by
  unfold addX
  split <;> simp
theorem foldX_len (s : List (ByteArray × ByteArray)) : ∀ (l : List (ByteArray × ByteArray)), (l.foldl addX s).length ≤ s.length + l.length := by
  intro l
  induction l generalizing s with
  | nil => simp
  | cons x r ih =>
    have h1 := ih (addX s x)
    have h2 := addX_len s x
    simp only [List.foldl_cons, List.length_cons]
    omega
theorem foldX_snoc {α : Type} (f : α → ByteArray × ByteArray) (s : List (ByteArray × ByteArray)) {xs : List α} {k : Nat} {x : α} (h : xs[k]? = some x) : ((xs.take (k + 1)).map f).foldl addX s = addX (((xs.take k).map f).foldl addX s) (f x) := by
  obtain ⟨hk, e⟩ := List.getElem?_eq_some_iff.1 h
  rw [List.take_succ_eq_append_getElem hk, List.map_append, List.foldl_append, e]
  rfl
def mX (m : ByteArray) : ByteArray × ByteArray := (m, ⟨#[]⟩)
def hX (h : ByteArray) : ByteArray × ByteArray := (⟨#[]⟩, bs (h.data.toList.map low))
def passM (ms : List ByteArray) : List (ByteArray × ByteArray) := (ms.map mX).foldl addX []
def passL (ms hs : List ByteArray) : List (ByteArray × ByteArray) := (hs.map hX).foldl addX (passM ms)
theorem passM_len (ms : List ByteArray) : (passM ms).length ≤ ms.length := by
  have := foldX_len [] (ms.map mX)
  simpa [passM] using this
theorem passL_len (ms hs : List ByteArray) : (passL ms hs).length ≤ ms.length + hs.length := by
  have h1 := foldX_len (passM ms) (hs.map hX)
  have h2 := passM_len ms
  unfold passL
  rw [List.length_map] at h1
  omega
end Go.Proofs.YtoblpjknnchlmacGreatDoor
