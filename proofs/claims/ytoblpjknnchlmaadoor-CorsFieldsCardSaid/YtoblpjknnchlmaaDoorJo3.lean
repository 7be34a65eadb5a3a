/- Texts of one claim, joined: each begins with what it proves. -/
import Derived.Test.YtoblpjknnchlmaaDoorJo1
import Derived.Test.YtoblpjknnchlmaaDoorJo2
import Derived.Shelf.LaysM
import Derived.Shelf.Strconv.Clone
import Derived.Deep.Onto
import Derived.Deep.LoopGhost
import Derived.Deep.RegionHeld3
import Derived.Laws.OwnMore
import Derived.Laws.IdiomCopy
import Derived.Deep.Upon
import Derived.Below
import Derived.Shelf.SlicesQ.Load
import Derived.Deep.DeepCutAuto
import Derived.RegionTactic
import Derived.LaidEql
import Derived.Stop.Asserts
import Derived.RowKitTokens
/- A text without the blanks about it, by the library. -/
namespace Go.Proofs.YtoblpjknnchlmaaDoor
open Go.RowKit Go.Shelf

theorem trimBoth_any (p : ByteArray) (hp : p.size ≤ 20000) (w : World) :
    Calls Tryd.prog 13 #[.string p, .string ⟨#[32, 9]⟩] w fun e w' => ∃ t : ByteArray, e = .returned (.string t) ∧ Hid (t.data.toList = trimW p.data.toList) ∧ t.size ≤ p.size ∧ Below w.heap.size w w' := by
  refine (Any.strings_Trim_laid lays160 (by kernel_rfl) p ⟨#[32, 9]⟩ w (by omega) (by decide) (ascii_of_all (by decide))).mono ?_
  rintro e w' ⟨rfl, hb⟩
  have e1 : (⟨(Lib.trimS p.data.toList (⟨#[32, 9]⟩ : ByteArray).data.toList).toArray⟩ : ByteArray) = bs (trimW p.data.toList) := by
    show bs (Lib.trimS p.data.toList [32, 9]) = _
    rw [trimS_is]
  refine ⟨bs (trimW p.data.toList), by rw [e1], bs_data _, ?_, hb⟩
  rw [bs_size, ← (show p.data.toList.length = p.size from Array.length_toList)]
  exact trim_length _
end Go.Proofs.YtoblpjknnchlmaaDoor

/- The library's contracts that are leant on, laid at this program's numbers. -/
namespace Go.Proofs.YtoblpjknnchlmaaDoor
open Go.Shelf Go.RowKit
def laysM316_ren : Go.Shelf.Ren := ⟨fun | 316 => 34 | n => n, fun | 9 => 9 | 3 => 3 | 4 => 4 | 37 => 73 | 0 => 0 | 127 => 74 | 5 => 5 | n => n, fun | n => n⟩
theorem laysM316 : Go.Proofs.LaysM.n316 Tryd.prog laysM316_ren := {
  mixed := by kernel_rfl
  f316 := Tryd.func34.trans (congrArg some (by kernel_rfl))
  t0 := Tryd.underlying0
  a0 := Tryd.isAgg0
  z0 := Tryd.sizeOf0
  v0 := Tryd.zeroValue0
  t3 := Tryd.underlying3
  a3 := Tryd.isAgg3
  z3 := Tryd.sizeOf3
  v3 := Tryd.zeroValue3
  t4 := Tryd.underlying4
  a4 := Tryd.isAgg4
  z4 := Tryd.sizeOf4
  v4 := Tryd.zeroValue4
  t9 := Tryd.underlying9
  a9 := Tryd.isAgg9
  z9 := Tryd.sizeOf9
  v9 := Tryd.zeroValue9
  t37 := Tryd.underlying73
  a37 := Tryd.isAgg73
  z37 := Tryd.sizeOf73
  v37 := Tryd.zeroValue73
  t127 := Tryd.underlying74
  a127 := Tryd.isAgg74
  z127 := Tryd.sizeOf74
  v127 := Tryd.zeroValue74
  t5 := Tryd.underlying5
  a5 := Tryd.isAgg5
  z5 := Tryd.sizeOf5
  v5 := Tryd.zeroValue5
  i0 := by kernel_rfl
  i3 := by kernel_rfl
  i4 := by kernel_rfl
  i5 := by kernel_rfl
  i9 := by kernel_rfl
  i37 := by kernel_rfl
  i127 := by kernel_rfl }
end Go.Proofs.YtoblpjknnchlmaaDoor

/- A text once more, by the library. -/
namespace Go.Proofs.YtoblpjknnchlmaaDoor
open Go.RowKit Go.Shelf

theorem clone_any (s : ByteArray) (hs : s.size ≤ 20000) (w : World) :
    Calls Tryd.prog 18 #[.string s] w fun e w' => e = .returned (.string s) ∧ Below w.heap.size w w' := by
  have hc : ∀ w, Calls Tryd.prog 34 #[.string s] w fun e w' => e = .returned (.string s) ∧ Below w.heap.size w w' := fun w => Any.stringslite_Clone laysM316 s w (by omega)
  go_enter Tryd.func18, Tryd.ntmps18
  go_wp2_with (go_at_call 34; refine (hc _).mono ?_; rintro e w' ⟨rfl, hb⟩)
  go_ret
  exact ⟨rfl, hb⟩
end Go.Proofs.YtoblpjknnchlmaaDoor

/- Cells of a block. -/
namespace Go.Proofs.YtoblpjknnchlmaaDoor
open Go.RowKit

theorem cells_of {w : World} {k : Nat} {cs : Array Value} {T : TypeId} {fz : Nat × Nat} (hk : w.heap[k]? = some (.cells cs T fz)) (j : Nat) (v : Value) (hj : cs[j]? = some v) : w.cell? ⟨k, j, none⟩ = some v := by
  simp [World.cell?, hk, hj]
theorem below_block {w w' : World} {k : Nat} {o : Obj} (hb : Below w.heap.size w w') (hk : w.heap[k]? = some o) : w'.heap[k]? = some o := by
  rw [hb.block k (Array.getElem?_eq_some_iff.1 hk).1]
  exact hk
end Go.Proofs.YtoblpjknnchlmaaDoor

/- Fields: the lines of an answer, by the program. -/
namespace Go.Proofs.YtoblpjknnchlmaaDoor
open Go.RowKit

/-- What Fields answers. -/
def FldAns (o : Except (Option Nat) (List Par)) (B : Nat) (e : Ending) (w' : World) : Prop :=
  (∃ acc v, o = .ok acc ∧ acc.length ≤ 40 ∧ e = .returned (.tuple #[v, .nilIface]) ∧ OwnP w' B v acc) ∨
  (o = .error none ∧ e = .returned (.tuple #[.slice none 0 0, .iface 24 (.int .i64 4)])) ∨
  (∃ i g : Nat, o = .error (some i) ∧ e = .returned (.tuple #[.slice none 0 0, .iface 45 (.pointer (some ⟨g, 0, none⟩))]) ∧ w'.cell? ⟨g, 0, none⟩ = some (.int .i64 3) ∧ w'.cell? ⟨g, 1, none⟩ = some (.int .i64 (i : Int)) ∧ B ≤ g)
theorem drop_at9 {α : Type} {l : List α} {k : Nat} {x : α} (h : l[k]? = some x) : l.drop k = x :: l.drop (k + 1) := by
  obtain ⟨hl, e⟩ := List.getElem?_eq_some_iff.1 h
  rw [List.drop_eq_getElem_cons hl, e]
theorem OwnP.mono9 {w : World} {B B' : Nat} {v : Value} {ps : List Par} (h : OwnP w B v ps) (hb : B' ≤ B) : OwnP w B' v ps := World.ownsRow.mono h hb
set_option maxRecDepth 100000 in
set_option maxHeartbeats 8000000 in
theorem fields9_any (s : ByteArray) (hs : s.size ≤ 3000) (w : World) :
    Calls Tryd.prog 6 #[.string s] w fun e w' => FldAns (fieldsF s.data.toList) w.heap.size e w' ∧ Below w.heap.size w w' := by
  obtain ⟨o, HO⟩ : ∃ o, Hid (fieldsF s.data.toList = o) := ⟨_, rfl⟩
  rw [HO.out]
  go_enter Tryd.func6, Tryd.ntmps6
  go_wp2_with fail
  refine (split_one s 10 (by omega) _).mono ?_
  rintro e w1 ⟨ls, rfl, hn, hw1, hsp⟩
  have HSP : Hid (ls.map (·.data.toList) = splitL 10 s.data.toList) := hsp
  have HB1 : Hid (Below w.heap.size w w1) := by show Below _ _ _; rw [hw1]; exact (Below.refl _ _).alloc (Nat.le_refl _) _
  have HR1 : Hid (w1.heap[w.heap.size]? = some (.cells (ls.map Value.string).toArray 9 (0, 0)) ∧ w1.heap.size = w.heap.size + 1) := by show _ ∧ _; rw [hw1]; exact ⟨heap_alloc_new _ _, by simp⟩
  have HLZ : Hid (∀ l ∈ ls, l.size ≤ 3000) := fun l hl => by
    have h1 : l.data.toList ∈ splitL 10 s.data.toList := by rw [← hsp]; exact List.mem_map.2 ⟨l, hl, rfl⟩
    have h2 := splitL_lens 10 _ _ h1
    have h3 : s.data.toList.length = s.size := Array.length_toList
    have h4 : l.data.toList.length = l.size := Array.length_toList
    omega
  have HFF : Hid (fieldsF s.data.toList = runF 0 [] (ls.map (·.data.toList))) := by show _ = _; unfold fieldsF; rw [hsp]
  obtain ⟨n, HN⟩ : ∃ n, Hid (ls.length = n) := ⟨_, rfl⟩
  have hn1 : n ≤ 3001 := by have := HN.out; omega
  rw [HN.out]
  clear hw1 hsp hn
  go_wp2
  go_loopw [4, 17] (fun v i wr => ∃ (k : Nat) (acc : List Par) (a : Option Addr) (m c : Nat), k ≤ n ∧ i = .int .i64 k ∧ v = .slice a m c ∧ m ≤ 40 ∧ Hid (acc.length = m) ∧ Hid (runF 0 [] (ls.map (·.data.toList)) = runF k acc ((ls.map (·.data.toList)).drop k)) ∧ Hid (OwnP wr (w.heap.size + 1) (.slice a m c) acc ∧ Below (w.heap.size + 1) w1 wr)) (fun _ i _ => n - (intOf i).toNat)
  case atStart => exact ⟨0, [], none, 0, 0, Nat.zero_le _, rfl, rfl, by omega, rfl, rfl, ownP_nil _ _, Below.refl _ _⟩
  case round =>
    obtain ⟨k, acc, a, m, c, hk, rfl, rfl, hm, HAC, HK, HI⟩ := hrel
    have HBW : Hid (Below w.heap.size w wr) := HB1.out.trans (HI.out.2.mono (by omega))
    have HZR : Hid (w.heap.size + 1 ≤ wr.heap.size) := by have := HI.out.2.size; have := HR1.out.2; show _ ≤ _; omega
    by_cases hlt : k < n
    · have hltz : (k : Int) < (n : Int) := by omega
      obtain ⟨l, hl⟩ : ∃ l, ls[k]? = some l := ⟨ls[k]'(by have := HN.out; omega), List.getElem?_eq_getElem _⟩
      have hlz := HLZ.out l (List.mem_of_getElem? hl)
      have cl : wr.cell? ⟨w.heap.size, k, none⟩ = some (.string l) := by
        have hr : wr.heap[w.heap.size]? = some (.cells (ls.map Value.string).toArray 9 (0, 0)) := by rw [HI.out.2.block _ (by omega)]; exact HR1.out.1
        exact cells_of hr k _ (by simp [hl])
      have HD : Hid ((ls.map (·.data.toList)).drop k = l.data.toList :: (ls.map (·.data.toList)).drop (k + 1)) := drop_at9 (by rw [List.getElem?_map, hl]; rfl)
      obtain ⟨t, HT⟩ : ∃ t, Hid (bs (lineT l.data.toList) = t) := ⟨_, rfl⟩
      have htz : t.size ≤ 3000 := by
        rw [← HT.out, bs_size]
        have h4 : l.data.toList.length = l.size := Array.length_toList
        have h5 : (lineT l.data.toList).length ≤ l.data.toList.length := by
          unfold lineT Lib.trimSuffix
          split <;> simp
        omega
      have HTL : Hid (lineT l.data.toList = t.data.toList) := by show _ = _; rw [← HT.out, bs_data]
      have htr := fun W => trim_any l ⟨#[13]⟩ W (by omega)
      have e13 : bs (Lib.trimSuffix l.data.toList (⟨#[13]⟩ : ByteArray).data.toList) = t := HT.out
      rw [e13] at htr
      clear hl e13
      go_wp2_with fail
      refine (htr _).mono ?_
      rintro e w2 ⟨rfl, hw2⟩
      obtain rfl := hw2.symm
      clear htr cl
      by_cases h0 : t.size = 0
      · have HNX : Hid (runF 0 [] (ls.map (·.data.toList)) = runF (k + 1) acc ((ls.map (·.data.toList)).drop (k + 1))) := by
          show _ = _
          rw [HK.out, HD.out]
          refine runF_skip ?_
          rw [HTL.out]
          exact List.eq_nil_of_length_eq_zero (by rw [Array.length_toList]; exact h0)
        have he : t.toList.isEmpty = true := by
          rw [ByteArray.toList_eq, List.isEmpty_iff]
          exact List.eq_nil_of_length_eq_zero (by rw [Array.length_toList]; exact h0)
        go_wp2
        go_roundw
        case rel => exact ⟨k + 1, acc, a, m, c, by omega, by go_num, rfl, hm, HAC, HNX, HI.out⟩
        case measure => simp [intOf]; omega
      · have HNE : Hid (lineT l.data.toList ≠ []) := by
          show _ ≠ _
          rw [HTL.out]
          intro e
          have h4 : t.data.toList.length = t.size := Array.length_toList
          rw [e] at h4
          exact h0 h4.symm
        have he : t.toList.isEmpty = false := by
          rw [ByteArray.toList_eq, ← HTL.out, List.isEmpty_eq_false_iff]
          exact HNE.out
        go_wp2_with fail
        refine (cut_any t 58 (by omega) _).mono ?_
        rintro e w3 ⟨x, y, f, rfl, hx, hy, hcut, hb3⟩
        have HB3 : Hid (Below wr.heap.size wr w3) := hb3
        clear hb3
        cases f
        · have HEE : Hid (o = .error (some k)) := by
            show _ = _
            rw [← HO.out, HFF.out, HK.out, HD.out]
            exact runF_bad HNE.out (by rw [HTL.out]; exact lineF_none1 hcut.out)
          have HBZ : Hid (Below w.heap.size w w3) := HBW.out.trans (HB3.out.mono HBW.out.size)
          go_wp2
          go_ret2
          exact ⟨.inr (.inr ⟨k, _, HEE.out, rfl, World.cell?_alloc_mark _ _ _ _ _, World.cell?_alloc_mark _ _ _ _ _, HBZ.out.size⟩), HBZ.out.alloc HBZ.out.size _⟩
        · obtain ⟨q, HQ⟩ : ∃ q, Hid (isL x.data.toList = q) := ⟨_, rfl⟩
          have his := fun W => is_any x (by omega) W
          rw [HQ.out] at his
          go_wp2_with fail
          refine (his _).mono ?_
          rintro e w4 ⟨rfl, hw4⟩
          obtain rfl := hw4.symm
          clear his
          cases q
          · have HEE : Hid (o = .error (some k)) := by
              show _ = _
              rw [← HO.out, HFF.out, HK.out, HD.out]
              exact runF_bad HNE.out (by rw [HTL.out]; exact lineF_none2 hcut.out HQ.out)
            have HBZ : Hid (Below w.heap.size w w3) := HBW.out.trans (HB3.out.mono HBW.out.size)
            go_wp2
            go_ret2
            exact ⟨.inr (.inr ⟨k, _, HEE.out, rfl, World.cell?_alloc_mark _ _ _ _ _, World.cell?_alloc_mark _ _ _ _ _, HBZ.out.size⟩), HBZ.out.alloc HBZ.out.size _⟩
          · have HLF : Hid (lineF (lineT l.data.toList) = some (x, bs (trimW y.data.toList))) := by
              show _ = _
              rw [HTL.out, lineF_some hcut.out HQ.out, bs_self]
            by_cases h40 : m = 40
            · have HEE : Hid (o = .error none) := by
                show _ = _
                rw [← HO.out, HFF.out, HK.out, HD.out]
                exact runF_many HNE.out HLF.out (by rw [HAC.out]; exact h40)
              have HBZ : Hid (Below w.heap.size w w3) := HBW.out.trans (HB3.out.mono HBW.out.size)
              have h40z : (m : Int) = 40 := by omega
              go_wp2
              go_ret2
              exact ⟨.inr (.inl ⟨HEE.out, rfl⟩), HBZ.out⟩
            · have HNX : Hid (runF 0 [] (ls.map (·.data.toList)) = runF (k + 1) (acc ++ [(x, bs (trimW y.data.toList))]) ((ls.map (·.data.toList)).drop (k + 1))) := by
                show _ = _
                rw [HK.out, HD.out]
                exact runF_next HNE.out HLF.out (by rw [HAC.out]; exact h40)
              have h40z : ¬ (m : Int) = 40 := by omega
              have HI3 : Hid (OwnP w3 (w.heap.size + 1) (.slice a m c) acc ∧ Below (w.heap.size + 1) w1 w3) := ⟨HI.out.1.below HB3.out, HI.out.2.trans (HB3.out.mono HZR.out)⟩
              clear hcut HB3
              go_wp2_with fail
              refine (clone_any x (by omega) _).mono ?_
              rintro e w4 ⟨rfl, hb4⟩
              go_wp2_with fail
              refine (trimBoth_any y (by omega) _).mono ?_
              rintro e w5 ⟨u, rfl, hu, huz, hb5⟩
              have HU : Hid (bs (trimW y.data.toList) = u) := by show _ = _; rw [← hu.out, bs_self]
              rw [HU.out] at HNX
              go_wp2_with fail
              refine (clone_any u (by omega) _).mono ?_
              rintro e w6 ⟨rfl, hb6⟩
              have HI6 : Hid (OwnP w6 (w.heap.size + 1) (.slice a m c) acc ∧ Below (w.heap.size + 1) w1 w6 ∧ w.heap.size + 1 ≤ w6.heap.size) := by
                have hz : w.heap.size + 1 ≤ w3.heap.size := by have := HI3.out.2.size; have := HR1.out.2; omega
                have b6 := hb4.trans ((hb5.trans (hb6.mono hb5.size)).mono hb4.size)
                exact ⟨HI3.out.1.below b6, HI3.out.2.trans (b6.mono hz), Nat.le_trans hz b6.size⟩
              clear hu hb4 hb5 hb6 HI3
              go_wp2_with (at_builtin; refine wp_appp rfl _ _ rfl (w.heap.size + 1) w6 (.slice a m c) acc m rfl HI6.out.1 HAC.out (by omega) HI6.out.2.2 (x, u) _ rfl rfl ?_; intro g7 cap7 w7 hown7 hg7 hlt7; have HI7 : Hid (OwnP w7 (w.heap.size + 1) (.slice (some ⟨g7, 0, none⟩) (m + 1) cap7) (acc ++ [(x, u)]) ∧ Below (w.heap.size + 1) w1 w7) := ⟨hown7, (HI6.out.2.1.alloc HI6.out.2.2 _).grown hg7 (by have := HI6.out.2.2; simp; omega) (fun i hi => (HI6.out.1.lt i hi).1)⟩; clear hown7 hg7 hlt7)
              go_roundw
              case rel => exact ⟨k + 1, acc ++ [(x, u)], _, m + 1, _, by omega, by go_num, rfl, by omega, (by show _ = _; rw [List.length_append, HAC.out]; rfl), HNX, HI7.out⟩
              case measure => simp [intOf]; omega
    · have hltz : ¬ (k : Int) < (n : Int) := by omega
      have HE : Hid (o = .ok acc) := by
        show _ = _
        rw [← HO.out, HFF.out, HK.out, List.drop_of_length_le (by rw [List.length_map]; have := HN.out; omega)]
        rfl
      go_wp2
      go_ret2
      exact ⟨.inl ⟨acc, _, HE.out, by rw [HAC.out]; exact hm, rfl, HI.out.1.mono9 (by omega)⟩, HBW.out⟩
end Go.Proofs.YtoblpjknnchlmaaDoor

/- Whether a number lies between two, by the document's own answer. -/
namespace Go.Proofs.YtoblpjknnchlmaaDoor
open Go.RowKit

set_option maxHeartbeats 400000 in
theorem within_any (n a b : Int) (w : World) :
    Calls Tryd.prog 40 #[.int .i64 n, .int .i64 a, .int .i64 b] w fun e w' => e = .returned (.bool (decide (a ≤ n ∧ n ≤ b))) ∧ w' = w := by
  by_cases h : a ≤ n
  · by_cases h2 : n ≤ b
    · go_enter Tryd.func40, Tryd.ntmps40
      go_wp2
      go_ret
      simp [h, h2]
    · go_enter Tryd.func40, Tryd.ntmps40
      go_wp2
      go_ret
      simp [h2]
  · go_enter Tryd.func40, Tryd.ntmps40
    go_wp2
    go_ret
    simp; omega

theorem within_yes (n a b : Int) (h : a ≤ n) (h2 : n ≤ b) (w : World) : Calls Tryd.prog 40 #[.int .i64 n, .int .i64 a, .int .i64 b] w fun e w' => e = .returned (.bool true) ∧ w' = w := by
  refine (within_any n a b w).mono ?_
  rintro e w' ⟨rfl, rfl⟩
  simp [h, h2]
theorem within_no (n a b : Int) (h : ¬ (a ≤ n ∧ n ≤ b)) (w : World) : Calls Tryd.prog 40 #[.int .i64 n, .int .i64 a, .int .i64 b] w fun e w' => e = .returned (.bool false) ∧ w' = w := by
  refine (within_any n a b w).mono ?_
  rintro e w' ⟨rfl, rfl⟩
  rw [decide_eq_false h]
  exact ⟨rfl, rfl⟩
end Go.Proofs.YtoblpjknnchlmaaDoor

/- Whether a byte may be one of a word, and a text is a word, by the document's own answer. -/
namespace Go.Proofs.YtoblpjknnchlmaaDoor
open Go.RowKit

def tbars : List UInt8 := [34, 40, 41, 44, 47, 58, 59, 60, 61, 62, 63, 64, 91, 92, 93, 123, 125]
def ixR (c : UInt8) : Int := ixOf tbars c
theorem ix_tbars (c : UInt8) (w : World) :
    Calls Tryd.prog 11 #[.string { data := #[34, 40, 41, 44, 47, 58, 59, 60, 61, 62, 63, 64, 91, 92, 93, 123, 125] }, .int .u8 (c.toNat : Int)] w fun e w' => e = .returned (.int .i64 (ixR c)) ∧ w' = w := ix_of _ c _ rfl w
set_option maxHeartbeats 1000000 in
theorem refByte_any (c : UInt8) (w : World) : Calls Tryd.prog 22 #[.int .u8 (c.toNat : Int)] w fun e w' => e = .returned (.bool (tokB c)) ∧ w' = w := by
  have hcl : (c.toNat : Int) < 256 := by have := c.toNat_lt; omega
  by_cases h : 33 ≤ (c.toNat : Int) ∧ (c.toNat : Int) ≤ 126
  · obtain ⟨x, hx, HX⟩ : ∃ x : Int, ixR c = x ∧ Hid (tokB c = decide (x < 0)) := by
      refine ⟨_, rfl, ?_⟩
      show _ = _
      rw [tok_all c, decide_eq_true (show 33 ≤ c.toNat ∧ c.toNat ≤ 126 by omega)]
      unfold ixR
      rcases ixOf_in tbars c with ⟨e1, e2⟩ | ⟨n, _, e1, e2⟩
      · rw [e1]; unfold tbars at e2; rw [e2]; rfl
      · rw [e1]; unfold tbars at e2; rw [e2]; simp
    rw [HX.out]
    go_enter Tryd.func22, Tryd.ntmps22
    go_wp2_with (first | (go_at_call 40; refine (within_yes _ _ _ h.1 h.2 _).mono ?_; rintro e w' ⟨rfl, rfl⟩) | (go_at_call 11; refine (ix_tbars c _).mono ?_; rintro e w' ⟨rfl, rfl⟩; rw [hx]))
    go_ret
    exact ⟨rfl, rfl⟩
  · have HX : Hid (tokB c = false) := by
      show _ = _
      rw [tok_all c, decide_eq_false (show ¬ (33 ≤ c.toNat ∧ c.toNat ≤ 126) by omega)]
      rfl
    rw [HX.out]
    go_enter Tryd.func22, Tryd.ntmps22
    go_wp2_with (go_at_call 40; refine (within_no _ _ _ h _).mono ?_; rintro e w' ⟨rfl, rfl⟩)
    go_ret
    exact ⟨rfl, rfl⟩
set_option maxHeartbeats 1000000 in
theorem refToken_any (s : ByteArray) (hs : s.size ≤ 20000) (w : World) :
    Calls Tryd.prog 12 #[.string s] w fun e w' => e = .returned (.bool (isL s.data.toList)) ∧ w' = w := by
  go_enter Tryd.func12, Tryd.ntmps12
  go_wp2
  go_loop [3] (fun i => ∃ (k : Nat), k ≤ s.size ∧ i = .int .i64 k ∧ Hid ((s.data.toList.take k).all tokB = true)) (fun i => s.size - (intOf i).toNat)
  case atStart => exact ⟨0, Nat.zero_le _, rfl, rfl⟩
  case round =>
    obtain ⟨k, hk, rfl, HK⟩ := hrel
    by_cases hlt : k < s.size
    · obtain ⟨c, hcd⟩ : ∃ c : UInt8, s[k] = c := ⟨_, rfl⟩
      have hcl : (c.toNat : Int) < 256 := by have := c.toNat_lt; omega
      cases hf : tokB c
      · have HR : Hid (isL s.data.toList = false) := by
          show _ = _
          rw [isL_run s (by omega), run_part tokB s k hlt c hcd HK hf]
          exact decide_eq_false (by omega)
        have hks : ¬ (k : Int) = (s.size : Int) := by omega
        by_cases h0 : 0 < k
        · go_wp2_with (go_at_call 22; refine (refByte_any c _).mono ?_; rintro e w' ⟨rfl, rfl⟩; rw [hf])
          go_ret
          exact ⟨ret_bool (by rw [HR.out]; exact beq_eq_false_iff_ne.2 hks), rfl⟩
        · go_wp2_with (go_at_call 22; refine (refByte_any c _).mono ?_; rintro e w' ⟨rfl, rfl⟩; rw [hf])
          go_ret
          exact ⟨ret_bool HR.out.symm, rfl⟩
      · have HS : Hid ((s.data.toList.take (k + 1)).all tokB = true) := all_snoc tokB s k hlt c hcd HK hf
        go_wp2_with (go_at_call 22; refine (refByte_any c _).mono ?_; rintro e w' ⟨rfl, rfl⟩; rw [hf])
        go_round
        case rel => exact ⟨k + 1, by omega, by go_num, HS⟩
        case measure => simp [intOf]; omega
    · obtain rfl : k = s.size := by omega
      by_cases h0 : 0 < s.size
      · have HR : Hid (isL s.data.toList = true) := by
          show _ = _
          rw [isL_run s h0, run_full tokB s s.size (Nat.le_refl _) HK]
          exact decide_eq_true rfl
        go_wp2
        go_ret
        exact ⟨ret_bool HR.out.symm, rfl⟩
      · have HR : Hid (isL s.data.toList = false) := isL_empty s (by omega)
        go_wp2
        go_ret
        exact ⟨ret_bool HR.out.symm, rfl⟩
end Go.Proofs.YtoblpjknnchlmaaDoor

/- A region driven by hand: an operation taken first. -/
namespace Go.Proofs.YtoblpjknnchlmaaDoor
open Go.RowKit

section
variable {P : Program} {ops : Array Oper} {Q : Exit → Act → World → Prop} {md : Region.Mode} {S : World → Prop}
theorem takeH {i : Nat} {oi : Oper} {d : Option Tmp} {v : Value} {fuel : Nat} {listed : Array Bool} {a : Act} {w : World} (hi : ops[i]? = some oi) (hd : oi.dst = d)
    (hs : Region.noSelect ops = true) (hf : Region.free md ops listed i = true) (hr : (Region.ready md ops listed).contains i = true)
    (hQ : ∀ c a w, Q (.panic c) (a.put oi.dst v) w → Q (.panic c) a w) (hw : Region.wanted oi (yielded ops a.tmps) = true) (hy : ∀ w, S w → (execOp a.eval oi).run P w = .ok (.value v) w) (hS : S w)
    (h : wpAnyH P md ops Q S fuel (listed.setIfInBounds i true) (a.put d v) w) : wpAnyH P md ops Q S (fuel + 1) listed a w := by
  subst hd
  exact wpAnyH_take hi hs hf hr hQ (Or.inl ⟨hw, hy⟩) hS h
theorem skipH {i : Nat} {oi : Oper} {d : Option Tmp} {fuel : Nat} {listed : Array Bool} {a : Act} {w : World} (hi : ops[i]? = some oi) (hd : oi.dst = d)
    (hs : Region.noSelect ops = true) (hf : Region.free md ops listed i = true) (hr : (Region.ready md ops listed).contains i = true)
    (hQ : ∀ c a w, Q (.panic c) (a.put oi.dst undef) w → Q (.panic c) a w) (hw : Region.wanted oi (yielded ops a.tmps) = false) (hS : S w)
    (h : wpAnyH P md ops Q S fuel (listed.setIfInBounds i true) (a.put d undef) w) : wpAnyH P md ops Q S (fuel + 1) listed a w := by
  subst hd
  exact wpAnyH_take hi hs hf hr hQ (Or.inr ⟨hw, rfl⟩) hS h
end
end Go.Proofs.YtoblpjknnchlmaaDoor

/- A fault, by the document. -/
namespace Go.Proofs.YtoblpjknnchlmaaDoor
open Go.RowKit

theorem fault_end {w : World} {b : Nat} {u v : Value} (h0 : w.cell? ⟨b, 0, none⟩ = some u) (h1 : w.cell? ⟨b, 1, none⟩ = some v) (x y : Value) :
    ((w.setCell ⟨b, 0, none⟩ x).setCell ⟨b, 1, none⟩ y).cell? ⟨b, 0, none⟩ = some x ∧ ((w.setCell ⟨b, 0, none⟩ x).setCell ⟨b, 1, none⟩ y).cell? ⟨b, 1, none⟩ = some y := by
  have e1 : (w.setCell ⟨b, 0, none⟩ x).cell? ⟨b, 1, none⟩ = some v := by
    rw [World.cell?_setCell_other _ _ _ _ (by intro e; injection e with _ e2; omega)]
    exact h1
  refine ⟨?_, World.cell?_setCell_same _ _ _ e1⟩
  rw [World.cell?_setCell_other _ _ _ _ (by intro e; injection e with _ e2; omega)]
  exact World.cell?_setCell_same _ _ _ h0
theorem goodF_any (w : World) : Calls Tryd.prog 14 #[] w fun e w' => e = .returned (.agg #[.int .i64 0, .int .i64 (-1)]) ∧ Below w.heap.size w w' := by
  go_enter Tryd.func14, Tryd.ntmps14
  go_wp2
  refine bodyPost_ret (v := .agg #[.int .i64 0, .int .i64 (-1)]) (by simp [results, Tryd.f14, go_sem]) rfl ⟨rfl, ?_⟩
  first | exact (Below.refl _ _).alloc (Nat.le_refl _) _ | exact (((Below.refl _ _).alloc (Nat.le_refl _) _).setCell (Nat.le_refl _) _).setCell (Nat.le_refl _) _
end Go.Proofs.YtoblpjknnchlmaaDoor

/- Rows of elements of some cells each that a call owns, and how they are written into. -/
namespace Go.Proofs.YtoblpjknnchlmaaDoor
open Go.RowKit

theorem heap_setCells (g : Nat) (t : TypeId) : ∀ (vs : List Value) (o : Nat) (w : World) (cur : Array Value), w.heap[g]? = some (.cells cur t (0, 0)) →
    ∃ cur', (w.setCells g o vs).heap[g]? = some (.cells cur' t (0, 0)) ∧ cur'.size = cur.size ∧ (o + vs.length ≤ cur.size → cur'.toList = cur.toList.take o ++ vs ++ cur.toList.drop (o + vs.length))
  | [], o, w, cur, h => ⟨cur, h, rfl, fun _ => by simp⟩
  | v :: r, o, w, cur, h => by
    obtain ⟨cur', h1, h2, h3⟩ := heap_setCells g t r (o + 1) (w.setCell ⟨g, o, none⟩ v) (cur.setIfInBounds o v) (heap_setCell_same w g o cur t v h)
    refine ⟨cur', h1, by rw [h2]; simp, fun hl => ?_⟩
    simp only [List.length_cons] at hl
    rw [h3 (by simp; omega), Array.toList_setIfInBounds]
    have ho : o < cur.toList.length := by rw [Array.length_toList]; omega
    have e1 : (cur.toList.set o v).take (o + 1) = cur.toList.take o ++ [v] := by
      apply List.ext_getElem?
      intro i
      simp only [List.getElem?_take, List.getElem?_set, List.getElem?_append, List.length_take]
      by_cases h1 : i < o
      · rw [if_pos (by omega), if_neg (by omega), if_pos (by omega), if_pos h1]
      · by_cases h2 : i = o
        · subst h2
          rw [if_pos (by omega), if_pos rfl, if_pos ho, if_neg (by omega)]
          rw [show i - min i cur.toList.length = 0 by omega]
          rfl
        · rw [if_neg (by omega), if_neg (by omega)]
          symm
          rw [List.getElem?_eq_none]
          simp
          omega
    have e2 : (cur.toList.set o v).drop (o + 1 + r.length) = cur.toList.drop (o + (v :: r).length) := by
      rw [List.drop_set_of_lt (by omega)]
      congr 1
      simp
      omega
    rw [e1, e2]
    simp
theorem grown_setCells (w : World) (g o : Nat) (vs : List Value) : w.grownBy (w.setCells g o vs) (some g) :=
  ⟨World.os_setCells w g o vs, by
    induction vs generalizing o w with
    | nil => rfl
    | cons v r ih => exact (ih (w.setCell ⟨g, o, none⟩ v) (o + 1)).trans rfl, World.output_setCells w g o vs, by
    induction vs generalizing o w with
    | nil => exact Nat.le_refl _
    | cons v r ih => exact Nat.le_trans (by simp [World.setCell]) (ih (w.setCell ⟨g, o, none⟩ v) (o + 1)), fun k hk hne => World.heap_setCells_other w g o vs hk (fun e => hne (by rw [e]))⟩

theorem gtrans {a b c : World} {row : Option Nat} (h : a.grownBy b row) (k : b.grownBy c row) : a.grownBy c row :=
  ⟨k.os.trans h.os, k.tape.trans h.tape, k.output.trans h.output, Nat.le_trans h.size k.size, fun i hi hne => (k.block i (Nat.lt_of_lt_of_le hi h.size) hne).trans (h.block i hi hne)⟩
theorem flat_len {k : Nat} : ∀ {xs : List (List Value)}, (∀ x ∈ xs, x.length = k) → xs.flatten.length = xs.length * k
  | [], _ => by simp
  | x :: r, h => by
    rw [List.flatten_cons, List.length_append, h x (by simp), flat_len (fun y hy => h y (by simp [hy])), List.length_cons, Nat.succ_mul, Nat.add_comm]
theorem flat_take {k : Nat} : ∀ {xs : List (List Value)} (_ : ∀ x ∈ xs, x.length = k) (i : Nat), xs.flatten.take (i * k) = (xs.take i).flatten
  | [], _, i => by simp
  | x :: r, h, 0 => by simp
  | x :: r, h, i + 1 => by
    have hx := h x (by simp)
    rw [List.flatten_cons, List.take_succ_cons, List.flatten_cons, ← flat_take (fun y hy => h y (by simp [hy])) i, Nat.succ_mul, Nat.add_comm, List.take_append]
    rw [hx, Nat.add_sub_cancel_left, List.take_of_length_le (by omega)]
theorem flat_drop {k : Nat} : ∀ {xs : List (List Value)} (_ : ∀ x ∈ xs, x.length = k) (i : Nat), xs.flatten.drop (i * k) = (xs.drop i).flatten
  | [], _, i => by simp
  | x :: r, h, 0 => by simp
  | x :: r, h, i + 1 => by
    have hx := h x (by simp)
    rw [List.flatten_cons, List.drop_succ_cons, ← flat_drop (fun y hy => h y (by simp [hy])) i, Nat.succ_mul, Nat.add_comm, List.drop_append]
    rw [hx, Nat.add_sub_cancel_left, List.drop_of_length_le (by omega), List.nil_append]
theorem flat_at {k : Nat} {xs : List (List Value)} (h : ∀ x ∈ xs, x.length = k) {j i : Nat} {x : List Value} {u : Value} (hj : xs[j]? = some x) (hi : x[i]? = some u) : xs.flatten[j * k + i]? = some u := by
  have e := flat_drop h j
  obtain ⟨hjl, hx⟩ := List.getElem?_eq_some_iff.1 hj
  rw [List.drop_eq_getElem_cons hjl, hx, List.flatten_cons] at e
  have e2 : (xs.flatten.drop (j * k))[i]? = some u := by
    rw [e, List.getElem?_append_left (List.getElem?_eq_some_iff.1 hi).1]
    exact hi
  rwa [List.getElem?_drop] at e2

/-- A value of slice type that owns these elements, of k cells each, among the blocks from B on. -/
structure OwnK (k : Nat) (t : TypeId) (w : World) (B : Nat) (v : Value) (xs : List (List Value)) : Prop where
  row : w.ownsRow B t k v xs.length xs.flatten
  len : ∀ x ∈ xs, x.length = k
  one : ∀ x ∈ xs, ∀ u ∈ x, u.oneCell' = true
theorem ownK_nil (k : Nat) (t : TypeId) (w : World) (B : Nat) : OwnK k t w B (.slice none 0 0) [] := ⟨⟨by simp, .inl ⟨rfl, rfl⟩⟩, fun x hx => (by cases hx), fun x hx => (by cases hx)⟩
section
variable {k n cap g B : Nat} {t : TypeId} {w : World} {v : Value} {xs : List (List Value)}
theorem OwnK.lt (h : OwnK k t w B v xs) : ∀ b, v.ownBlock = some b → B ≤ b ∧ b < w.heap.size := World.ownsRow.lt h.row
theorem OwnK.mono {B' : Nat} (h : OwnK k t w B v xs) (hb : B' ≤ B) : OwnK k t w B' v xs := ⟨World.ownsRow.mono h.row hb, h.len, h.one⟩
theorem OwnK.kept {w' : World} {row : Option Nat} (h : OwnK k t w B v xs) (hg : w.grownBy w' row) (hne : v.ownBlock = none ∨ v.ownBlock ≠ row) : OwnK k t w' B v xs := ⟨World.ownsRow.kept h.row hg hne, h.len, h.one⟩
theorem OwnK.below {w' : World} (h : OwnK k t w B v xs) (hb : Below w.heap.size w w') : OwnK k t w' B v xs := by
  refine h.kept (row := none) ⟨hb.os, hb.tape, hb.output, hb.size, fun i hi _ => hb.block i hi⟩ ?_
  rcases v.ownBlock with _ | k
  · exact .inl rfl
  · exact .inr (by simp)
theorem OwnK.drewN (h : OwnK k t w B v xs) (q : Nat) : OwnK k t (w.drewN q) B v xs := ⟨h.row, h.len, h.one⟩
/-- What it looks like. -/
theorem OwnK.forms (h : OwnK k t w B v xs) : (v = .slice none 0 0 ∧ xs = []) ∨ ∃ g cap, v = .slice (some ⟨g, 0, none⟩) xs.length cap ∧ B ≤ g ∧ g < w.heap.size ∧ xs.length ≤ cap ∧ cap ≤ maxLen := by
  rcases h.row.2 with ⟨e, h0⟩ | ⟨g, cap, cur, e, hB, hh, h1, h2, _⟩
  · exact .inl ⟨e, List.eq_nil_of_length_eq_zero h0⟩
  · exact .inr ⟨g, cap, e, hB, (Array.getElem?_eq_some_iff.1 hh).1, h1, h2⟩
theorem OwnK.cell (h : OwnK k t w B (.slice (some ⟨g, 0, none⟩) n cap) xs) {j i : Nat} {x : List Value} {u : Value} (hj : xs[j]? = some x) (hi : x[i]? = some u) : w.cell? ⟨g, j * k + i, none⟩ = some u := by
  have hc := World.ownsRow.cells h.row (g := g) rfl (j * k + i) u (flat_at h.len hj hi)
  rw [Addr.add_lit, Nat.zero_add] at hc
  exact hc
theorem OwnK.load (P : Program) (h : OwnK k t w B (.slice (some ⟨g, 0, none⟩) n cap) xs) {j : Nat} {x : List Value} (hj : xs[j]? = some x) : Sem.run P (loadCellsFrom ⟨g, j * k, none⟩ 0 k #[]) w = .ok x.toArray w :=
  run_loadCellsFrom_list P w _ x k (h.len x (List.mem_of_getElem? hj)) (fun i u hi => by rw [Addr.add_lit]; exact h.cell hj hi)
theorem OwnK.frozen (h : OwnK k t w B (.slice (some ⟨g, 0, none⟩) n cap) xs) (j : Nat) : w.frozen? ⟨g, j, none⟩ = false := by
  rcases h.row.2 with ⟨e, _⟩ | ⟨g', cap', cur, e, _, hh, _⟩
  · cases e
  · injection e with e1 _ _
    injection e1 with e1
    injection e1 with e1
    subst e1
    simp [World.frozen?, hh]
theorem OwnK.there (h : OwnK k t w B (.slice (some ⟨g, 0, none⟩) n cap) xs) (j : Nat) (hj : j < cap * k) : (w.cell? ⟨g, j, none⟩).isSome = true := by
  rcases h.row.2 with ⟨e, _⟩ | ⟨g', cap', cur, e, _, hh, _, _, hs, _⟩
  · cases e
  · injection e with e1 e2 e3
    injection e1 with e1
    injection e1 with e1
    subst e1 e3
    rw [cell_of_row w g j cur t (0, 0) hh, Array.getElem?_eq_getElem (by omega)]
    rfl
/-- Elements are written at a place. -/
theorem OwnK.put (h : OwnK k t w B (.slice (some ⟨g, 0, none⟩) n cap) xs) (i : Nat) (ys : List (List Value)) (hy : ∀ y ∈ ys, y.length = k) (hy1 : ∀ y ∈ ys, ∀ u ∈ y, u.oneCell' = true) (hi : i ≤ xs.length) (hc : i + ys.length ≤ cap) :
    OwnK k t (w.setCells g (i * k) ys.flatten) B (.slice (some ⟨g, 0, none⟩) (xs.take i ++ ys ++ xs.drop (i + ys.length)).length cap) (xs.take i ++ ys ++ xs.drop (i + ys.length)) := by
  have hall : ∀ x ∈ xs.take i ++ ys ++ xs.drop (i + ys.length), x ∈ xs ∨ x ∈ ys := fun x hx => by
    rcases List.mem_append.1 hx with hx | hx
    · rcases List.mem_append.1 hx with hx | hx
      · exact .inl (List.mem_of_mem_take hx)
      · exact .inr hx
    · exact .inl (List.mem_of_mem_drop hx)
  have hlen : ∀ x ∈ xs.take i ++ ys ++ xs.drop (i + ys.length), x.length = k := fun x hx => (hall x hx).elim (h.len x) (hy x)
  refine ⟨⟨flat_len hlen, ?_⟩, hlen, fun x hx => (hall x hx).elim (h.one x) (hy1 x)⟩
  rcases h.row.2 with ⟨e, _⟩ | ⟨g', cap', cur, e, hB, hh, hn, hm, hs, ht⟩
  · cases e
  · injection e with e1 e2 e3
    injection e1 with e1
    injection e1 with e1
    subst e1 e3
    obtain ⟨cur', h1, h2, h3⟩ := heap_setCells g t ys.flatten (i * k) w cur hh
    have hyl := flat_len hy
    have hck : i * k + ys.flatten.length ≤ cur.size := by
      rw [hyl, hs, ← Nat.add_mul]
      exact Nat.mul_le_mul_right _ hc
    have h3 := h3 hck
    have hLl : (xs.take i ++ ys ++ xs.drop (i + ys.length)).length ≤ cap := by simp; omega
    refine .inr ⟨g, cap, cur', rfl, hB, h1, hLl, hm, by rw [h2, hs], ?_⟩
    rw [h3]
    have hd : (xs.drop (i + ys.length)).flatten = (cur.toList.drop (i * k + ys.flatten.length)).take ((xs.length - (i + ys.length)) * k) := by
      rw [← flat_drop h.len, ← ht, hyl, ← Nat.add_mul, List.drop_take, Nat.sub_mul]
    have htk : (xs.take i).flatten = cur.toList.take (i * k) := by
      rw [← flat_take h.len, ← ht, List.take_take, Nat.min_eq_left (Nat.mul_le_mul_right _ hi)]
    have hl1 : (cur.toList.take (i * k)).length = i * k := by rw [List.length_take, Array.length_toList]; omega
    rw [List.flatten_append, List.flatten_append, hd, htk]
    have hT : (xs.take i ++ ys ++ xs.drop (i + ys.length)).length = i + ys.length + (xs.length - (i + ys.length)) := by simp; omega
    rw [hT, Nat.add_mul, Nat.add_mul, ← hyl, List.take_append, List.length_append, hl1]
    rw [List.take_of_length_le (by rw [List.length_append, hl1]; omega)]
    congr 2
    omega
theorem OwnK.set (h : OwnK k t w B (.slice (some ⟨g, 0, none⟩) n cap) xs) (i : Nat) (x : List Value) (hx : x.length = k) (hx1 : ∀ u ∈ x, u.oneCell' = true) (hi : i < xs.length) :
    OwnK k t (w.setCells g (i * k) x) B (.slice (some ⟨g, 0, none⟩) n cap) (xs.set i x) := by
  have hn : n = xs.length ∧ xs.length ≤ cap := by
    rcases h.forms with ⟨e, _⟩ | ⟨g', cap', e, _, _, h1, _⟩
    · cases e
    · injection e with e1 e2 e3
      subst e2 e3
      exact ⟨rfl, h1⟩
  have h2 := h.put i [x] (fun y hy => by rw [List.mem_singleton.1 hy]; exact hx) (fun y hy => by rw [List.mem_singleton.1 hy]; exact hx1) (by omega) (by simp; omega)
  have e1 : xs.take i ++ [x] ++ xs.drop (i + [x].length) = xs.set i x := by rw [List.set_eq_take_append_cons_drop, if_pos hi]; simp
  have e2 : [x].flatten = x := by simp
  rw [e1, e2, List.length_set, ← hn.1] at h2
  exact h2
theorem OwnK.cut (h : OwnK k t w B (.slice (some ⟨g, 0, none⟩) n cap) xs) (i : Nat) (hi : i ≤ xs.length) : OwnK k t w B (.slice (some ⟨g, 0, none⟩) i cap) (xs.take i) := by
  have hlen : ∀ x ∈ xs.take i, x.length = k := fun x hx => h.len x (List.mem_of_mem_take hx)
  have hl : (xs.take i).length = i := by rw [List.length_take]; omega
  refine ⟨⟨flat_len hlen, ?_⟩, hlen, fun x hx => h.one x (List.mem_of_mem_take hx)⟩
  rcases h.row.2 with ⟨e, _⟩ | ⟨g', cap', cur, e, hB, hh, hn, hm, hs, ht⟩
  · cases e
  · injection e with e1 e2 e3
    injection e1 with e1
    injection e1 with e1
    subst e1 e3
    refine .inr ⟨g, cap, cur, by rw [hl], hB, hh, by omega, hm, hs, ?_⟩
    rw [← flat_take h.len, ← ht, List.take_take, hl, Nat.min_eq_left (Nat.mul_le_mul_right _ hi)]
/-- What stands behind a place is written over, and cut off. -/
theorem OwnK.wipe (h : OwnK k t w B (.slice (some ⟨g, 0, none⟩) n cap) xs) (i : Nat) (hi : i ≤ xs.length) (vs : List Value) (hv : i * k + vs.length ≤ cap * k) : OwnK k t (w.setCells g (i * k) vs) B (.slice (some ⟨g, 0, none⟩) i cap) (xs.take i) := by
  have hc := h.cut i hi
  refine ⟨⟨hc.row.1, ?_⟩, hc.len, hc.one⟩
  rcases hc.row.2 with ⟨e, _⟩ | ⟨g', cap', cur, e, hB, hh, hn, hm, hs, ht⟩
  · cases e
  · injection e with e1 e2 e3
    injection e1 with e1
    injection e1 with e1
    subst e1 e3
    obtain ⟨cur', h1, h2, h3⟩ := heap_setCells g t vs (i * k) w cur hh
    have hl : (xs.take i).length = i := by rw [List.length_take]; omega
    refine .inr ⟨g, cap, cur', by rw [hl], hB, h1, hn, hm, by rw [h2, hs], ?_⟩
    rw [h3 (by rw [hs]; exact hv), ← ht, hl, List.take_append, List.take_append, List.take_take]
    rw [List.length_take, Array.length_toList]
    have hik : i * k ≤ cur.size := by omega
    rw [show i * k - min (i * k) cur.size = 0 by omega, Nat.min_self, List.length_append, List.length_take, Array.length_toList]
    rw [show i * k - (min (i * k) cur.size + vs.length) = 0 by omega]
    simp
end
end Go.Proofs.YtoblpjknnchlmaaDoor

/- The document's Fields. -/
namespace Go.Proofs.YtoblpjknnchlmaaDoor
open Go.RowKit
set_option linter.unusedSimpArgs false

/-- What the document's Fields answers. -/
def RFlAns (o : Except (Option Nat) (List Par)) (B : Nat) (e : Ending) (w' : World) : Prop :=
  (∃ acc v, o = .ok acc ∧ acc.length ≤ 40 ∧ e = .returned (.tuple #[v, .agg #[.int .i64 0, .int .i64 (-1)]]) ∧ OwnP w' B v acc) ∨
  (o = .error none ∧ e = .returned (.tuple #[.slice none 0 0, .agg #[.int .i64 4, .int .i64 (-1)]])) ∨
  (∃ i : Nat, o = .error (some i) ∧ e = .returned (.tuple #[.slice none 0 0, .agg #[.int .i64 3, .int .i64 (i : Int)]]))
theorem drop_at9r {α : Type} {l : List α} {k : Nat} {x : α} (h : l[k]? = some x) : l.drop k = x :: l.drop (k + 1) := by
  obtain ⟨hl, e⟩ := List.getElem?_eq_some_iff.1 h
  rw [List.drop_eq_getElem_cons hl, e]
theorem lineT_cut (l : ByteArray) (m : Nat) (hm : l.size = m + 1) (h : l[m] = 13) : lineT l.data.toList = (l.extract 0 m).data.toList := by
  have hl : l.data.toList.length = m + 1 := by rw [Array.length_toList]; exact hm
  have h2 : Lib.hasSuffix l.data.toList [13] = true := by
    unfold Lib.hasSuffix
    rw [List.isSuffixOf_iff_suffix]
    refine ⟨l.data.toList.take m, ?_⟩
    have e : l.data.toList[m]'(by omega) = 13 := by rw [Array.getElem_toList]; exact h
    have := List.take_append_drop m l.data.toList
    rw [List.drop_eq_getElem_cons (by omega), e, List.drop_of_length_le (by omega)] at this
    exact this
  unfold lineT Lib.trimSuffix
  rw [if_pos h2, hl]
  simp
theorem lineT_keep (l : ByteArray) (m : Nat) (hm : l.size = m + 1) (h : l[m] ≠ 13) : lineT l.data.toList = l.data.toList := by
  have hl : l.data.toList.length = m + 1 := by rw [Array.length_toList]; exact hm
  have h2 : Lib.hasSuffix l.data.toList [13] = false := by
    unfold Lib.hasSuffix
    rw [Bool.eq_false_iff, ne_eq, List.isSuffixOf_iff_suffix]
    rintro ⟨q, hq⟩
    have h3 : q.length = m := by
      have := congrArg List.length hq
      rw [List.length_append, hl] at this
      simpa using this
    have e : l.data.toList[m]'(by omega) = 13 := by
      have h4 : l.data.toList[m]? = some 13 := by
        rw [← hq, List.getElem?_append_right (by omega), h3]
        simp
      exact Option.some.inj ((List.getElem?_eq_getElem (by omega)).symm.trans h4)
    rw [Array.getElem_toList] at e
    exact h e
  unfold lineT Lib.trimSuffix
  rw [if_neg (by rw [h2]; simp)]
theorem wp_app9 {o : Oper} {a : Act} {K : Act → World → Prop} {Q : Exit → Act → World → Prop} (s x : Operand)
    (ho : o.op = .call { callee := .builtin .append, args := #[s, x], argTypes := #[23, 23] })
    (B : Nat) (W : World) (v : Value) (ps : List Par) (hs : a.eval s = v) (hown : OwnP W B v ps) (hl : ps.length ≤ 100000) (hB : B ≤ W.heap.size)
    (p : Par) (bx : Nat) (hx : a.eval x = .slice (some ⟨bx, 0, none⟩) 1 1) (c0 : W.cell? ⟨bx, 0, none⟩ = some (.string p.1)) (c1 : W.cell? ⟨bx, 1, none⟩ = some (.string p.2))
    (h : ∀ g cap w', OwnP w' B (.slice (some ⟨g, 0, none⟩) (ps.length + 1) cap) (ps ++ [p]) → Below B W w' → K (a.put o.dst (.slice (some ⟨g, 0, none⟩) (ps.length + 1) cap)) w') :
    Oper.wp Tryd.prog o a W K Q := by
  obtain ⟨i0, hi0, hz0, hz1, hz2⟩ := info_parts infoP
  refine wp_append_lies W s x 23 ho B 41 i0 (.agg #[.string ⟨#[]⟩, .string ⟨#[]⟩]) 2 32 Tryd.underlying23 hi0 hz0 hz1 hz2 rfl (by omega) v ps.length _ hs hown ⟨bx, 0, none⟩ 1 1 [.string p.1, .string p.2] hx rfl
    (fun j u hj => ?_) (by simp [Value.oneCell']) (by omega) (by unfold maxLen; omega) (by omega) hB _ rfl ?_
  · rw [WideShapes.add_plain]
    match j, hj with
    | 0, hj => cases hj; exact c0
    | 1, hj => cases hj; exact c1
    | j + 2, hj => simp at hj
  · intro g cap w' hown1 hgrow _ hlt
    refine h g cap w' ?_ ((Below.refl B W).grown hgrow hB (fun k hk => (hown.lt k hk).1))
    unfold OwnP
    rw [List.length_append, parCells_app]
    exact hown1
theorem bareG_any (n : Int) (w : World) : Calls Tryd.prog 9 #[.int .i64 n] w fun e w' => e = .returned (.agg #[.int .i64 n, .int .i64 (-1)]) ∧ Below w.heap.size w w' := by
  go_enter Tryd.func9, Tryd.ntmps9
  go_wp2
  refine bodyPost_ret (v := .agg #[.int .i64 n, .int .i64 (-1)]) (by simp [results, Tryd.f9, go_sem]) rfl ⟨rfl, ?_⟩
  first | exact (Below.refl _ _).alloc (Nat.le_refl _) _ | exact (((Below.refl _ _).alloc (Nat.le_refl _) _).setCell (Nat.le_refl _) _).setCell (Nat.le_refl _) _
theorem cr_of (l t : ByteArray) (HT : bs (lineT l.data.toList) = t) : ∃ cr : Bool, (cr = true → l.extract 0 (l.size - 1) = t) ∧ (cr = false → l = t) ∧ ((l.size = 0 ∧ cr = false) ∨ (0 < l.size ∧ ∀ h : l.size - 1 < l.size, (((l[l.size - 1]'h).toNat : Int) == 13) = cr)) := by
  by_cases h0 : l.size = 0
  · refine ⟨false, ⟨fun h => (by cases h), fun _ => ?_, .inl ⟨h0, rfl⟩⟩⟩
    have e : l.data.toList = [] := List.eq_nil_of_length_eq_zero (by rw [Array.length_toList]; exact h0)
    rw [← HT, e, ← bs_self l, e]
    rfl
  · obtain ⟨m, hm⟩ : ∃ m, l.size = m + 1 := ⟨l.size - 1, by omega⟩
    have em : l.size - 1 = m := by omega
    by_cases hc : l[m] = 13
    · refine ⟨true, ⟨fun _ => ?_, fun h => (by cases h), .inr ⟨by omega, fun h => ?_⟩⟩⟩
      · rw [em, ← HT, lineT_cut l m hm hc, bs_self]
      · simp only [em, hc]
        rfl
    · refine ⟨false, ⟨fun h => (by cases h), fun _ => ?_, .inr ⟨by omega, fun h => ?_⟩⟩⟩
      · rw [← HT, lineT_keep l m hm hc, bs_self]
      · simp only [em]
        refine beq_eq_false_iff_ne.2 fun h => hc (UInt8.toNat_inj.1 ?_)
        have : (13 : UInt8).toNat = 13 := rfl
        omega
set_option maxRecDepth 100000 in
set_option maxHeartbeats 8000000 in
theorem refFields9_any (s : ByteArray) (hs : s.size ≤ 3000) (w : World) :
    Calls Tryd.prog 5 #[.string s] w fun e w' => RFlAns (fieldsF s.data.toList) w.heap.size e w' ∧ Below w.heap.size w w' := by
  obtain ⟨o, HO⟩ : ∃ o, Hid (fieldsF s.data.toList = o) := ⟨_, rfl⟩
  rw [HO.out]
  go_enter Tryd.func5, Tryd.ntmps5
  go_wp2_with fail
  refine (split_one s 10 (by omega) _).mono ?_
  rintro e w1 ⟨ls, rfl, hn, hw1, hsp⟩
  simp only [World.size_alloc]
  have HSP : Hid (ls.map (·.data.toList) = splitL 10 s.data.toList) := hsp
  have HB1 : Hid (Below w.heap.size w w1) := by show Below _ _ _; rw [hw1]; exact ((Below.refl _ _).alloc (Nat.le_refl _) _).alloc (by simp) _
  have HR1 : Hid (w1.heap[w.heap.size + 1]? = some (.cells (ls.map Value.string).toArray 9 (0, 0)) ∧ w1.heap[w.heap.size]? = some (.cells #[.int .i64 0, .int .i64 0] 26 (0, 0)) ∧ w1.heap.size = w.heap.size + 2) := by
    show _ ∧ _ ∧ _
    rw [hw1]
    refine ⟨?_, ?_, by simp⟩
    · have := heap_alloc_new (w.alloc (.cells #[.int .i64 0, .int .i64 0] 26)) (.cells (ls.map Value.string).toArray 9)
      simpa using this
    · rw [heap_alloc_old _ _ (by simp)]
      exact heap_alloc_new w _
  have HLZ : Hid (∀ l ∈ ls, l.size ≤ 3000) := fun l hl => by
    have h1 : l.data.toList ∈ splitL 10 s.data.toList := by rw [← hsp]; exact List.mem_map.2 ⟨l, hl, rfl⟩
    have h2 := splitL_lens 10 _ _ h1
    have h3 : s.data.toList.length = s.size := Array.length_toList
    have h4 : l.data.toList.length = l.size := Array.length_toList
    omega
  have HFF : Hid (fieldsF s.data.toList = runF 0 [] (ls.map (·.data.toList))) := by show _ = _; unfold fieldsF; rw [hsp]
  obtain ⟨n, HN⟩ : ∃ n, Hid (ls.length = n) := ⟨_, rfl⟩
  have hn1 : n ≤ 3001 := by have := HN.out; omega
  rw [HN.out]
  clear hw1 hsp hn
  go_wp2
  go_loopw [4, 16] (fun v i wr => ∃ (k : Nat) (acc : List Par) (a : Option Addr) (m c : Nat), k ≤ n ∧ i = .int .i64 k ∧ v = .slice a m c ∧ m ≤ 40 ∧ Hid (acc.length = m) ∧ Hid (runF 0 [] (ls.map (·.data.toList)) = runF k acc ((ls.map (·.data.toList)).drop k)) ∧ Hid (OwnP wr (w.heap.size + 2) (.slice a m c) acc ∧ Below (w.heap.size + 2) w1 wr)) (fun _ i _ => n - (intOf i).toNat)
  case atStart => exact ⟨0, [], none, 0, 0, Nat.zero_le _, rfl, rfl, by omega, rfl, rfl, ownP_nil _ _, Below.refl _ _⟩
  case round =>
    obtain ⟨k, acc, a, m, c, hk, rfl, rfl, hm, HAC, HK, HI⟩ := hrel
    have HBW : Hid (Below w.heap.size w wr) := HB1.out.trans (HI.out.2.mono (by omega))
    have HZR : Hid (w.heap.size + 2 ≤ wr.heap.size) := by have := HI.out.2.size; have := HR1.out.2.2; show _ ≤ _; omega
    have HFB : Hid (wr.heap[w.heap.size]? = some (.cells #[.int .i64 0, .int .i64 0] 26 (0, 0))) := by show _ = _; rw [HI.out.2.block _ (by omega)]; exact HR1.out.2.1
    by_cases hlt : k < n
    · have hltz : (k : Int) < (n : Int) := by omega
      obtain ⟨l, hl⟩ : ∃ l, ls[k]? = some l := ⟨ls[k]'(by have := HN.out; omega), List.getElem?_eq_getElem _⟩
      have hlz := HLZ.out l (List.mem_of_getElem? hl)
      have cl : wr.cell? ⟨w.heap.size + 1, k, none⟩ = some (.string l) := by
        have hr : wr.heap[w.heap.size + 1]? = some (.cells (ls.map Value.string).toArray 9 (0, 0)) := by rw [HI.out.2.block _ (by omega)]; exact HR1.out.1
        exact cells_of hr k _ (by simp [hl])
      have HD : Hid ((ls.map (·.data.toList)).drop k = l.data.toList :: (ls.map (·.data.toList)).drop (k + 1)) := drop_at9r (by rw [List.getElem?_map, hl]; rfl)
      obtain ⟨t, HT⟩ : ∃ t, Hid (bs (lineT l.data.toList) = t) := ⟨_, rfl⟩
      have htz : t.size ≤ 3000 := by
        rw [← HT.out, bs_size]
        have h4 : l.data.toList.length = l.size := Array.length_toList
        have h5 : (lineT l.data.toList).length ≤ l.data.toList.length := by
          unfold lineT Lib.trimSuffix
          split <;> simp
        omega
      have HTL : Hid (lineT l.data.toList = t.data.toList) := by show _ = _; rw [← HT.out, bs_data]
      clear hl
      obtain ⟨cr, hcr0⟩ := cr_of l t HT.out
      have HCR : Hid ((cr = true → l.extract 0 (l.size - 1) = t) ∧ (cr = false → l = t) ∧ ((l.size = 0 ∧ cr = false) ∨ (0 < l.size ∧ ∀ h : l.size - 1 < l.size, (((l[l.size - 1]'h).toNat : Int) == 13) = cr))) := hcr0
      clear hcr0
      go_upto_region 8 with fail
      go_cut [31] (fun v wc => v = .bool cr ∧ wc = wr)
      case first =>
        rcases HCR.out.2.2 with ⟨h0, hcr⟩ | ⟨h0, hcr⟩
        · have h0z : ¬ (0 : Int) < (l.size : Int) := by omega
          clear h0
          go_wp2
          go_meet
          exact ⟨by rw [hcr], rfl⟩
        · have h0z : (0 : Int) < (l.size : Int) := by omega
          have HC1 : Hid (∀ h : l.size - 1 < l.size, (((l[l.size - 1]'h).toNat : Int) == 13) = cr) := hcr
          have h0n : 0 < l.size := h0
          clear hcr h0
          go_wp2
          go_meet
          exact ⟨by rw [HC1.out], rfl⟩
      case rest =>
      obtain ⟨rfl, hwc⟩ := hcut
      obtain rfl := hwc.symm
      clear hwc cl
      go_upto_if 31 with fail
      go_cut [6] (fun v wc => v = .string t ∧ wc = wr)
      case first =>
        cases cr
        · have HE1 : Hid (l = t) := HCR.out.2.1 rfl
          go_wp2
          go_meet
          exact ⟨by rw [HE1.out], rfl⟩
        · have h0n : 0 < l.size := by
            rcases HCR.out.2.2 with ⟨_, h⟩ | ⟨h, _⟩
            · cases h
            · exact h
          have HE : Hid (l.extract 0 (l.size - 1) = t) := HCR.out.1 rfl
          go_wp2
          go_meet
          exact ⟨by rw [HE.out], rfl⟩
      case rest =>
      obtain ⟨rfl, hwc⟩ := hcut
      obtain rfl := hwc.symm
      clear hwc
      by_cases h0 : t.size = 0
      · have HNX : Hid (runF 0 [] (ls.map (·.data.toList)) = runF (k + 1) acc ((ls.map (·.data.toList)).drop (k + 1))) := by
          show _ = _
          rw [HK.out, HD.out]
          refine runF_skip ?_
          rw [HTL.out]
          exact List.eq_nil_of_length_eq_zero (by rw [Array.length_toList]; exact h0)
        have he : t.toList.isEmpty = true := by
          rw [ByteArray.toList_eq, List.isEmpty_iff]
          exact List.eq_nil_of_length_eq_zero (by rw [Array.length_toList]; exact h0)
        clear h0
        go_wp2
        go_roundw
        case rel => exact ⟨k + 1, acc, a, m, c, by omega, by go_num, rfl, hm, HAC, HNX, HI.out⟩
        case measure => simp [intOf]; omega
      · have HNE : Hid (lineT l.data.toList ≠ []) := by
          show _ ≠ _
          rw [HTL.out]
          intro e
          have h4 : t.data.toList.length = t.size := Array.length_toList
          rw [e] at h4
          exact h0 h4.symm
        have he : t.toList.isEmpty = false := by
          rw [ByteArray.toList_eq, ← HTL.out, List.isEmpty_eq_false_iff]
          exact HNE.out
        have f0 := cells_of HFB.out 0 _ rfl
        have f1 := cells_of HFB.out 1 _ rfl
        have g0 : wr.frozen? ⟨w.heap.size, 0, none⟩ = false := by simp [World.frozen?, HFB.out]
        have g1 : wr.frozen? ⟨w.heap.size, 1, none⟩ = false := by simp [World.frozen?, HFB.out]
        obtain ⟨e0, e1⟩ := fault_end f0 f1 (.int .i64 3) (.int .i64 (k : Int))
        rcases ixOf_first t.data.toList 58 with ⟨hi, hno⟩ | ⟨n1, hk1, hi, hno, hsp⟩
        · have HEE : Hid (o = .error (some k)) := by
            show _ = _
            rw [← HO.out, HFF.out, HK.out, HD.out]
            exact runF_bad HNE.out (by rw [HTL.out]; exact lineF_none1 (cutL_none 58 _ hno))
          have hix := fun W => ix_of t 58 58 rfl W
          rw [hi] at hix
          clear hno
          go_wp2_with fail
          refine (hix _).mono ?_
          rintro e w4 ⟨rfl, hw4⟩
          obtain rfl := hw4.symm
          go_wp2
          refine bodyPost_ret (v := .tuple #[.slice none 0 0, .agg #[.int .i64 3, .int .i64 (k : Int)]]) (by simp [results, Tryd.f5, go_sem, e0, e1]) rfl ⟨.inr (.inr ⟨k, HEE.out, rfl⟩), (HBW.out.setCell (p := ⟨w.heap.size, 0, none⟩) (Nat.le_refl _) _).setCell (p := ⟨w.heap.size, 1, none⟩) (Nat.le_refl _) _⟩
        · have hk2 : n1 < t.size := by simpa using hk1
          have HCT : Hid (cutL 58 t.data.toList = ((t.extract 0 n1).data.toList, (t.extract (n1 + 1) t.size).data.toList, true)) := by
            show _ = _
            rw [upto_data, from_data]
            conv => lhs; rw [hsp]
            exact cutL_some 58 _ _ hno
          have hix := fun W => ix_of t 58 58 rfl W
          rw [hi] at hix
          have hxz : (t.extract 0 n1).size ≤ 3000 := by rw [ByteArray.size_extract]; omega
          have hyz : (t.extract (n1 + 1) t.size).size ≤ 3000 := by rw [ByteArray.size_extract]; omega
          obtain ⟨q, HQ⟩ : ∃ q, Hid (isL (t.extract 0 n1).data.toList = q) := ⟨_, rfl⟩
          have htk := fun W => refToken_any (t.extract 0 n1) (by omega) W
          rw [HQ.out] at htk
          have b1 : (0 : Int) ≤ (n1 : Int) := by omega
          have b2 : (n1 : Int) ≤ (t.size : Int) := by omega
          have b3 : (n1 : Int) + 1 ≤ (t.size : Int) := by omega
          have b4 : (0 : Int) ≤ (n1 : Int) + 1 := by omega
          have b5 : IntKind.i64.wrap ((n1 : Int) + 1) = (n1 : Int) + 1 := IntWalk.i64_in _ ⟨by omega, by omega⟩
          clear hno hsp hk1 hi
          go_wp2_with fail
          refine (hix _).mono ?_
          rintro e w4 ⟨rfl, hw4⟩
          obtain rfl := hw4.symm
          clear hix
          go_wp2_with fail
          refine (htk _).mono ?_
          rintro e w4 ⟨rfl, hw4⟩
          obtain rfl := hw4.symm
          clear htk
          cases q
          · have HEE : Hid (o = .error (some k)) := by
              show _ = _
              rw [← HO.out, HFF.out, HK.out, HD.out]
              exact runF_bad HNE.out (by rw [HTL.out]; exact lineF_none2 HCT.out HQ.out)
            go_wp2
            refine bodyPost_ret (v := .tuple #[.slice none 0 0, .agg #[.int .i64 3, .int .i64 (k : Int)]]) (by simp [results, Tryd.f5, go_sem, e0, e1]) rfl ⟨.inr (.inr ⟨k, HEE.out, rfl⟩), (HBW.out.setCell (p := ⟨w.heap.size, 0, none⟩) (Nat.le_refl _) _).setCell (p := ⟨w.heap.size, 1, none⟩) (Nat.le_refl _) _⟩
          · have HLF : Hid (lineF (lineT l.data.toList) = some (t.extract 0 n1, bs (trimW (t.extract (n1 + 1) t.size).data.toList))) := by
              show _ = _
              rw [HTL.out, lineF_some HCT.out HQ.out, bs_self]
            by_cases h40 : m = 40
            · have HEE : Hid (o = .error none) := by
                show _ = _
                rw [← HO.out, HFF.out, HK.out, HD.out]
                exact runF_many HNE.out HLF.out (by rw [HAC.out]; exact h40)
              have h40z : (m : Int) = 40 := by omega
              clear e0 e1
              go_wp2_with fail
              refine (bareG_any 4 _).mono ?_
              rintro e w5 ⟨rfl, hb5⟩
              have HFB5 : Hid (w5.heap[w.heap.size]? = some (.cells #[.int .i64 0, .int .i64 0] 26 (0, 0))) := (by show _ = _; rw [hb5.block _ (by have := HZR.out; omega)]; exact HFB.out)
              have HB5 : Hid (Below w.heap.size w w5) := HBW.out.trans (hb5.mono HBW.out.size)
              clear f0 f1 g0 g1 hb5
              have f0 := cells_of HFB5.out 0 _ rfl
              have f1 := cells_of HFB5.out 1 _ rfl
              have g0 : w5.frozen? ⟨w.heap.size, 0, none⟩ = false := by simp [World.frozen?, HFB5.out]
              have g1 : w5.frozen? ⟨w.heap.size, 1, none⟩ = false := by simp [World.frozen?, HFB5.out]
              obtain ⟨e0, e1⟩ := fault_end f0 f1 (.int .i64 4) (.int .i64 (-1))
              go_wp2
              refine bodyPost_ret (v := .tuple #[.slice none 0 0, .agg #[.int .i64 4, .int .i64 (-1)]]) (by simp [results, Tryd.f5, go_sem, e0, e1]) rfl ⟨.inr (.inl ⟨HEE.out, rfl⟩), (HB5.out.setCell (p := ⟨w.heap.size, 0, none⟩) (Nat.le_refl _) _).setCell (p := ⟨w.heap.size, 1, none⟩) (Nat.le_refl _) _⟩
            · have HNX : Hid (runF 0 [] (ls.map (·.data.toList)) = runF (k + 1) (acc ++ [(t.extract 0 n1, bs (trimW (t.extract (n1 + 1) t.size).data.toList))]) ((ls.map (·.data.toList)).drop (k + 1))) := by
                show _ = _
                rw [HK.out, HD.out]
                exact runF_next HNE.out HLF.out (by rw [HAC.out]; exact h40)
              have h40z : ¬ (m : Int) = 40 := by omega
              clear e0 e1 f0 f1 g0 g1
              go_upto_region 16 with fail
              refine wp_region_held_drew (S := fun W => Hid (Below (w.heap.size + 2) w1 W)) (by kernel_rfl) (HI.out.2.trans (Below.refl _ _).drew) (fun hHeld => ?_)
              refine takeH (i := 0) (d := some 55) (v := ?_) rfl rfl (by kernel_rfl) (by kernel_rfl) (by kernel_rfl) (fun _ _ _ h => h) (by rfl) ?_ (by assumption) ?_
              rotate_left
              · intro w hSw; go_simp; with_reducible rfl
              try simp only [Act.put, List.setIfInBounds_toArray, List.set_cons_zero, List.set_cons_succ]
              refine takeH (i := 1) (d := some 56) (v := ?_) rfl rfl (by kernel_rfl) (by kernel_rfl) (by kernel_rfl) (fun _ _ _ h => h) (by rfl) ?_ (by assumption) ?_
              rotate_left
              · intro w hSw; go_simp; with_reducible rfl
              try simp only [Act.put, List.setIfInBounds_toArray, List.set_cons_zero, List.set_cons_succ]
              refine takeH (i := 2) (d := some 57) (v := ?_) rfl rfl (by kernel_rfl) (by kernel_rfl) (by kernel_rfl) (fun _ _ _ h => h) (by rfl) ?_ (by assumption) ?_
              rotate_left
              · intro w hSw; go_simp; with_reducible rfl
              try simp only [Act.put, List.setIfInBounds_toArray, List.set_cons_zero, List.set_cons_succ]
              refine takeH (i := 3) (d := some 58) (v := ?_) rfl rfl (by kernel_rfl) (by kernel_rfl) (by kernel_rfl) (fun _ _ _ h => h) (by rfl) ?_ (by assumption) ?_
              rotate_left
              · intro w hSw; go_simp; with_reducible rfl
              try simp only [Act.put, List.setIfInBounds_toArray, List.set_cons_zero, List.set_cons_succ]
              refine takeH (i := 4) (d := some 59) (v := ?_) rfl rfl (by kernel_rfl) (by kernel_rfl) (by kernel_rfl) (fun _ _ _ h => h) (by rfl) ?_ (by assumption) ?_
              rotate_left
              · intro w hSw; go_simp; with_reducible rfl
              try simp only [Act.put, List.setIfInBounds_toArray, List.set_cons_zero, List.set_cons_succ]
              refine takeH (i := 5) (d := some 60) (v := ?_) rfl rfl (by kernel_rfl) (by kernel_rfl) (by kernel_rfl) (fun _ _ _ h => h) (by rfl) ?_ (by assumption) ?_
              rotate_left
              · intro w hSw; go_simp; with_reducible rfl
              try simp only [Act.put, List.setIfInBounds_toArray, List.set_cons_zero, List.set_cons_succ]
              refine takeH (i := 6) (d := some 61) (v := ?_) rfl rfl (by kernel_rfl) (by kernel_rfl) (by kernel_rfl) (fun _ _ _ h => h) (by rfl) ?_ (by assumption) ?_
              rotate_left
              · intro w hSw; go_simp; with_reducible rfl
              try simp only [Act.put, List.setIfInBounds_toArray, List.set_cons_zero, List.set_cons_succ]
              refine takeH (i := 7) (d := some 62) (v := ?_) rfl rfl (by kernel_rfl) (by kernel_rfl) (by kernel_rfl) (fun _ _ _ h => h) (by rfl) ?_ (by assumption) ?_
              rotate_left
              · intro w hSw; go_simp; with_reducible rfl
              try simp only [Act.put, List.setIfInBounds_toArray, List.set_cons_zero, List.set_cons_succ]
              refine wpAnyH_ready (rs := [8]) (by kernel_rfl) (by simp) ?_
              refine AllReadyH.cons (by rfl) (fun K hKK => ?_) AllReadyH.nil
              go_simp
              refine (trimBoth_any (t.extract (n1 + 1) t.size) (by omega) _).mono ?_
              rintro e w4 ⟨u, rfl, hu, huz, hb4⟩
              have HB4 : Hid (Below wr.heap.size wr w4) := (Below.refl wr.heap.size wr).drew.trans hb4
              have HU : Hid (bs (trimW (t.extract (n1 + 1) t.size).data.toList) = u) := (by show _ = _; rw [← hu.out, bs_self])
              clear hb4 hu
              go_wp2_with fail
              refine hKK.out _ _ (show Hid (Below (w.heap.size + 2) w1 w4) from HI.out.2.trans (HB4.out.mono HZR.out)) (fun hHeld => ?_)
              clear hKK K
              try simp only [Act.put, List.setIfInBounds_toArray, List.set_cons_zero, List.set_cons_succ]
              refine takeH (i := 9) (d := some 64) (v := ?_) rfl rfl (by kernel_rfl) (by kernel_rfl) (by kernel_rfl) (fun _ _ _ h => h) (by rfl) ?_ (by assumption) ?_
              rotate_left
              · intro w hSw; go_simp; with_reducible rfl
              try simp only [Act.put, List.setIfInBounds_toArray, List.set_cons_zero, List.set_cons_succ]
              refine wpAnyH_ready (rs := [10]) (by kernel_rfl) (by simp) ?_
              refine AllReadyH.cons (by rfl) (fun K hKK => ?_) AllReadyH.nil
              go_simp
              have HB5 : Hid (Below wr.heap.size wr (w4.alloc (.cells #[.string (t.extract 0 n1), .string u] 41))) := HB4.out.alloc HB4.out.size _
              refine hKK.out _ _ (show Hid (Below (w.heap.size + 2) w1 _) from HI.out.2.trans (HB5.out.mono HZR.out)) (fun hHeld => ?_)
              clear hKK K
              try simp only [Act.put, List.setIfInBounds_toArray, List.set_cons_zero, List.set_cons_succ]
              refine wpAnyH_ready (rs := [11]) (by kernel_rfl) (by simp) ?_
              refine AllReadyH.cons (by rfl) (fun K hKK => ?_) AllReadyH.nil
              refine wp_app9 _ _ rfl (w.heap.size + 2) (w4.alloc (.cells #[.string (t.extract 0 n1), .string u] 41)) (.slice a m c) acc rfl (HI.out.1.below HB5.out) (by have := HAC.out; omega) (by have := HZR.out; have := HB5.out.size; omega) (t.extract 0 n1, u) w4.heap.size rfl (World.cell?_alloc_mark _ _ _ _ _) (World.cell?_alloc_mark _ _ _ _ _) ?_
              intro g8 cap8 w8 hown8 hb8
              rw [HAC.out] at hown8
              have HB8 : Hid (OwnP w8 (w.heap.size + 2) (.slice (some ⟨g8, 0, none⟩) (m + 1) cap8) (acc ++ [(t.extract 0 n1, u)]) ∧ Below (w.heap.size + 2) w1 w8) := ⟨hown8, HI.out.2.trans ((HB5.out.mono HZR.out).trans hb8)⟩
              clear hown8 hb8
              rw [HAC.out]
              refine hKK.out _ _ (show Hid (Below (w.heap.size + 2) w1 w8) from HB8.out.2) (fun hHeld => ?_)
              clear hKK K
              try simp only [Act.put, List.setIfInBounds_toArray, List.set_cons_zero, List.set_cons_succ]
              refine takeH (i := 12) (d := some 4) (v := ?_) rfl rfl (by kernel_rfl) (by kernel_rfl) (by kernel_rfl) (fun _ _ _ h => h) (by rfl) ?_ (by assumption) ?_
              rotate_left
              · intro w hSw; go_simp; with_reducible rfl
              try simp only [Act.put, List.setIfInBounds_toArray, List.set_cons_zero, List.set_cons_succ]
              refine wpAnyH_done (by kernel_rfl) ?_ _
              go_wp2_with fail
              go_roundw
              case rel => exact ⟨k + 1, acc ++ [(t.extract 0 n1, u)], _, m + 1, _, by omega, by go_num, rfl, by omega, (by show _ = _; rw [List.length_append, HAC.out]; rfl), (by have := HNX.out; rw [HU.out] at this; exact this), HB8.out⟩
              case measure => simp [intOf]; omega
    · have hltz : ¬ (k : Int) < (n : Int) := by omega
      have HE : Hid (o = .ok acc) := by
        show _ = _
        rw [← HO.out, HFF.out, HK.out, List.drop_of_length_le (by rw [List.length_map]; have := HN.out; omega)]
        rfl
      go_wp2_with fail
      refine (goodF_any _).mono ?_
      rintro e w5 ⟨rfl, hb5⟩
      have HFB5 : Hid (w5.heap[w.heap.size]? = some (.cells #[.int .i64 0, .int .i64 0] 26 (0, 0))) := (by show _ = _; rw [hb5.block _ (by have := HZR.out; omega)]; exact HFB.out)
      have HB5 : Hid (Below w.heap.size w w5) := HBW.out.trans (hb5.mono HBW.out.size)
      have HO5 : Hid (OwnP w5 (w.heap.size + 2) (.slice a m c) acc) := HI.out.1.below hb5
      clear hb5
      have f0 := cells_of HFB5.out 0 _ rfl
      have f1 := cells_of HFB5.out 1 _ rfl
      have g0 : w5.frozen? ⟨w.heap.size, 0, none⟩ = false := by simp [World.frozen?, HFB5.out]
      have g1 : w5.frozen? ⟨w.heap.size, 1, none⟩ = false := by simp [World.frozen?, HFB5.out]
      obtain ⟨e0, e1⟩ := fault_end f0 f1 (.int .i64 0) (.int .i64 (-1))
      go_wp2
      refine bodyPost_ret (v := .tuple #[.slice a m c, .agg #[.int .i64 0, .int .i64 (-1)]]) (by simp [results, Tryd.f5, go_sem, e0, e1]) rfl ⟨.inl ⟨acc, _, HE.out, by rw [HAC.out]; exact hm, rfl, ?_⟩, (HB5.out.setCell (p := ⟨w.heap.size, 0, none⟩) (Nat.le_refl _) _).setCell (p := ⟨w.heap.size, 1, none⟩) (Nat.le_refl _) _⟩
      have h7 := (HO5.out.grown (grown_setCells _ w.heap.size 0 [.int .i64 0]) (by omega)).grown (grown_setCells _ w.heap.size 1 [.int .i64 (-1)]) (by omega)
      exact World.ownsRow.mono h7 (by omega)
end Go.Proofs.YtoblpjknnchlmaaDoor

/- Which number an error is, by errors.As: of no error, and of one that is such a number itself. -/
namespace Go.Proofs.YtoblpjknnchlmaaDoor
open Go.RowKit Go.Extern.Stop Go.Stop Go.Extern

theorem asValueOfP (t : Addr) (w : World) : (ReflectliteValue.unpack (.iface 76 (.pointer (some t)))).run Tryd.prog w
    = .ok (.agg #[.pointer (some ⟨4, 76, none⟩), .pointer (some ⟨w.heap.size, 0, none⟩), .int .u64 150]) (w.alloc (.cells #[.pointer (some t)] 76)) := by kernel_rfl
theorem asTypeP (a : Addr) (w : World) : (ReflectliteValue.methodAny (ReflectliteValue.valueError "reflectlite.Value.Type" 0) (fun t _ _ _ => ReflectliteType.toType t) #[.agg #[.pointer (some ⟨4, 76, none⟩), .pointer (some a), .int .u64 150]]).run Tryd.prog w
    = .ok (.iface 103 (.agg #[.pointer (some ⟨4, 76, none⟩)])) w := by kernel_rfl
theorem asKindP (w : World) : ((ReflectliteType.abiMethod fun t => (fun a : Nat => Value.int IntKind.u8 (a : Int)) <$> Rtype.kind t) #[.pointer (some ⟨4, 76, none⟩)]).run Tryd.prog w = .ok (.int .u8 22) w := by kernel_rfl
theorem asKindE (w : World) : ((ReflectliteType.abiMethod fun t => (fun a : Nat => Value.int IntKind.u8 (a : Int)) <$> Rtype.kind t) #[.pointer (some ⟨4, 24, none⟩)]).run Tryd.prog w = .ok (.int .u8 2) w := by kernel_rfl
theorem asMKind (h : Value) (w : World) : (Go.method 242 103 (.agg #[h]) "Kind").run Tryd.prog w = .ok (80, h) w := by kernel_rfl
theorem asMElem (h : Value) (w : World) : (Go.method 242 103 (.agg #[h]) "Elem").run Tryd.prog w = .ok (93, .agg #[h]) w := by kernel_rfl
theorem asMImpl (h : Value) (w : World) : (Go.method 242 103 (.agg #[h]) "Implements").run Tryd.prog w = .ok (94, .agg #[h]) w := by kernel_rfl
theorem asMAssign (h : Value) (w : World) : (Go.method 242 103 (.agg #[h]) "AssignableTo").run Tryd.prog w = .ok (91, .agg #[h]) w := by kernel_rfl
theorem asPartsP (a : Addr) (w : World) : (ReflectliteValue.parts (.agg #[.pointer (some ⟨4, 76, none⟩), .pointer (some a), .int .u64 150])).run Tryd.prog w = .ok (some (76, a, 150)) w := by kernel_rfl
theorem asIsNilP (a p : Addr) (W : World) (ha : W.cell? a = some (.pointer (some p))) :
    (ReflectliteValue.method (ReflectliteValue.valueError "reflectlite.Value.IsNil" 0) ReflectliteValue.isNil #[.agg #[.pointer (some ⟨4, 76, none⟩), .pointer (some a), .int .u64 150]]).run Tryd.prog W = .ok (.bool false) W := by
  refine Eq.trans (congrArg (fun z => Sem.run Tryd.prog z W) (show ReflectliteValue.method _ _ #[.agg #[.pointer (some ⟨4, 76, none⟩), .pointer (some a), .int .u64 150]] = _ >>= _ from rfl)) ?_
  simp only [Array.getLit, List.getElem_toArray, List.getElem_cons_zero]
  simp only [Sem.run_bind, asPartsP, Result.andThen]
  simp [ReflectliteValue.isNil, loadVar, isAgg, underlying, Tryd.underlying76, ha, Result.andThen]
theorem asElemP (w : World) : (ReflectliteType.method ReflectliteType.elem #[.agg #[.pointer (some ⟨4, 76, none⟩)]]).run Tryd.prog w = .ok (.iface 103 (.agg #[.pointer (some ⟨4, 24, none⟩)])) w := by kernel_rfl
theorem asImplE (w : World) : (ReflectliteType.relation "Implements" ReflectliteType.implements_ #[.agg #[.pointer (some ⟨4, 24, none⟩)], .iface 103 (.agg #[.pointer (some ⟨4, 30, none⟩)])]).run Tryd.prog w = .ok (.bool true) w := by kernel_rfl
theorem asTypeOfE (v : Value) (w : World) : (ReflectliteType.typeOf #[.iface 24 v]).run Tryd.prog w = .ok (.iface 103 (.agg #[.pointer (some ⟨4, 24, none⟩)])) w := by kernel_rfl
theorem asAssignE (w : World) : (ReflectliteType.relation "AssignableTo" ReflectliteType.assignableTo #[.agg #[.pointer (some ⟨4, 24, none⟩)], .iface 103 (.agg #[.pointer (some ⟨4, 24, none⟩)])]).run Tryd.prog w = .ok (.bool true) w := by kernel_rfl
theorem asValueOfE (n : Int) (w : World) : (ReflectliteValue.unpack (.iface 24 (.int .i64 n))).run Tryd.prog w
    = .ok (.agg #[.pointer (some ⟨4, 24, none⟩), .pointer (some ⟨w.heap.size, 0, none⟩), .int .u64 130]) (w.alloc (.cells #[.int .i64 n] 24)) := by kernel_rfl
theorem asElemOfP (w : World) : (Rtype.elem? 76).run Tryd.prog w = .ok (some 24) w := by kernel_rfl
theorem asMkE (p : Addr) (w : World) : (ReflectliteValue.mk 24 p ReflectliteValue.flagAddr).run Tryd.prog w = .ok (.agg #[.pointer (some ⟨4, 24, none⟩), .pointer (some p), .int .u64 386]) w := by kernel_rfl
theorem asElemVP (a p : Addr) (W : World) (ha : W.cell? a = some (.pointer (some p))) :
    (ReflectliteValue.method (ReflectliteValue.valueError "reflectlite.Value.Elem" 0) ReflectliteValue.elem #[.agg #[.pointer (some ⟨4, 76, none⟩), .pointer (some a), .int .u64 150]]).run Tryd.prog W
      = .ok (.agg #[.pointer (some ⟨4, 24, none⟩), .pointer (some p), .int .u64 386]) W := by
  refine Eq.trans (congrArg (fun z => Sem.run Tryd.prog z W) (show ReflectliteValue.method _ _ #[.agg #[.pointer (some ⟨4, 76, none⟩), .pointer (some a), .int .u64 150]] = _ >>= _ from rfl)) ?_
  simp only [Array.getLit, List.getElem_toArray, List.getElem_cons_zero]
  simp only [Sem.run_bind, asPartsP, Result.andThen]
  simp [ReflectliteValue.elem, loadVar, isAgg, underlying, Tryd.underlying76, ha, Result.andThen, asElemOfP, asMkE]
theorem asPartsE (a : Addr) (w : World) : (ReflectliteValue.parts (.agg #[.pointer (some ⟨4, 24, none⟩), .pointer (some a), .int .u64 386])).run Tryd.prog w = .ok (some (24, a, 386)) w := by kernel_rfl
theorem asPartsF (a : Addr) (w : World) : (ReflectliteValue.parts (.agg #[.pointer (some ⟨4, 24, none⟩), .pointer (some a), .int .u64 130])).run Tryd.prog w = .ok (some (24, a, 130)) w := by kernel_rfl
theorem asDirect (w : World) : (Rtype.directlyAssignable 24 24).run Tryd.prog w = .ok true w := by kernel_rfl
theorem asSet (ta b : Addr) (n : Int) (old : Value) (W : World) (hb : W.cell? b = some (.int .i64 n)) (ht : W.cell? ta = some old) (hf : W.frozen? ta = false) :
    (ReflectliteValue.set #[.agg #[.pointer (some ⟨4, 24, none⟩), .pointer (some ta), .int .u64 386], .agg #[.pointer (some ⟨4, 24, none⟩), .pointer (some b), .int .u64 130]]).run Tryd.prog W
      = .ok (.tuple #[]) (W.setCell ta (.int .i64 n)) := by
  refine Eq.trans (congrArg (fun z => Sem.run Tryd.prog z W) (show ReflectliteValue.set #[.agg #[.pointer (some ⟨4, 24, none⟩), .pointer (some ta), .int .u64 386], .agg #[.pointer (some ⟨4, 24, none⟩), .pointer (some b), .int .u64 130]] = _ >>= _ from rfl)) ?_
  simp only [Array.getLit, List.getElem_toArray, List.getElem_cons_zero, List.getElem_cons_succ]
  simp only [Sem.run_bind, asPartsE, asPartsF, Result.andThen]
  simp [ReflectliteValue.flagAddr, loadVar, isAgg, underlying, Tryd.underlying24, hb, Result.andThen, asDirect, storeVar, Value.cells, storeCells, Addr.add]
  rw [run_store Tryd.prog W ta _ _ (by rfl)]
  simp [ht, hf]

set_option maxHeartbeats 1600000 in
theorem as_hit (n : Int) (t : Addr) (old : Value) (w : World) (hg : w.cell? ⟨1, 0, none⟩ = some (.iface 103 (.agg #[.pointer (some ⟨4, 30, none⟩)]))) (hlt : 1 < w.heap.size) (ht0 : w.cell? t = some old) (hf0 : w.frozen? t = false) (htl : t.block < w.heap.size) :
    Calls Tryd.prog 48 #[.iface 24 (.int .i64 n), .iface 76 (.pointer (some t))] w fun ev w' => ev = .returned (.bool true) ∧ w' = ((((w.alloc (.cells #[.pointer (some t)] 76)).alloc (.cells #[.pointer (some ⟨4, 76, none⟩), .pointer (some ⟨w.heap.size, 0, none⟩), .int .u64 150] 84)).alloc (.cells #[.pointer (some ⟨4, 76, none⟩), .pointer (some ⟨w.heap.size, 0, none⟩), .int .u64 150] 84)).alloc (.cells #[.int .i64 n] 24)).setCell t (.int .i64 n) := by
  have h36 := @run_callFunc_extern Tryd.prog 57 _ (fun args => ReflectliteValue.unpack (args.getD 0 (.tuple #[]))) Tryd.func57 (by kernel_rfl) (by kernel_rfl) (by kernel_rfl) (by kernel_rfl)
  have h37 := @run_callFunc_extern Tryd.prog 58 _ (ReflectliteValue.methodAny (ReflectliteValue.valueError "reflectlite.Value.Type" 0) (fun t _ _ _ => ReflectliteType.toType t)) Tryd.func58 (by kernel_rfl) (by kernel_rfl) (by kernel_rfl) (by kernel_rfl)
  have h38 := @run_callFunc_extern Tryd.prog 59 _ (ReflectliteValue.method (ReflectliteValue.valueError "reflectlite.Value.IsNil" 0) ReflectliteValue.isNil) Tryd.func59 (by kernel_rfl) (by kernel_rfl) (by kernel_rfl) (by kernel_rfl)
  have h75 := @run_callFunc_extern Tryd.prog 80 _ (ReflectliteType.abiMethod fun t => do pure (.int .u8 (← Rtype.kind t))) Tryd.func80 (by kernel_rfl) (by kernel_rfl) (by kernel_rfl) (by kernel_rfl)
  have h90 := @run_callFunc_extern Tryd.prog 93 _ (ReflectliteType.method ReflectliteType.elem) Tryd.func93 (by kernel_rfl) (by kernel_rfl) (by kernel_rfl) (by kernel_rfl)
  have h91 := @run_callFunc_extern Tryd.prog 94 _ (ReflectliteType.relation "Implements" ReflectliteType.implements_) Tryd.func94 (by kernel_rfl) (by kernel_rfl) (by kernel_rfl) (by kernel_rfl)
  have h45 := @run_callFunc_extern Tryd.prog 63 _ ReflectliteType.typeOf Tryd.func63 (by kernel_rfl) (by kernel_rfl) (by kernel_rfl) (by kernel_rfl)
  have h88 := @run_callFunc_extern Tryd.prog 91 _ (ReflectliteType.relation "AssignableTo" ReflectliteType.assignableTo) Tryd.func91 (by kernel_rfl) (by kernel_rfl) (by kernel_rfl) (by kernel_rfl)
  have h46 := @run_callFunc_extern Tryd.prog 64 _ (ReflectliteValue.method (ReflectliteValue.valueError "reflectlite.Value.Elem" 0) ReflectliteValue.elem) Tryd.func64 (by kernel_rfl) (by kernel_rfl) (by kernel_rfl) (by kernel_rfl)
  have h47 := @run_callFunc_extern Tryd.prog 65 _ ReflectliteValue.set Tryd.func65 (by kernel_rfl) (by kernel_rfl) (by kernel_rfl) (by kernel_rfl)
  have x1 := asTypeOfE
  have x2 := asMAssign
  have x3 := asAssignE
  have x4 := asValueOfE
  have x5 := asValueOfP
  have x6 := asTypeP
  have x7 := asMKind
  have x8 := asMElem
  have x9 := asMImpl
  have y1 := asKindP
  have y2 := asKindE
  have y3 := asElemP
  have y4 := asImplE
  have y5 := asIsNilP ⟨w.heap.size, 0, none⟩ t ((w.alloc (.cells #[.pointer (some t)] 76)).alloc (.cells #[.pointer (some ⟨4, 76, none⟩), .pointer (some ⟨w.heap.size, 0, none⟩), .int .u64 150] 84)) (by simp)
  have hg2 : ((w.alloc (.cells #[.pointer (some t)] 76)).alloc (.cells #[.pointer (some ⟨4, 76, none⟩), .pointer (some ⟨w.heap.size, 0, none⟩), .int .u64 150] 84)).cell? ⟨1, 0, none⟩ = some (.iface 103 (.agg #[.pointer (some ⟨4, 30, none⟩)])) := by
    rw [World.cell?_alloc_lt _ _ ⟨1, 0, none⟩ (by first | (simp; done) | (simp; omega)), World.cell?_alloc_lt _ _ ⟨1, 0, none⟩ hlt]; exact hg
  have el := asElemVP ⟨w.heap.size, 0, none⟩ t (((w.alloc (.cells #[.pointer (some t)] 76)).alloc (.cells #[.pointer (some ⟨4, 76, none⟩), .pointer (some ⟨w.heap.size, 0, none⟩), .int .u64 150] 84)).alloc (.cells #[.pointer (some ⟨4, 76, none⟩), .pointer (some ⟨w.heap.size, 0, none⟩), .int .u64 150] 84)) (by rw [World.cell?_alloc_lt _ _ ⟨w.heap.size, 0, none⟩ (by first | (simp; done) | (simp; omega))]; simp)
  have st := asSet t ⟨w.heap.size + 1 + 1 + 1, 0, none⟩ n old ((((w.alloc (.cells #[.pointer (some t)] 76)).alloc (.cells #[.pointer (some ⟨4, 76, none⟩), .pointer (some ⟨w.heap.size, 0, none⟩), .int .u64 150] 84)).alloc (.cells #[.pointer (some ⟨4, 76, none⟩), .pointer (some ⟨w.heap.size, 0, none⟩), .int .u64 150] 84)).alloc (.cells #[.int .i64 n] 24))
    (by rw [World.cell?_alloc_at _ _ _ _ (by simp)]; rfl)
    (by rw [World.cell?_alloc_lt _ _ t (by first | (simp; done) | (simp; omega)), World.cell?_alloc_lt _ _ t (by first | (simp; done) | (simp; omega)), World.cell?_alloc_lt _ _ t (by first | (simp; done) | (simp; omega)), World.cell?_alloc_lt _ _ t htl]; exact ht0)
    (by rw [World.frozen?_alloc_old _ _ t (by first | (simp; done) | (simp; omega)), World.frozen?_alloc_old _ _ t (by first | (simp; done) | (simp; omega)), World.frozen?_alloc_old _ _ t (by first | (simp; done) | (simp; omega)), World.frozen?_alloc_old _ _ t (Nat.ne_of_lt htl)]; exact hf0)
  go_enter Tryd.func48, Tryd.ntmps48
  go_wp2
  refine wp_loop_rounds 1 ?_
  rw [rounds_succ]
  go_wp2
  go_ret
  exact ⟨rfl, rfl⟩
end Go.Proofs.YtoblpjknnchlmaaDoor

/- Which number an error is: of none OK, of a bare number that number. -/
namespace Go.Proofs.YtoblpjknnchlmaaDoor
open Go.RowKit Go.Extern.Stop Go.Stop Go.Extern

/-- The library's own variable that errors.As asks for. -/
def ErrT (w : World) : Prop := w.cell? ⟨1, 0, none⟩ = some (.iface 103 (.agg #[.pointer (some ⟨4, 30, none⟩)])) ∧ 1 < w.heap.size
theorem ErrT.below {w w' : World} (h : ErrT w) (hb : Below w.heap.size w w') : ErrT w' := by
  refine ⟨?_, Nat.lt_of_lt_of_le h.2 hb.size⟩
  rw [hb.cell (p := ⟨1, 0, none⟩) h.2]
  exact h.1

theorem tell_nil (w : World) : Calls Tryd.prog 35 #[.nilIface] w fun e w' => e = .returned (.int .i64 0) ∧ w' = w := by
  go_enter Tryd.func35, Tryd.ntmps35
  go_wp2
  go_ret
  exact ⟨rfl, rfl⟩

set_option maxHeartbeats 800000 in
theorem tell_no (n : Int) (w : World) (hg : ErrT w) : Calls Tryd.prog 35 #[.iface 24 (.int .i64 n)] w fun e w' => e = .returned (.int .i64 n) ∧ Below w.heap.size w w' := by
  have HG : Hid (ErrT w) := hg
  clear hg
  go_enter Tryd.func35, Tryd.ntmps35
  go_wp2_with fail
  refine (as_hit n ⟨w.heap.size, 0, none⟩ (.int .i64 0) _ ?_ ?_ ?_ ?_ ?_).mono ?_
  · exact (HG.out.below ((Below.refl _ _).alloc (Nat.le_refl _) _)).1
  · have := HG.out.2; first | (simp; done) | (simp; omega)
  · simp
  · simp
  · simp
  · rintro e w1 ⟨rfl, hw⟩
    have hc : w1.cell? ⟨w.heap.size, 0, none⟩ = some (.int .i64 n) := by
      rw [hw]
      refine World.cell?_setCell_same (u := .int .i64 0) _ _ _ ?_
      rw [World.cell?_alloc_lt _ _ _ (by simp; omega), World.cell?_alloc_lt _ _ _ (by simp; omega), World.cell?_alloc_lt _ _ _ (by simp; omega), World.cell?_alloc_lt _ _ _ (by simp)]
      simp
    have hb : Below w.heap.size w w1 := by
      rw [hw]
      exact (((((((Below.refl _ _).alloc (Nat.le_refl _) _).alloc (by simp) _).alloc (by simp; omega) _).alloc (by simp; omega) _).alloc (by simp; omega) _).setCell (Nat.le_refl _) _)
    clear hw
    go_wp2
    go_ret
    exact ⟨rfl, hb⟩

end Go.Proofs.YtoblpjknnchlmaaDoor

/- Which number an error with a place is, by errors.As: through its Unwrap. -/
namespace Go.Proofs.YtoblpjknnchlmaaDoor
open Go.RowKit Go.Extern.Stop Go.Stop Go.Extern

theorem atTypeOf (v : Value) (w : World) : (ReflectliteType.typeOf #[.iface 45 v]).run Tryd.prog w = .ok (.iface 103 (.agg #[.pointer (some ⟨4, 45, none⟩)])) w := by kernel_rfl
theorem atAssign (w : World) : (ReflectliteType.relation "AssignableTo" ReflectliteType.assignableTo #[.agg #[.pointer (some ⟨4, 45, none⟩)], .iface 103 (.agg #[.pointer (some ⟨4, 24, none⟩)])]).run Tryd.prog w = .ok (.bool false) w := by kernel_rfl
theorem atNoAs (v : Value) (w : World) : (Instr.typeAssert (.iface 45 v) 30 108 true).run Tryd.prog w = .ok (.tuple #[.nilIface, .bool false]) w := by
  refine run_typeAssert_lacksB Tryd.underlying108 ?_ ?_ _ _ _
  · kernel_rfl
  · kernel_rfl
theorem atUnwraps (v : Value) (w : World) : (Instr.typeAssert (.iface 45 v) 30 63 true).run Tryd.prog w = .ok (.tuple #[.iface 45 v, .bool true]) w := by
  refine run_typeAssert_hasB Tryd.underlying63 ?_ _ _ _
  kernel_rfl
theorem atMethod (p : Option Addr) (w : World) : (Go.method 242 45 (.pointer p) "Unwrap").run Tryd.prog w = .ok (86, .pointer p) w := by kernel_rfl
theorem unwrap_any (g : Nat) (n : Int) (w : World) (h : w.cell? ⟨g, 0, none⟩ = some (.int .i64 n)) :
    Calls Tryd.prog 86 #[.pointer (some ⟨g, 0, none⟩)] w fun e w' => e = .returned (.iface 24 (.int .i64 n)) ∧ w' = w := by
  go_enter Tryd.func86, Tryd.ntmps86
  go_wp2
  go_ret
  exact ⟨rfl, rfl⟩
set_option maxHeartbeats 1600000 in
theorem as_at (g : Nat) (n : Int) (t : Addr) (old : Value) (w : World) (hg : w.cell? ⟨1, 0, none⟩ = some (.iface 103 (.agg #[.pointer (some ⟨4, 30, none⟩)]))) (hlt : 1 < w.heap.size) (ht0 : w.cell? t = some old) (hf0 : w.frozen? t = false) (htl : t.block < w.heap.size) (hat : w.cell? ⟨g, 0, none⟩ = some (.int .i64 n)) (hgl : g < w.heap.size) :
    Calls Tryd.prog 48 #[.iface 45 (.pointer (some ⟨g, 0, none⟩)), .iface 76 (.pointer (some t))] w fun ev w' => ev = .returned (.bool true) ∧ w' = ((((w.alloc (.cells #[.pointer (some t)] 76)).alloc (.cells #[.pointer (some ⟨4, 76, none⟩), .pointer (some ⟨w.heap.size, 0, none⟩), .int .u64 150] 84)).alloc (.cells #[.pointer (some ⟨4, 76, none⟩), .pointer (some ⟨w.heap.size, 0, none⟩), .int .u64 150] 84)).alloc (.cells #[.int .i64 n] 24)).setCell t (.int .i64 n) := by
  have h36 := @run_callFunc_extern Tryd.prog 57 _ (fun args => ReflectliteValue.unpack (args.getD 0 (.tuple #[]))) Tryd.func57 (by kernel_rfl) (by kernel_rfl) (by kernel_rfl) (by kernel_rfl)
  have h37 := @run_callFunc_extern Tryd.prog 58 _ (ReflectliteValue.methodAny (ReflectliteValue.valueError "reflectlite.Value.Type" 0) (fun t _ _ _ => ReflectliteType.toType t)) Tryd.func58 (by kernel_rfl) (by kernel_rfl) (by kernel_rfl) (by kernel_rfl)
  have h38 := @run_callFunc_extern Tryd.prog 59 _ (ReflectliteValue.method (ReflectliteValue.valueError "reflectlite.Value.IsNil" 0) ReflectliteValue.isNil) Tryd.func59 (by kernel_rfl) (by kernel_rfl) (by kernel_rfl) (by kernel_rfl)
  have h75 := @run_callFunc_extern Tryd.prog 80 _ (ReflectliteType.abiMethod fun t => do pure (.int .u8 (← Rtype.kind t))) Tryd.func80 (by kernel_rfl) (by kernel_rfl) (by kernel_rfl) (by kernel_rfl)
  have h90 := @run_callFunc_extern Tryd.prog 93 _ (ReflectliteType.method ReflectliteType.elem) Tryd.func93 (by kernel_rfl) (by kernel_rfl) (by kernel_rfl) (by kernel_rfl)
  have h91 := @run_callFunc_extern Tryd.prog 94 _ (ReflectliteType.relation "Implements" ReflectliteType.implements_) Tryd.func94 (by kernel_rfl) (by kernel_rfl) (by kernel_rfl) (by kernel_rfl)
  have h45 := @run_callFunc_extern Tryd.prog 63 _ ReflectliteType.typeOf Tryd.func63 (by kernel_rfl) (by kernel_rfl) (by kernel_rfl) (by kernel_rfl)
  have h88 := @run_callFunc_extern Tryd.prog 91 _ (ReflectliteType.relation "AssignableTo" ReflectliteType.assignableTo) Tryd.func91 (by kernel_rfl) (by kernel_rfl) (by kernel_rfl) (by kernel_rfl)
  have h46 := @run_callFunc_extern Tryd.prog 64 _ (ReflectliteValue.method (ReflectliteValue.valueError "reflectlite.Value.Elem" 0) ReflectliteValue.elem) Tryd.func64 (by kernel_rfl) (by kernel_rfl) (by kernel_rfl) (by kernel_rfl)
  have h47 := @run_callFunc_extern Tryd.prog 65 _ ReflectliteValue.set Tryd.func65 (by kernel_rfl) (by kernel_rfl) (by kernel_rfl) (by kernel_rfl)
  have x1 := asTypeOfE
  have u1 := atTypeOf
  have u2 := atAssign
  have u3 := atNoAs
  have u4 := atUnwraps
  have u5 := atMethod
  have x2 := asMAssign
  have x3 := asAssignE
  have x4 := asValueOfE
  have x5 := asValueOfP
  have x6 := asTypeP
  have x7 := asMKind
  have x8 := asMElem
  have x9 := asMImpl
  have y1 := asKindP
  have y2 := asKindE
  have y3 := asElemP
  have y4 := asImplE
  have y5 := asIsNilP ⟨w.heap.size, 0, none⟩ t ((w.alloc (.cells #[.pointer (some t)] 76)).alloc (.cells #[.pointer (some ⟨4, 76, none⟩), .pointer (some ⟨w.heap.size, 0, none⟩), .int .u64 150] 84)) (by simp)
  have hg2 : ((w.alloc (.cells #[.pointer (some t)] 76)).alloc (.cells #[.pointer (some ⟨4, 76, none⟩), .pointer (some ⟨w.heap.size, 0, none⟩), .int .u64 150] 84)).cell? ⟨1, 0, none⟩ = some (.iface 103 (.agg #[.pointer (some ⟨4, 30, none⟩)])) := by
    rw [World.cell?_alloc_lt _ _ ⟨1, 0, none⟩ (by first | (simp; done) | (simp; omega)), World.cell?_alloc_lt _ _ ⟨1, 0, none⟩ hlt]; exact hg
  have el := asElemVP ⟨w.heap.size, 0, none⟩ t (((w.alloc (.cells #[.pointer (some t)] 76)).alloc (.cells #[.pointer (some ⟨4, 76, none⟩), .pointer (some ⟨w.heap.size, 0, none⟩), .int .u64 150] 84)).alloc (.cells #[.pointer (some ⟨4, 76, none⟩), .pointer (some ⟨w.heap.size, 0, none⟩), .int .u64 150] 84)) (by rw [World.cell?_alloc_lt _ _ ⟨w.heap.size, 0, none⟩ (by first | (simp; done) | (simp; omega))]; simp)
  have st := asSet t ⟨w.heap.size + 1 + 1 + 1, 0, none⟩ n old ((((w.alloc (.cells #[.pointer (some t)] 76)).alloc (.cells #[.pointer (some ⟨4, 76, none⟩), .pointer (some ⟨w.heap.size, 0, none⟩), .int .u64 150] 84)).alloc (.cells #[.pointer (some ⟨4, 76, none⟩), .pointer (some ⟨w.heap.size, 0, none⟩), .int .u64 150] 84)).alloc (.cells #[.int .i64 n] 24))
    (by rw [World.cell?_alloc_at _ _ _ _ (by simp)]; rfl)
    (by rw [World.cell?_alloc_lt _ _ t (by first | (simp; done) | (simp; omega)), World.cell?_alloc_lt _ _ t (by first | (simp; done) | (simp; omega)), World.cell?_alloc_lt _ _ t (by first | (simp; done) | (simp; omega)), World.cell?_alloc_lt _ _ t htl]; exact ht0)
    (by rw [World.frozen?_alloc_old _ _ t (by first | (simp; done) | (simp; omega)), World.frozen?_alloc_old _ _ t (by first | (simp; done) | (simp; omega)), World.frozen?_alloc_old _ _ t (by first | (simp; done) | (simp; omega)), World.frozen?_alloc_old _ _ t (Nat.ne_of_lt htl)]; exact hf0)
  have hat3 : (((w.alloc (.cells #[.pointer (some t)] 76)).alloc (.cells #[.pointer (some ⟨4, 76, none⟩), .pointer (some ⟨w.heap.size, 0, none⟩), .int .u64 150] 84)).alloc (.cells #[.pointer (some ⟨4, 76, none⟩), .pointer (some ⟨w.heap.size, 0, none⟩), .int .u64 150] 84)).cell? ⟨g, 0, none⟩ = some (.int .i64 n) := by
    rw [World.cell?_alloc_lt _ _ ⟨g, 0, none⟩ (by simp; omega), World.cell?_alloc_lt _ _ ⟨g, 0, none⟩ (by simp; omega), World.cell?_alloc_lt _ _ ⟨g, 0, none⟩ hgl]; exact hat
  go_enter Tryd.func48, Tryd.ntmps48
  go_wp2
  refine wp_loop_rounds 2 ?_
  rw [rounds_succ]
  go_wp2
  rw [rounds_succ]
  go_wp2
  go_ret
  exact ⟨rfl, rfl⟩
end Go.Proofs.YtoblpjknnchlmaaDoor
