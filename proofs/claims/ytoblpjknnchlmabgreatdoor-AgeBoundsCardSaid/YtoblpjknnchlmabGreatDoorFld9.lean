/- Fields: the lines of an answer, by the program. -/
import Derived.Test.YtoblpjknnchlmabGreatDoorFld9D
import Derived.Test.YtoblpjknnchlmabGreatDoorAppP
import Derived.Test.YtoblpjknnchlmabGreatDoorTkBi
import Derived.Test.YtoblpjknnchlmabGreatDoorSplO
import Derived.Test.YtoblpjknnchlmabGreatDoorIx
import Derived.Test.YtoblpjknnchlmabGreatDoorTrB
import Derived.Test.YtoblpjknnchlmabGreatDoorClo
import Derived.Test.YtoblpjknnchlmabGreatDoorBdw
import Derived.Deep.Onto
import Derived.Deep.LoopGhost
namespace Go.Proofs.YtoblpjknnchlmabGreatDoor
open Go.RowKit

/-- What Fields answers. -/
def FldAns (o : Except (Option Nat) (List Par)) (B : Nat) (e : Ending) (w' : World) : Prop :=
  (∃ acc v, o = .ok acc ∧ acc.length ≤ 40 ∧ e = .returned (.tuple #[v, .nilIface]) ∧ OwnP w' B v acc) ∨
  (o = .error none ∧ e = .returned (.tuple #[.slice none 0 0, .iface 56 (.int .i64 4)])) ∨
  (∃ i g : Nat, o = .error (some i) ∧ e = .returned (.tuple #[.slice none 0 0, .iface 63 (.pointer (some ⟨g, 0, none⟩))]) ∧ w'.cell? ⟨g, 0, none⟩ = some (.int .i64 3) ∧ w'.cell? ⟨g, 1, none⟩ = some (.int .i64 (i : Int)) ∧ B ≤ g)
theorem drop_at9 {α : Type} {l : List α} {k : Nat} {x : α} (h : l[k]? = some x) : l.drop k = x :: l.drop (k + 1) := by
  obtain ⟨hl, e⟩ := List.getElem?_eq_some_iff.1 h
  rw [List.drop_eq_getElem_cons hl, e]
theorem OwnP.mono9 {w : World} {B B' : Nat} {v : Value} {ps : List Par} (h : OwnP w B v ps) (hb : B' ≤ B) : OwnP w B' v ps := World.ownsRow.mono h hb
set_option maxRecDepth 100000 in
set_option maxHeartbeats 8000000 in
theorem fields9_any (s : ByteArray) (hs : s.size ≤ 3000) (w : World) :
    Calls Tryz.prog 13 #[.string s] w fun e w' => FldAns (fieldsF s.data.toList) w.heap.size e w' ∧ Below w.heap.size w w' := by
  obtain ⟨o, HO⟩ : ∃ o, Hid (fieldsF s.data.toList = o) := ⟨_, rfl⟩
  rw [HO.out]
  go_enter Tryz.func13, Tryz.ntmps13
  go_wp2_with fail
  refine (split_one s 10 (by omega) _).mono ?_
  rintro e w1 ⟨ls, rfl, hn, hw1, hsp⟩
  have HSP : Hid (ls.map (·.data.toList) = splitL 10 s.data.toList) := hsp
  have HB1 : Hid (Below w.heap.size w w1) := by show Below _ _ _; rw [hw1]; exact (Below.refl _ _).alloc (Nat.le_refl _) _
  have HR1 : Hid (w1.heap[w.heap.size]? = some (.cells (ls.map Value.string).toArray 9 (0, 0)) ∧ w1.heap.size = w.heap.size + 1) := by show _ ∧ _; rw [hw1]; exact ⟨heap_alloc_new _ _, by simp⟩
  have HLZ : Hid (∀ l ∈ ls, l.size ≤ 3000) := fun l hl => by
    have h1 : l.data.toList ∈ splitL 10 s.data.toList := by rw [← hsp]; exact List.mem_map.2 ⟨l, hl, rfl⟩
    have h2 := splitL_lens 10 _ _ h1
    have h3 : s.data.toList.length = s.size := Array.length_toList
    have h4 : l.data.toList.length = l.size := Array.length_toList
    omega
  have HFF : Hid (fieldsF s.data.toList = runF 0 [] (ls.map (·.data.toList))) := by show _ = _; unfold fieldsF; rw [hsp]
  obtain ⟨n, HN⟩ : ∃ n, Hid (ls.length = n) := ⟨_, rfl⟩
  have hn1 : n ≤ 3001 := by have := HN.out; omega
  rw [HN.out]
  clear hw1 hsp hn
  go_wp2
  go_loopw [4, 17] (fun v i wr => ∃ (k : Nat) (acc : List Par) (a : Option Addr) (m c : Nat), k ≤ n ∧ i = .int .i64 k ∧ v = .slice a m c ∧ m ≤ 40 ∧ Hid (acc.length = m) ∧ Hid (runF 0 [] (ls.map (·.data.toList)) = runF k acc ((ls.map (·.data.toList)).drop k)) ∧ Hid (OwnP wr (w.heap.size + 1) (.slice a m c) acc ∧ Below (w.heap.size + 1) w1 wr)) (fun _ i _ => n - (intOf i).toNat)
  case atStart => exact ⟨0, [], none, 0, 0, Nat.zero_le _, rfl, rfl, by omega, rfl, rfl, ownP_nil _ _, Below.refl _ _⟩
  case round =>
    obtain ⟨k, acc, a, m, c, hk, rfl, rfl, hm, HAC, HK, HI⟩ := hrel
    have HBW : Hid (Below w.heap.size w wr) := HB1.out.trans (HI.out.2.mono (by omega))
    have HZR : Hid (w.heap.size + 1 ≤ wr.heap.size) := by have := HI.out.2.size; have := HR1.out.2; show _ ≤ _; omega
    by_cases hlt : k < n
    · have hltz : (k : Int) < (n : Int) := by omega
      obtain ⟨l, hl⟩ : ∃ l, ls[k]? = some l := ⟨ls[k]'(by have := HN.out; omega), List.getElem?_eq_getElem _⟩
      have hlz := HLZ.out l (List.mem_of_getElem? hl)
      have cl : wr.cell? ⟨w.heap.size, k, none⟩ = some (.string l) := by
        have hr : wr.heap[w.heap.size]? = some (.cells (ls.map Value.string).toArray 9 (0, 0)) := by rw [HI.out.2.block _ (by omega)]; exact HR1.out.1
        exact cells_of hr k _ (by simp [hl])
      have HD : Hid ((ls.map (·.data.toList)).drop k = l.data.toList :: (ls.map (·.data.toList)).drop (k + 1)) := drop_at9 (by rw [List.getElem?_map, hl]; rfl)
      obtain ⟨t, HT⟩ : ∃ t, Hid (bs (lineT l.data.toList) = t) := ⟨_, rfl⟩
      have htz : t.size ≤ 3000 := by
        rw [← HT.out, bs_size]
        have h4 : l.data.toList.length = l.size := Array.length_toList
        have h5 : (lineT l.data.toList).length ≤ l.data.toList.length := by
          unfold lineT Lib.trimSuffix
          split <;> simp
        omega
      have HTL : Hid (lineT l.data.toList = t.data.toList) := by show _ = _; rw [← HT.out, bs_data]
      have htr := fun W => trim_any l ⟨#[13]⟩ W (by omega)
      have e13 : bs (Lib.trimSuffix l.data.toList (⟨#[13]⟩ : ByteArray).data.toList) = t := HT.out
      rw [e13] at htr
      clear hl e13
      go_wp2_with fail
      refine (htr _).mono ?_
      rintro e w2 ⟨rfl, hw2⟩
      obtain rfl := hw2.symm
      clear htr cl
      by_cases h0 : t.size = 0
      · have HNX : Hid (runF 0 [] (ls.map (·.data.toList)) = runF (k + 1) acc ((ls.map (·.data.toList)).drop (k + 1))) := by
          show _ = _
          rw [HK.out, HD.out]
          refine runF_skip ?_
          rw [HTL.out]
          exact List.eq_nil_of_length_eq_zero (by rw [Array.length_toList]; exact h0)
        have he : t.toList.isEmpty = true := by
          rw [ByteArray.toList_eq, List.isEmpty_iff]
          exact List.eq_nil_of_length_eq_zero (by rw [Array.length_toList]; exact h0)
        go_wp2
        go_roundw
        case rel => exact ⟨k + 1, acc, a, m, c, by omega, by go_num, rfl, hm, HAC, HNX, HI.out⟩
        case measure => simp [intOf]; omega
      · have HNE : Hid (lineT l.data.toList ≠ []) := by
          show _ ≠ _
          rw [HTL.out]
          intro e
          have h4 : t.data.toList.length = t.size := Array.length_toList
          rw [e] at h4
          exact h0 h4.symm
        have he : t.toList.isEmpty = false := by
          rw [ByteArray.toList_eq, ← HTL.out, List.isEmpty_eq_false_iff]
          exact HNE.out
        go_wp2_with fail
        refine (cut_any t 58 (by omega) _).mono ?_
        rintro e w3 ⟨x, y, f, rfl, hx, hy, hcut, hb3⟩
        have HB3 : Hid (Below wr.heap.size wr w3) := hb3
        clear hb3
        cases f
        · have HEE : Hid (o = .error (some k)) := by
            show _ = _
            rw [← HO.out, HFF.out, HK.out, HD.out]
            exact runF_bad HNE.out (by rw [HTL.out]; exact lineF_none1 hcut.out)
          have HBZ : Hid (Below w.heap.size w w3) := HBW.out.trans (HB3.out.mono HBW.out.size)
          go_wp2
          go_ret2
          exact ⟨.inr (.inr ⟨k, _, HEE.out, rfl, World.cell?_alloc_mark _ _ _ _ _, World.cell?_alloc_mark _ _ _ _ _, HBZ.out.size⟩), HBZ.out.alloc HBZ.out.size _⟩
        · obtain ⟨q, HQ⟩ : ∃ q, Hid (isL x.data.toList = q) := ⟨_, rfl⟩
          have his := fun W => is_any x (by omega) W
          rw [HQ.out] at his
          go_wp2_with fail
          refine (his _).mono ?_
          rintro e w4 ⟨rfl, hw4⟩
          obtain rfl := hw4.symm
          clear his
          cases q
          · have HEE : Hid (o = .error (some k)) := by
              show _ = _
              rw [← HO.out, HFF.out, HK.out, HD.out]
              exact runF_bad HNE.out (by rw [HTL.out]; exact lineF_none2 hcut.out HQ.out)
            have HBZ : Hid (Below w.heap.size w w3) := HBW.out.trans (HB3.out.mono HBW.out.size)
            go_wp2
            go_ret2
            exact ⟨.inr (.inr ⟨k, _, HEE.out, rfl, World.cell?_alloc_mark _ _ _ _ _, World.cell?_alloc_mark _ _ _ _ _, HBZ.out.size⟩), HBZ.out.alloc HBZ.out.size _⟩
          · have HLF : Hid (lineF (lineT l.data.toList) = some (x, bs (trimW y.data.toList))) := by
              show _ = _
              rw [HTL.out, lineF_some hcut.out HQ.out, bs_self]
            by_cases h40 : m = 40
            · have HEE : Hid (o = .error none) := by
                show _ = _
                rw [← HO.out, HFF.out, HK.out, HD.out]
                exact runF_many HNE.out HLF.out (by rw [HAC.out]; exact h40)
              have HBZ : Hid (Below w.heap.size w w3) := HBW.out.trans (HB3.out.mono HBW.out.size)
              have h40z : (m : Int) = 40 := by omega
              go_wp2
              go_ret2
              exact ⟨.inr (.inl ⟨HEE.out, rfl⟩), HBZ.out⟩
            · have HNX : Hid (runF 0 [] (ls.map (·.data.toList)) = runF (k + 1) (acc ++ [(x, bs (trimW y.data.toList))]) ((ls.map (·.data.toList)).drop (k + 1))) := by
                show _ = _
                rw [HK.out, HD.out]
                exact runF_next HNE.out HLF.out (by rw [HAC.out]; exact h40)
              have h40z : ¬ (m : Int) = 40 := by omega
              have HI3 : Hid (OwnP w3 (w.heap.size + 1) (.slice a m c) acc ∧ Below (w.heap.size + 1) w1 w3) := ⟨HI.out.1.below HB3.out, HI.out.2.trans (HB3.out.mono HZR.out)⟩
              clear hcut HB3
              go_wp2_with fail
              refine (clone_any x (by omega) _).mono ?_
              rintro e w4 ⟨rfl, hb4⟩
              go_wp2_with fail
              refine (trimBoth_any y (by omega) _).mono ?_
              rintro e w5 ⟨u, rfl, hu, huz, hb5⟩
              have HU : Hid (bs (trimW y.data.toList) = u) := by show _ = _; rw [← hu.out, bs_self]
              rw [HU.out] at HNX
              go_wp2_with fail
              refine (clone_any u (by omega) _).mono ?_
              rintro e w6 ⟨rfl, hb6⟩
              have HI6 : Hid (OwnP w6 (w.heap.size + 1) (.slice a m c) acc ∧ Below (w.heap.size + 1) w1 w6 ∧ w.heap.size + 1 ≤ w6.heap.size) := by
                have hz : w.heap.size + 1 ≤ w3.heap.size := by have := HI3.out.2.size; have := HR1.out.2; omega
                have b6 := hb4.trans ((hb5.trans (hb6.mono hb5.size)).mono hb4.size)
                exact ⟨HI3.out.1.below b6, HI3.out.2.trans (b6.mono hz), Nat.le_trans hz b6.size⟩
              clear hu hb4 hb5 hb6 HI3
              go_wp2_with (at_builtin; refine wp_appp rfl _ _ rfl (w.heap.size + 1) w6 (.slice a m c) acc m rfl HI6.out.1 HAC.out (by omega) HI6.out.2.2 (x, u) _ rfl rfl ?_; intro g7 cap7 w7 hown7 hg7 hlt7; have HI7 : Hid (OwnP w7 (w.heap.size + 1) (.slice (some ⟨g7, 0, none⟩) (m + 1) cap7) (acc ++ [(x, u)]) ∧ Below (w.heap.size + 1) w1 w7) := ⟨hown7, (HI6.out.2.1.alloc HI6.out.2.2 _).grown hg7 (by have := HI6.out.2.2; simp; omega) (fun i hi => (HI6.out.1.lt i hi).1)⟩; clear hown7 hg7 hlt7)
              go_roundw
              case rel => exact ⟨k + 1, acc ++ [(x, u)], _, m + 1, _, by omega, by go_num, rfl, by omega, (by show _ = _; rw [List.length_append, HAC.out]; rfl), HNX, HI7.out⟩
              case measure => simp [intOf]; omega
    · have hltz : ¬ (k : Int) < (n : Int) := by omega
      have HE : Hid (o = .ok acc) := by
        show _ = _
        rw [← HO.out, HFF.out, HK.out, List.drop_of_length_le (by rw [List.length_map]; have := HN.out; omega)]
        rfl
      go_wp2
      go_ret2
      exact ⟨.inl ⟨acc, _, HE.out, by rw [HAC.out]; exact hm, rfl, HI.out.1.mono9 (by omega)⟩, HBW.out⟩
end Go.Proofs.YtoblpjknnchlmabGreatDoor
