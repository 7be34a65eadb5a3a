/- Texts of one claim, joined: each begins with what it proves. -/
import Derived.Test.YtgajhmmildbkfaaGreatDoorJo1
import Derived.Lib.FrozenHead
import Derived.Lib.SlFresh
import Derived.Deep.LoopGhost
import Derived.Deep.OwnRows
import Derived.Lib.AppendStr
import Derived.Deep.RegionWith
import Derived.Shelf.Strings.OnBuilder
import Derived.Deep.QuietTactic
import Derived.BigQuiet
import Derived.Shelf.Strings.Repeat
import Derived.Deep.RegionHeld3
/- Bytes that are appended to a row that a call owns, be it a conversion's own row (which bears a mark behind its end) or not. -/
namespace Go.Proofs.YtgajhmmildbkfaaGreatDoor
open Go.RowKit

/-- The bytes l lie at the head of block g, which is from B on; nothing of it is frozen. -/
def OwnM (w : World) (B g n cap : Nat) (l : List UInt8) : Prop :=
  B ≤ g ∧ l.length = n ∧ ∃ cur fz, w.heap[g]? = some (.cells cur 5 fz) ∧ (fz.2 = 0 ∨ cur.size ≤ fz.1) ∧ n ≤ cap ∧ cap ≤ maxLen ∧ cur.size = cap ∧ cur.toList.take n = l.map fun c => Value.int .u8 (c.toNat : Int)

theorem storeCells_M (P : Program) (g o : Nat) (t : TypeId) (fz : Nat × Nat) : ∀ (vs : List Value) (i : Nat) (cur : Array Value) (w : World), w.heap[g]? = some (.cells cur t fz) → (fz.2 = 0 ∨ cur.size ≤ fz.1) → o + i + vs.length ≤ cur.size → (∀ v ∈ vs, v.oneCell' = true) →
    (storeCells ⟨g, o, none⟩ vs i).run P w = .ok () (w.setRow g (cur.toList.take (o + i) ++ vs ++ cur.toList.drop (o + i + vs.length)).toArray)
  | [], i, cur, w, hg, _, _, _ => by
    simp only [storeCells, List.append_nil, List.length_nil, Nat.add_zero, List.take_append_drop, Array.toArray_toList]
    rw [setRow_self w g cur t fz hg]
    rfl
  | v :: rest, i, cur, w, hg, hfz, hl, h1 => by
    have hi : o + i < cur.size := by simp at hl; omega
    have hadd : (⟨g, o, none⟩ : Addr).add i = ⟨g, o + i, none⟩ := by unfold Addr.add; split <;> simp_all
    have hcell : w.cell? ⟨g, o + i, none⟩ = some cur[o + i] := by simp [World.cell?, hg, hi]
    have hfro : w.frozen? ⟨g, o + i, none⟩ = false := by
      obtain ⟨lo, hi'⟩ := fz
      simp only [World.frozen?, hg, Bool.and_eq_false_iff, decide_eq_false_iff_not]
      simp only at hfz
      omega
    have hst : (store ((⟨g, o, none⟩ : Addr).add i) v).run P w = .ok () (w.setRow g (cur.setIfInBounds (o + i) v)) := by
      rw [hadd, run_store P w _ v _ (h1 v (by simp)), hcell]
      simp [hfro, setCell_eq_setRow w g (o + i) cur t fz v hg]
    have ih := storeCells_M P g o t fz rest (i + 1) (cur.setIfInBounds (o + i) v) (w.setRow g (cur.setIfInBounds (o + i) v)) (setRow_heap w g cur _ t _ hg) (by simpa using hfz) (by simp at hl ⊢; omega) (fun x hx => h1 x (by simp [hx]))
    simp only [storeCells, Sem.run_bind, hst, Result.andThen_ok, ih, setRow_setRow]
    congr 3
    have e := list_seg_step cur.toList (o + i) v rest (by simp at hl ⊢; omega)
    simpa [Array.toList_setIfInBounds, Nat.add_assoc] using e

theorem OwnM.cells {w : World} {B g n cap : Nat} {l : List UInt8} (h : OwnM w B g n cap l) (j : Nat) (hj : j < l.length) : w.cell? ⟨g, j, none⟩ = some (.int .u8 (l[j].toNat : Int)) := by
  obtain ⟨_, hn, cur, fz, hg, _, hnc, _, hcs, ht⟩ := h
  rw [cell_of_row w g j cur 5 fz hg]
  have h1 : (cur.toList.take n)[j]? = some (.int .u8 (l[j].toNat : Int)) := by
    rw [ht]
    simp [hj]
  rw [List.getElem?_take, if_pos (by omega)] at h1
  simpa using h1
theorem OwnM.lt {w : World} {B g n cap : Nat} {l : List UInt8} (h : OwnM w B g n cap l) : g < w.heap.size := by
  obtain ⟨_, _, cur, fz, hg, _⟩ := h
  exact (Array.getElem?_eq_some_iff.1 hg).1
theorem OwnM.kept {w w' : World} {B g n cap : Nat} {l : List UInt8} (h : OwnM w B g n cap l) (hk : w'.heap[g]? = w.heap[g]?) : OwnM w' B g n cap l := by
  obtain ⟨h1, h2, cur, fz, hg, h3⟩ := h
  exact ⟨h1, h2, cur, fz, hk.trans hg, h3⟩
theorem OwnM.alloc {w : World} {B g n cap : Nat} {l : List UInt8} (h : OwnM w B g n cap l) (o : Obj) : OwnM (w.alloc o) B g n cap l :=
  h.kept (heap_alloc_old w o h.lt)

theorem append_M {P : Program} (w : World) (B : Nat) (t ty : TypeId) (i : TypeInfo) (ht : P.underlying t = some (.slice 5)) (hi : P.info? 5 = some i) (hz : i.zero = some (.int .u8 0)) (hsize : i.size = 1) (hby : i.bytes = 1)
    (g n cap : Nat) (l : List UInt8) (h : OwnM w B g n cap l)
    (a : Addr) (m c : Nat) (news : List UInt8) (hl : news.length = m) (hnews : ∀ j u, (news.map fun c => Value.int .u8 (c.toNat : Int))[j]? = some u → w.cell? (a.add j) = some u)
    (h63 : n + m ≤ 140737488355328) (hbase : B ≤ w.heap.size) :
    ∃ g' cap' w', (Builtin.append_ #[t, t] ty #[.slice (some ⟨g, 0, none⟩) n cap, .slice (some a) m c]).run P w = .ok (.slice (some ⟨g', 0, none⟩) (n + m) cap') w' ∧
      OwnM w' B g' (n + m) cap' (l ++ news) ∧ w.grownBy w' (some g) ∧ (g' = g ∨ g' = w.heap.size) := by
  obtain ⟨hB, hn, cur, fz, hg, hfz, hnc, hcm, hcs, htake⟩ := id h
  have hnl : (news.map fun c => Value.int .u8 (c.toNat : Int)).length = m * i.size := by simp [hl, hsize]
  have h1 : ∀ u ∈ (news.map fun c => Value.int .u8 (c.toNat : Int)), u.oneCell' = true := by
    intro u hu
    obtain ⟨x, _, rfl⟩ := List.mem_map.1 hu
    rfl
  by_cases hroom : n + m ≤ cap
  · have hf := run_firstCells_some (P := P) w i.size m a m c _ hnl hnews
    have hst := storeCells_M P g (n * i.size) 5 fz (news.map fun c => Value.int .u8 (c.toNat : Int)) 0 cur w hg hfz (by simp [hl, hsize]; omega) h1
    simp only [Nat.add_zero] at hst
    refine ⟨g, cap, w.setRow g (cur.toList.take (n * i.size) ++ (news.map fun c => Value.int .u8 (c.toNat : Int)) ++ cur.toList.drop (n * i.size + (news.map fun c => Value.int .u8 (c.toNat : Int)).length)).toArray, ?_, ?_, ?_, .inl rfl⟩
    · simp [Builtin.append_, run_underlying ht, sizeOf, typeInfo, hi, Builtin.lenOf, hroom, hf, Addr.add_lit, hst]
    · refine ⟨hB, by simp [hn, hl], _, fz, setRow_heap w g cur _ 5 _ hg, ?_, hroom, hcm, ?_, ?_⟩
      · rcases hfz with hfz | hfz
        · exact .inl hfz
        · right
          simp [hsize, hl]
          omega
      · simp [hsize, hl]
        omega
      · rw [hsize, Nat.mul_one, htake, List.map_append]
        have : n + m = ((l.map fun c => Value.int .u8 (c.toNat : Int)) ++ (news.map fun c => Value.int .u8 (c.toNat : Int))).length := by simp [hn, hl]
        rw [this]
        exact List.take_left
    · exact ⟨rfl, rfl, rfl, by simp, fun k _ hk => setRow_other w g k _ (fun e => hk (by simp [e]))⟩
  · have holds : ∀ j u, (l.map fun c => Value.int .u8 (c.toNat : Int))[j]? = some u → w.cell? ((⟨g, 0, none⟩ : Addr).add j) = some u := by
      intro j u hj
      have hj' : j < l.length := by
        have := (List.getElem?_eq_some_iff.1 hj).1
        simpa using this
      have hadd : (⟨g, 0, none⟩ : Addr).add j = ⟨g, j, none⟩ := by unfold Addr.add; split <;> simp_all
      rw [hadd, h.cells j hj']
      simpa [hj'] using hj
    have hr := run_append_grow (P := P) w t ty 5 i (.int .u8 0) ht hi hz ⟨g, 0, none⟩ n cap (l.map fun c => Value.int .u8 (c.toNat : Int)) (by simp [hn, hsize]) holds a m c _ hnl hnews (by omega) (by omega) (growslice_fits (by omega) (by rw [hby]; omega))
    have hge := grownCap_ge w (n + m) cap 5
    have hcm2 : grownCap w (n + m) cap 5 ≤ maxLen := grownCap_le_maxLen w (n + m) cap 5 (by unfold maxLen; omega)
    refine ⟨w.heap.size, _, _, hr, ⟨hbase, by simp [hn, hl], _, (0, 0), heap_alloc_new w.drew _, .inl rfl, hge, hcm2, ?_, ?_⟩, ⟨rfl, rfl, rfl, by simp, fun k hk _ => heap_alloc_old w.drew _ hk⟩, .inr rfl⟩
    · have hz1 : (Value.int IntKind.u8 0).cells.size = 1 := rfl
      simp only [Array.size_append, List.size_toArray, size_zeroCells, hz1, List.length_map, hn, hl]
      omega
    · have : n + m = ((l.map fun c => Value.int .u8 (c.toNat : Int)) ++ (news.map fun c => Value.int .u8 (c.toNat : Int))).length := by simp [hn, hl]
      simp only [Array.toList_append]
      rw [List.map_append, this]
      exact List.take_left

theorem wpList_append_M {P : Program} (w : World) {ops : Array Oper} {rest : List Oper} {o : Oper} {a : Act} {Q : Exit → Act → World → Prop} (hgd : o.guard = none) (s x : Operand) (t : TypeId)
    (ho : o.op = .call { callee := .builtin .append, args := #[s, x], argTypes := #[t, t] }) (B : Nat) (i : TypeInfo) (ht : P.underlying t = some (.slice 5)) (hi : P.info? 5 = some i) (hz : i.zero = some (.int .u8 0)) (hsize : i.size = 1) (hby : i.bytes = 1)
    (g n cap : Nat) (l : List UInt8) (hs : a.eval s = .slice (some ⟨g, 0, none⟩) n cap) (h : OwnM w B g n cap l)
    (ad : Addr) (m c : Nat) (news : List UInt8) (hx : a.eval x = .slice (some ad) m c) (hl : news.length = m) (hnews : ∀ j u, (news.map fun c => Value.int .u8 (c.toNat : Int))[j]? = some u → w.cell? (ad.add j) = some u)
    (h63 : n + m ≤ 140737488355328) (hbase : B ≤ w.heap.size)
    (k : ∀ g' cap' w', OwnM w' B g' (n + m) cap' (l ++ news) → w.grownBy w' (some g) → (g' = g ∨ g' = w.heap.size) → wpList P ops Q rest (a.put o.dst (.slice (some ⟨g', 0, none⟩) (n + m) cap')) w') : wpList P ops Q (o :: rest) a w := by
  obtain ⟨g', cap', w', hr, h1, h2, h3⟩ := append_M w B t o.type i ht hi hz hsize hby g n cap l h ad m c news hl hnews h63 hbase
  exact Lib.wpList_append_run_sl w hgd s x t ho _ _ hs hx hr (k g' cap' w' h1 h2 h3)

theorem conv_M (s : ByteArray) (w : World) (hs : s.size ≤ 140737488355328) : ∃ (cap : Nat) (W1 : World), (convert 9 83 (.string s)).run Tryz.prog w = .ok (.slice (some ⟨w.heap.size, 0, none⟩) s.size cap) W1 ∧ OwnM W1 w.heap.size w.heap.size s.size cap s.data.toList ∧ Below w.heap.size w W1 ∧ W1.heap.size = w.heap.size + 1 := by
  refine ⟨_, _, run_bytes_of_string (P := Tryz.prog) w 9 83 5 s Tryz.underlying9 Tryz.underlying83 Tryz.underlying5, ?_, ?_, ?_⟩
  · have hge := grownCap_ge w s.size 0 5
    refine ⟨Nat.le_refl _, by simp, _, _, heap_alloc_new w.drew _, .inr (Nat.le_refl _), hge, grownCap_le_maxLen w s.size 0 5 (by unfold maxLen; omega), ?_, ?_⟩
    · simp [bytesRow]
      omega
    · simp [bytesRow]
  · exact ((Below.refl _ _).drew).alloc (Nat.le_refl _) _
  · simp
end Go.Proofs.YtgajhmmildbkfaaGreatDoor

/- What is summed: the program's filling. -/
namespace Go.Proofs.YtgajhmmildbkfaaGreatDoor
open Go.RowKit

/-- The first i of the eight bytes that tell how many bits there are. -/
def tailO (o : Bool) (N i : Nat) : List UInt8 := (List.range i).map fun j => UInt8.ofNat (N / 2 ^ shiftN o j 8)
theorem tailO_length (o : Bool) (N i : Nat) : (tailO o N i).length = i := by simp [tailO]
theorem tailO_succ (o : Bool) (N i : Nat) : tailO o N (i + 1) = tailO o N i ++ [UInt8.ofNat (N / 2 ^ shiftN o i 8)] := by
  simp [tailO, List.range_succ]
theorem tailO_eight (o : Bool) (N : Nat) : tailO o N 8 = if !o then le8 N else (le8 N).reverse := by
  cases o <;> simp [tailO, shiftN, le8, List.range_succ]
theorem own_M {w : World} {B n : Nat} {v : Value} {l : List UInt8} (h : w.ownsRow B 5 1 v n (l.map fun c => Value.int .u8 (c.toNat : Int))) (hn : l.length = n) (hv : v ≠ .slice none 0 0) : ∃ g cap, v = .slice (some ⟨g, 0, none⟩) n cap ∧ OwnM w B g n cap l := by
  obtain ⟨_, h2⟩ := h
  rcases h2 with ⟨h2, _⟩ | ⟨g, cap, cur, he, hB, hg, hnc, hcm, hcs, htake⟩
  · exact absurd h2 hv
  · refine ⟨g, cap, he, hB, hn, cur, (0, 0), hg, .inl rfl, hnc, hcm, by simpa using hcs, by simpa using htake⟩
theorem cell_oneB (w : World) (d : UInt8) (X : Int) (hX : X = d.toNat) : ∀ j u, ([d].map fun c => Value.int .u8 (c.toNat : Int))[j]? = some u → (w.alloc (.cells #[.int .u8 X] 5)).cell? ((⟨w.heap.size, 0, none⟩ : Addr).add j) = some u := by
  subst hX
  exact fun j u hj => cell_one_new w (.int .u8 (d.toNat : Int)) 5 j u hj
set_option maxHeartbeats 1600000 in
set_option maxRecDepth 100000 in
theorem fill_any (o : Bool) (s : ByteArray) (hs : s.size ≤ 1000) (w : World) :
    Calls Tryz.prog 81 #[.bool o, .string s] w fun e w' => ∃ g n cap : Nat, e = .returned (.slice (some ⟨g, 0, none⟩) n cap) ∧ n = (s.size + 72) / 64 * 64 ∧ n ≤ cap ∧ w.heap.size ≤ g ∧ g < w'.heap.size ∧ Hid (Cells w' g (padL (!o) s.data.toList)) ∧ Below w.heap.size w w' := by
  obtain ⟨i0, hi0, hz0, hz1, hz2⟩ := info_parts info5
  go_enter Tryz.func81, Tryz.ntmps81
  go_wp2_with (first
    | (at_make; refine wpList_make_own _ rfl _ _ 83 rfl w.heap.size 5 i0 (.int .u8 0) 1 Tryz.underlying83 hi0 hz0 hz1 .i64 .i64 _ (s.size + 72) rfl rfl (by omega) (by rw [hz2]; omega) (by unfold maxLen; omega) (Nat.le_refl _) ?_; intro w1 hown1 hgrow1)
    | (at_builtin; refine Lib.wpList_append_own_string w1 rfl _ _ 83 9 rfl w.heap.size 5 i0 Tryz.underlying83 Tryz.underlying9 hi0 hz0 hz1 hz2 _ 0 [] rfl hown1 s rfl (by unfold maxLen; omega) (by omega) hgrow1.size ?_; intro v2 w2 hown2 hgrow2 hnil2; have hnn : v2 ≠ .slice none 0 0 := (fun e => by cases (hnil2.1 e).1); rw [Nat.zero_add] at hown2; obtain ⟨g2, cap2, hv2, hM2⟩ := own_M (l := s.data.toList) hown2 (by simp) hnn; subst hv2; have hws : w.heap.size ≤ w2.heap.size := Nat.le_trans hgrow1.size hgrow2.size; have hgrow3 : w1.grownBy w2 (some w.heap.size) := hgrow2)
    | (at_builtin; refine wpList_append_M _ rfl _ _ 83 rfl w.heap.size i0 Tryz.underlying83 hi0 hz0 hz1 hz2 _ _ _ s.data.toList rfl (hM2.alloc _) ⟨_, 0, none⟩ 1 1 [128] rfl rfl (fun j u hj => cell_one_new w2 (.int .u8 128) 5 j u hj) (by omega) (by simp; omega) ?_; intro g3 cap3 w3 hM3 hg3 hat3))
  have hb2 : Below w.heap.size w w2 := ((Below.refl _ _).grown hgrow1 (Nat.le_refl _) (by simp)).grown hgrow3 hgrow1.size (by simp)
  have hB1 : Below w.heap.size w w3 := (hb2.alloc hws _).grown hg3 (by simp; omega) (fun x hx => by have := hM2.1; simp only [Option.some.injEq] at hx; omega)
  have HM1 : Hid (OwnM w3 w.heap.size g3 (s.size + 1) cap3 (s.data.toList ++ [128])) := hM3
  clear hM3 hg3 hat3 hM2 hown1 hgrow1 hown2 hgrow2 hgrow3 hnil2 hnn hb2 hws
  go_loopg [5] (zerosN s.size) (fun gh v wr => ∃ k g n cap : Nat, k + gh = zerosN s.size ∧ v = .slice (some ⟨g, 0, none⟩) n cap ∧ n = s.size + 1 + k ∧ Hid (OwnM wr w.heap.size g n cap (s.data.toList ++ [128] ++ List.replicate k 0)) ∧ Below w.heap.size w wr)
  case atStart => exact ⟨0, g3, _, cap3, by omega, rfl, by omega, by simpa using HM1, hB1⟩
  case round =>
    obtain ⟨k, g, n, cap4, hk, rfl, hn, HO, hb⟩ := hrel
    have hz : zerosN s.size < 64 := by unfold zerosN; omega
    have hn2 : n ≤ 1100 := by omega
    have hwr : w.heap.size ≤ wr.heap.size := hb.size
    clear HM1 hB1
    cases gk with
    | succ gk =>
      have hne : ((n : Int) % 64 != 56) = true := by
        have : n % 64 ≠ 56 := by unfold zerosN at hk; omega
        simp; omega
      have HN : Hid (n = s.size + 1 + k) := hn
      clear hn
      go_wp2_with (at_builtin; refine wpList_append_M _ rfl _ _ 83 rfl w.heap.size i0 Tryz.underlying83 hi0 hz0 hz1 hz2 _ _ _ _ rfl (HO.out.alloc _) ⟨_, 0, none⟩ 1 1 [0] rfl rfl (fun j u hj => cell_one_new wr (.int .u8 0) 5 j u hj) (by omega) (by simp; omega) ?_; intro g2 cap3 w2 hM2 hg2 hat2)
      go_roundg gk
      case measure => omega
      case rel =>
        refine ⟨k + 1, g2, n + 1, cap3, by omega, rfl, by have := HN.out; omega, ?_, (hb.alloc hwr _).grown hg2 (by simp; omega) ?_⟩
        · show OwnM _ _ _ _ _ _
          rw [List.replicate_succ', ← List.append_assoc]
          exact hM2
        · intro x hx
          have := HO.out.1
          simp only [Option.some.injEq] at hx
          omega
    | zero =>
      have hne : ((n : Int) % 64 != 56) = false := by
        have : n % 64 = 56 := by unfold zerosN at hk; omega
        simp; omega
      have HN : Hid (n = s.size + 1 + k) := hn
      clear hn
      have hkz : k = zerosN s.size := by omega
      subst hkz
      clear hk
      go_wp2
      go_loopw [5, 28] (fun v i wx => ∃ j g n cap : Nat, j ≤ 8 ∧ i = .int .i64 j ∧ v = .slice (some ⟨g, 0, none⟩) n cap ∧ n ≤ 1100 ∧ Hid (n = s.size + 1 + zerosN s.size + j) ∧ Hid (OwnM wx w.heap.size g n cap (s.data.toList ++ [128] ++ List.replicate (zerosN s.size) 0 ++ tailO o (8 * s.size) j)) ∧ Hid (Below w.heap.size w wx)) (fun _ i _ => 8 - (intOf i).toNat)
      case atStart => exact ⟨0, g, n, cap4, by omega, rfl, rfl, hn2, HN, by simpa [tailO] using HO, hb⟩
      case round =>
        clear HN HO hb hwr hne hn2
        obtain ⟨j, g, n, cap, hj, rfl, rfl, hn2, HN, HO, HB⟩ := hrel
        have hwr : w.heap.size ≤ wr.heap.size := HB.out.size
        by_cases hlt : j < 8
        · obtain ⟨sh, hsh⟩ : ∃ sh : Nat, shiftN o j 8 = sh := ⟨_, rfl⟩
          have hsh2 : sh ≤ 56 := by rw [← hsh, shiftN]; split <;> omega
          have hn3 : n ≤ 1080 := by have := HN.out; omega
          have HX : Hid (8 * (s.size : Int) / 2 ^ sh % 256 = ((UInt8.ofNat (8 * s.size / 2 ^ shiftN o j 8)).toNat : Int)) := by
            show _ = _
            rw [UInt8.toNat_ofNat', hsh]
            push_cast
            rfl
          go_wp2_with (first
            | (go_at_call 110; refine (shift_any o j 8 hlt (by omega) _).mono ?_; rintro e w2 ⟨rfl, hw2⟩; rw [hw2, hsh]; clear hw2 w2)
            | (at_builtin; refine wpList_append_M _ rfl _ _ 83 rfl w.heap.size i0 Tryz.underlying83 hi0 hz0 hz1 hz2 _ _ _ _ rfl (HO.out.alloc _) ⟨_, 0, none⟩ 1 1 [UInt8.ofNat (8 * s.size / 2 ^ shiftN o j 8)] rfl rfl (cell_oneB wr _ _ HX.out) (by omega) (by simp; omega) ?_; intro g5 cap5 w5 hM5 hg5 hat5))
          go_roundw
          case rel =>
            refine ⟨j + 1, g5, n + 1, cap5, by omega, by go_num, rfl, by omega, by show _ = _; have := HN.out; omega, ?_, (HB.out.alloc hwr _).grown hg5 (by simp; omega) ?_⟩
            · show OwnM _ _ _ _ _ _
              rw [tailO_succ, ← List.append_assoc]
              exact hM5
            · intro x hx
              have := HO.out.1
              simp only [Option.some.injEq] at hx
              omega
          case measure => simp [intOf]; omega
        · obtain rfl : j = 8 := by omega
          go_wp2
          go_ret
          refine ⟨g, n, cap, rfl, ?_, HO.out.2.2.choose_spec.choose_spec.2.2.1, HO.out.1, HO.out.lt, ?_, HB.out⟩
          · have := HN.out
            unfold zerosN at this
            omega
          · show Cells _ _ _
            have e : s.data.toList ++ [128] ++ List.replicate (zerosN s.size) 0 ++ tailO o (8 * s.size) 8 = padL (!o) s.data.toList := by
              rw [tailO_eight, padL]
              simp
            rw [e] at HO
            exact fun j hj => HO.out.cells j hj
end Go.Proofs.YtgajhmmildbkfaaGreatDoor

/- The program's digits of a sum's words. -/
namespace Go.Proofs.YtgajhmmildbkfaaGreatDoor
open Go.RowKit

def byteO (o : Bool) (l : List Nat) (j : Nat) : UInt8 := UInt8.ofNat (l.getD (j / 4) 0 / 2 ^ shiftN o (j % 4) 4)
def bytesO (o : Bool) (l : List Nat) (i : Nat) : List UInt8 := (List.range i).map (byteO o l)
theorem bytesO_length (o : Bool) (l : List Nat) (i : Nat) : (bytesO o l i).length = i := by simp [bytesO]
theorem bytesO_succ (o : Bool) (l : List Nat) (i : Nat) : bytesO o l (i + 1) = bytesO o l i ++ [byteO o l i] := by simp [bytesO, List.range_succ]
theorem bytesO_four (o : Bool) (l : List Nat) : ∀ k, k ≤ l.length → bytesO o l (4 * k) = (l.take k).flatMap (if o then be4 else le4)
  | 0, _ => by simp [bytesO]
  | k + 1, h => by
    have ih := bytesO_four o l k (by omega)
    have e : (4 * (k + 1)) = 4 * k + 1 + 1 + 1 + 1 := by omega
    have ht : l.take (k + 1) = l.take k ++ [l.getD k 0] := by
      rw [List.take_succ_eq_append_getElem (by omega)]
      simp [List.getD_eq_getElem?_getD, show k < l.length by omega]
    rw [e, bytesO_succ, bytesO_succ, bytesO_succ, bytesO_succ, ih, ht, List.flatMap_append]
    have d0 : 4 * k / 4 = k := by omega
    have d1 : (4 * k + 1) / 4 = k := by omega
    have d2 : (4 * k + 1 + 1) / 4 = k := by omega
    have d3 : (4 * k + 1 + 1 + 1) / 4 = k := by omega
    have m0 : 4 * k % 4 = 0 := by omega
    have m1 : (4 * k + 1) % 4 = 1 := by omega
    have m2 : (4 * k + 1 + 1) % 4 = 2 := by omega
    have m3 : (4 * k + 1 + 1 + 1) % 4 = 3 := by omega
    unfold byteO
    rw [d0, d1, d2, d3, m0, m1, m2, m3]
    cases o <;> simp [shiftN, le4, be4]
/-- Append to a row of bytes that the call owns, as a step of a region that draws its order; the cell at (b, q) stays. -/
theorem step_append_M {P : Program} (w : World) {ops : Array Oper} {o : Oper} {a : Act} {K : Act → World → Prop} {Q : Exit → Act → World → Prop} {E : Prop} (hgd : o.guard = none) (s x : Operand) (t : TypeId)
    (ho : o.op = .call { callee := .builtin .append, args := #[s, x], argTypes := #[t, t] }) (B : Nat) (i : TypeInfo) (ht : P.underlying t = some (.slice 5)) (hi : P.info? 5 = some i) (hz : i.zero = some (.int .u8 0)) (hsize : i.size = 1) (hby : i.bytes = 1)
    (g n cap : Nat) (l : List UInt8) (hs : a.eval s = .slice (some ⟨g, 0, none⟩) n cap) (h : OwnM w B g n cap l)
    (ad : Addr) (m c : Nat) (news : List UInt8) (hx : a.eval x = .slice (some ad) m c) (hl : news.length = m) (hnews : ∀ j u, (news.map fun c => Value.int .u8 (c.toNat : Int))[j]? = some u → w.cell? (ad.add j) = some u)
    (h63 : n + m ≤ 140737488355328) (hbase : B ≤ w.heap.size) (b q : Nat) (hbg : b ≠ g) (hbl : b < w.heap.size)
    (k : ∀ g' cap' w', OwnM w' B g' (n + m) cap' (l ++ news) → w.grownBy w' (some g) → (g' = g ∨ g' = w.heap.size) → w'.cell? ⟨b, q, none⟩ = w.cell? ⟨b, q, none⟩ → K (a.put o.dst (.slice (some ⟨g', 0, none⟩) (n + m) cap')) w') :
    if Region.wanted o (yielded ops a.tmps) = true then Oper.wp P o a w K Q else E := by
  have hw : Region.wanted o (yielded ops a.tmps) = true := by simp [Region.wanted, hgd]
  rw [if_pos hw]
  obtain ⟨g', cap', w', hr, h1, h2, h3⟩ := append_M w B t o.type i ht hi hz hsize hby g n cap l h ad m c news hl hnews h63 hbase
  unfold Oper.wp execOp
  simp only [ho, resolve, invoke, builtin, Sem.run_bind, Sem.run_pure, Result.andThen_ok, List.map_toArray, List.map_cons, List.map_nil, hs, hx, hr]
  refine k g' cap' w' h1 h2 h3 ?_
  simp only [World.cell?, h2.block b hbl (by simp [hbg])]
def enc4 (o : Bool) (l : List Nat) : List UInt8 := l.flatMap (if o then be4 else le4)
set_option maxHeartbeats 8000000 in
set_option maxRecDepth 100000 in
theorem hexO_any (o : Bool) (l : List Nat) (b N cap : Nat) (hl : l.length = N) (hN0 : 0 < N) (hN : N ≤ 8) (hlt : ∀ x ∈ l, x < 4294967296) (w : World) (HC : Hid (∀ j, j < N → w.cell? ⟨b, j, none⟩ = some (.int .u32 ((l.getD j 0 : Nat) : Int)))) (hb : b < w.heap.size) :
    Calls Tryz.prog 85 #[.bool o, .slice (some ⟨b, 0, none⟩) N cap] w fun e w' => e = .returned (.string (bs (hexL (enc4 o l)))) ∧ Below w.heap.size w w' := by
  obtain ⟨i0, hi0, hz0, hz1, hz2⟩ := info_parts info5
  go_enter Tryz.func85, Tryz.ntmps85
  go_wp2_with (at_make; refine wpList_make_own _ rfl _ _ 83 rfl w.heap.size 5 i0 (.int .u8 0) 1 Tryz.underlying83 hi0 hz0 hz1 .i64 .i64 _ (4 * N) rfl rfl (by omega) (by rw [hz2]; omega) (by unfold maxLen; omega) (Nat.le_refl _) ?_; intro w1 hown1 hgrow1)
  have hb1 : Below w.heap.size w w1 := (Below.refl _ _).grown hgrow1 (Nat.le_refl _) (by simp)
  obtain ⟨g0, cap0, hv0, hM0⟩ := own_M (l := []) hown1 rfl (by simp)
  simp only [Value.slice.injEq, Option.some.injEq, Addr.mk.injEq, and_true, true_and] at hv0
  obtain ⟨rfl, rfl⟩ := hv0
  have HM0 : Hid (OwnM w1 w.heap.size w.heap.size 0 (4 * N) []) := hM0
  clear hM0 hown1 hgrow1
  have HB1 : Hid (Below w.heap.size w w1) := hb1
  clear hb1
  go_loopw [5, 14] (fun v i wx => ∃ j g cap : Nat, j ≤ 4 * N ∧ i = .int .i64 j ∧ v = .slice (some ⟨g, 0, none⟩) j cap ∧ Hid (OwnM wx w.heap.size g j cap (bytesO o l j)) ∧ Hid (Below w.heap.size w wx)) (fun _ i _ => 4 * N - (intOf i).toNat)
  case atStart => exact ⟨0, _, _, by omega, rfl, rfl, HM0, HB1⟩
  case round =>
    obtain ⟨i, g, cap1, hi, rfl, rfl, HO, HB⟩ := hrel
    clear HM0 HB1
    have hwr : w.heap.size ≤ wr.heap.size := HB.out.size
    by_cases hlt2 : i < 4 * N
    · obtain ⟨q, hq⟩ : ∃ q : Nat, (i : Int) / 4 = (q : Int) := ⟨i / 4, by omega⟩
      obtain ⟨r, hr⟩ : ∃ q : Nat, (i : Int) % 4 = (q : Int) := ⟨i % 4, by omega⟩
      have hqN : q < N := by omega
      have hr4 : r < 4 := by omega
      have HQ : Hid (q = i / 4 ∧ r = i % 4) := ⟨by omega, by omega⟩
      obtain ⟨x, hx⟩ : ∃ x : Nat, l.getD q 0 = x := ⟨_, rfl⟩
      have hx1 : x < 4294967296 := by
        rw [← hx, List.getD_eq_getElem?_getD, List.getElem?_eq_getElem (by omega)]
        exact hlt _ (List.getElem_mem _)
      have hcell : wr.cell? ⟨b, q, none⟩ = some (.int .u32 (x : Int)) := by
        rw [← hx, ← HC.out q hqN]
        simp only [World.cell?, HB.out.block b hb]
      obtain ⟨sh, hsh⟩ : ∃ sh : Nat, shiftN o r 4 = sh := ⟨_, rfl⟩
      have hsh2 : sh ≤ 24 := by rw [← hsh, shiftN]; split <;> omega
      have HX : Hid ((x : Int) / 2 ^ sh % 256 = ((byteO o l i).toNat : Int)) := by
        show _ = _
        rw [byteO, UInt8.toNat_ofNat', ← HQ.out.1, ← HQ.out.2, hx, hsh]
        push_cast
        rfl
      have hi2 : i ≤ 32 := by omega
      have hqt : (i : Int).tdiv 4 = q := by rw [Int.tdiv_eq_ediv_of_nonneg (by omega)]; exact hq
      have hrt : (i : Int).tmod 4 = r := by rw [Int.tmod_eq_emod_of_nonneg (by omega)]; exact hr
      have hqw : IntKind.i64.wrap (q : Int) = q := wrap64 q (by omega)
      have hrw : IntKind.i64.wrap (r : Int) = r := wrap64 r (by omega)
      have hqb : (q : Int) < N := by omega
      have HX2 : Hid (IntKind.u8.wrap ((x : Int) / 2 ^ sh) = ((byteO o l i).toNat : Int)) := by
        show _ = _
        rw [← HX.out]
        simp [IntKind.wrap, IntKind.bits, IntKind.signed]
      have hbg : b ≠ g := by have := HO.out.1; omega
      have hbw : b < wr.heap.size := by omega
      clear hq hr HX HC
      go_wp2
      go_region_held3 (fun w' => w'.cell? ⟨b, q, none⟩ = some (.int .u32 (x : Int))) (go_keep)
        ((first
          | (go_at_call 110; refine (shift_any o r 4 hr4 (by omega) _).mono ?_; rintro e w2 ⟨rfl, hw2⟩; rw [hw2, hsh]; clear hw2 w2)
          | (refine step_append_M _ (by rfl) _ _ 83 (by rfl) w.heap.size i0 Tryz.underlying83 hi0 hz0 hz1 hz2 g i cap1 _ (by rfl) ((HO.out.alloc _).kept (by rfl)) ⟨_, 0, none⟩ 1 1 [byteO o l i] (by rfl) (by rfl) (fun j u hj => cell_oneB wr _ _ HX2.out j u hj) (by omega) (by simp; omega) b q hbg (by simp; omega) ?_; intro g5 cap5 w5 hM5 hg5 hat5 hsame5)))
      go_wp2
      go_roundw
      case rel =>
        refine ⟨i + 1, g5, cap5, by omega, by go_num, rfl, ?_, ((HB.out.alloc hwr _).drew).grown hg5 (by simp; omega) ?_⟩
        · show OwnM _ _ _ _ _ _
          rw [bytesO_succ]
          exact hM5
        · intro x hx
          have := HO.out.1
          simp only [Option.some.injEq] at hx
          omega
      case measure => simp [intOf]; omega
    · obtain rfl : i = 4 * N := by omega
      have hL : bytesO o l (4 * N) = enc4 o l := by
        rw [bytesO_four o l N (by omega), List.take_of_length_le (by omega)]; rfl
      have hback : (convert 83 9 (.slice (some ⟨g, 0, none⟩) (4 * N) cap1)).run Tryz.prog wr = .ok (.string (bs (enc4 o l))) wr := by
        have := run_convert_bytes_back (P := Tryz.prog) wr 83 9 5 ⟨g, 0, none⟩ cap1 (bytesO o l (4 * N)) Tryz.underlying83 Tryz.underlying5 Tryz.underlying9 (fun j hj => by
          rw [WideShapes.add_plain, Nat.zero_add]
          exact HO.out.cells j hj)
        rw [bytesO_length, hL] at this
        exact this
      obtain ⟨S, hS⟩ : ∃ S, bs (enc4 o l) = S := ⟨_, rfl⟩
      have hSz : S.size = 4 * N := by rw [← hS, bs_size, ← hL, bytesO_length]
      rw [hS] at hback
      go_wp2_with (go_at_call 112; refine (hex_any S _ (by omega)).mono ?_; rintro e w2 ⟨rfl, hb2⟩)
      go_ret
      refine ⟨ret_str ?_, HB.out.trans (hb2.mono hwr)⟩
      rw [← hS, bs_data]
end Go.Proofs.YtgajhmmildbkfaaGreatDoor

/- The program's MD5 is the sum over lists of bytes. -/
namespace Go.Proofs.YtgajhmmildbkfaaGreatDoor
open Go.RowKit

theorem Sines.below {w w' : World} (h : Sines w) (hb : Below w.heap.size w w') : Sines w' :=
  ⟨fun i hi => by rw [← h.1 i hi]; simp only [World.cell?, hb.block _ h.2], Nat.lt_of_lt_of_le h.2 hb.size⟩
theorem Turns.below {w w' : World} (h : Turns w) (hb : Below w.heap.size w w') : Turns w' :=
  ⟨fun i hi => by rw [← h.1 i hi]; simp only [World.cell?, hb.block _ h.2], Nat.lt_of_lt_of_le h.2 hb.size⟩
theorem four_cells {w w' : World} {b : Nat} {x : Four} {t : TypeId} (h : w.heap[b]? = some (.cells (four x) t)) (hk : w'.heap[b]? = w.heap[b]?) :
    w'.cell? ⟨b, 0, none⟩ = some (.int .u32 x.a) ∧ w'.cell? ⟨b, 1, none⟩ = some (.int .u32 x.b) ∧ w'.cell? ⟨b, 2, none⟩ = some (.int .u32 x.c) ∧ w'.cell? ⟨b, 3, none⟩ = some (.int .u32 x.d) ∧
    w'.frozen? ⟨b, 0, none⟩ = false ∧ w'.frozen? ⟨b, 1, none⟩ = false ∧ w'.frozen? ⟨b, 2, none⟩ = false ∧ w'.frozen? ⟨b, 3, none⟩ = false := by
  rw [← hk] at h
  refine ⟨?_, ?_, ?_, ?_, ?_, ?_, ?_, ?_⟩
  · rw [cell_of_row _ _ _ _ _ _ h]; rfl
  · rw [cell_of_row _ _ _ _ _ _ h]; rfl
  · rw [cell_of_row _ _ _ _ _ _ h]; rfl
  · rw [cell_of_row _ _ _ _ _ _ h]; rfl
  · simp [World.frozen?, h]
  · simp [World.frozen?, h]
  · simp [World.frozen?, h]
  · simp [World.frozen?, h]
theorem four_set (x y : Four) : (((((four x).setIfInBounds 0 (.int .u32 y.a)).setIfInBounds 1 (.int .u32 y.b)).setIfInBounds 2 (.int .u32 y.c)).setIfInBounds 3 (.int .u32 y.d)) = four y := by
  simp [four]
theorem four_size (x : Four) : (four x).size = 4 := rfl
theorem four_one (x : Four) : (four x).all (·.oneCell') = true := by
  simp [four, Value.oneCell']
theorem Cells.kept {w w' : World} {B : Nat} {L : List UInt8} (h : Cells w B L) (hb : w'.heap[B]? = w.heap[B]?) : Cells w' B L := by
  intro j hj
  rw [← h j hj]
  simp only [World.cell?, hb]
set_option maxHeartbeats 8000000 in
set_option maxRecDepth 100000 in
theorem md5_any (s : ByteArray) (hs : s.size ≤ 1000) (w : World) (HS : Hid (Sines w)) (HTu : Hid (Turns w)) :
    Calls Tryz.prog 58 #[.string s] w fun e w' => e = .returned (.string (bs (hexL (md5L s.data.toList)))) ∧ Below w.heap.size w w' := by
  go_enter Tryz.func58, Tryz.ntmps58
  go_wp2_with (go_at_call 81; refine (fill_any false s hs _).mono ?_; rintro e w1 ⟨g, n, cap, rfl, hn, hnc, hgw, hgl, HC, hb1⟩; have HN : Hid (n = (s.size + 72) / 64 * 64) := hn; clear hn)
  obtain ⟨K, hK⟩ : ∃ K, (s.size + 72) / 64 = K := ⟨_, rfl⟩
  have hK2 : K ≤ 20 := by omega
  have hn2 : n = 64 * K := by have := HN.out; omega
  have HN2 : Hid (n = 64 * K) := hn2
  have hnK : RowKit.wrap64 ((n : Int) / 64) = (K : Int) := by
    rw [hn2]
    have : ((64 * K : Nat) : Int) / 64 = K := by omega
    rw [this]
    simp [RowKit.wrap64]
    omega
  rw [hnK]
  obtain ⟨L, hL⟩ : ∃ L, padL true s.data.toList = L := ⟨_, rfl⟩
  have hLl : L.length = 64 * K := by rw [← hL, padL_length]; simp; omega
  have HC1 : Hid (Cells w1 g L) := by rw [← hL]; exact HC
  have HG : Hid (md5L s.data.toList = (md5Blocks L K).bytes) := by
    show _ = _
    rw [md5L, hL, ← hK]
    simp
  have hn3 : n ≤ 1280 := by omega
  have hgw2 : w.heap.size < g := by simp at hgw; omega
  have HR1 : Hid (w1.heap[w.heap.size]? = some (.cells (four (md5Blocks L 0)) 125)) := by
    show _ = _
    rw [hb1.block _ (by simp)]
    exact heap_alloc_new w _
  have HB1 : Hid (Below w.heap.size w w1) := ((Below.refl _ _).alloc (Nat.le_refl _) _).trans (hb1.mono (by simp))
  have HLn : Hid (L.length = 64 * K) := hLl
  clear hn2 hnK hL hK HN HC hb1 hLl hgw
  go_loopw [12] (fun vi wx => ∃ (k : Nat), k ≤ K ∧ vi = .int .i64 k ∧ Hid (wx.heap[w.heap.size]? = some (.cells (four (md5Blocks L k)) 125)) ∧ Hid (Cells wx g L) ∧ g < wx.heap.size ∧ Hid (Below w.heap.size w wx)) (fun i _ => K - (intOf i).toNat)
  case atStart => exact ⟨0, by omega, rfl, HR1, HC1, hgl, HB1⟩
  case round =>
    obtain ⟨k, hk, rfl, HR, HCX, hgx, HB⟩ := hrel
    clear HR1 HC1 HB1 hgl
    by_cases hlt : k < K
    · obtain ⟨x, hx⟩ : ∃ x, md5Blocks L k = x := ⟨_, rfl⟩
      rw [hx] at HR
      have hok : x.ok := by rw [← hx]; exact md5Blocks_ok L k
      obtain ⟨c0, c1, c2, c3, f0, f1, f2, f3⟩ := four_cells HR.out rfl
      obtain ⟨p, hp⟩ : ∃ p : Nat, (k : Int) * 64 = (p : Int) := ⟨k * 64, by omega⟩
      have hp1 : p + 64 ≤ n := by have := HN2.out; omega
      have hwp : IntKind.i64.wrap (p : Int) = p := wrap64 p (by omega)
      have hpn : p ≤ n := by omega
      have hpc : ¬ (cap = p) := by omega
      have hpL : p + 64 ≤ L.length := by have := HLn.out; have := HN2.out; omega
      have hws : w.heap.size < wr.heap.size := by omega
      have hmix := mix_any x hok L p
      obtain ⟨y, hy⟩ : ∃ y, md5Add x (md5Rounds L p x 64) = y := ⟨_, rfl⟩
      rw [hy] at hmix
      have HY : Hid (md5Blocks L (k + 1) = y) := by
        show _ = _
        rw [md5Blocks, hx, ← hy]
        have : 64 * k = p := by omega
        rw [this]
      clear hy
      go_wp2
      go_region_with (first
          | (go_at_call 84; refine (words_any false L g p (n - p) (cap - p) hpL (by omega) wr.drew (HCX.out.kept (w' := wr.drew) rfl) hgx).mono ?_; rintro e w2 ⟨rfl, hb2⟩; obtain ⟨d0, d1, d2, d3, _, _, _, _⟩ := four_cells (w' := w2) HR.out (hb2.block _ hws))
          | (go_at_call 86; refine (hmix w2 ((HS.out.below (HB.out.drew.trans (hb2.mono (by simp; omega))))) ((HTu.out.below (HB.out.drew.trans (hb2.mono (by simp; omega)))))).mono ?_; rintro e w3 ⟨rfl, hb3⟩; have hr3 : w3.heap[w.heap.size]? = some (.cells (four x) 125) := (((hb3.block _ (Nat.lt_of_lt_of_le hws hb2.size)).trans (hb2.block _ hws)).trans HR.out); have hst := store_cells (P := Tryz.prog) w3 w.heap.size _ _ (four y) hr3 (by rw [four_size, four_size]) (four_one _))
        )
      all_goals
        have hb3' : Below wr.heap.size wr w3 := ((Below.refl _ _).drew).trans (hb2.trans (hb3.mono hb2.size))
        have HR3 : Hid ((w3.setRow w.heap.size (four y)).heap[w.heap.size]? = some (.cells (four y) 125)) := setRow_heap w3 w.heap.size _ _ _ _ hr3
        have HC3 : Hid (Cells (w3.setRow w.heap.size (four y)) g L) := HCX.out.kept (by rw [setRow_other _ _ _ _ (by omega)]; exact hb3'.block _ hgx)
        have hg3 : g < (w3.setRow w.heap.size (four y)).heap.size := by
          have := hb3'.size
          simp [World.setRow]
          omega
        have HB3 : Hid (Below w.heap.size w (w3.setRow w.heap.size (four y))) := below_setRow (HB.out.trans (hb3'.mono (by omega))) (Nat.le_refl _) _
        generalize w3.setRow w.heap.size (four y) = WX at HR3 HC3 hg3 HB3 ⊢
        clear hst hr3 hb3 hb2 hb3' d0 d1 d2 d3 hmix
        go_wp2
        go_roundw
        case rel => exact ⟨k + 1, by omega, by go_num, by rw [HY.out]; exact HR3, HC3, hg3, HB3⟩
        case measure => simp [intOf]; omega
    · obtain rfl : k = K := by omega
      obtain ⟨x, hx⟩ : ∃ x, md5Blocks L k = x := ⟨_, rfl⟩
      rw [hx] at HR
      have hok : x.ok := by rw [← hx]; exact md5Blocks_ok L k
      have HXX : Hid (md5Blocks L k = x) := hx
      have HCC : Hid (∀ j, j < 4 → wr.cell? ⟨w.heap.size, j, none⟩ = some (.int .u32 (([x.a, x.b, x.c, x.d].getD j 0 : Nat) : Int))) := by
        intro j hj
        rw [cell_of_row _ _ _ _ _ _ HR.out]
        obtain rfl | rfl | rfl | rfl : j = 0 ∨ j = 1 ∨ j = 2 ∨ j = 3 := by omega
        all_goals rfl
      clear hx
      have hws : w.heap.size < wr.heap.size := by omega
      go_wp2_with (go_at_call 85; refine (hexO_any false [x.a, x.b, x.c, x.d] w.heap.size 4 4 rfl (by omega) (by omega) (fun y hy => by obtain ⟨h1, h2, h3, h4⟩ := hok; simp at hy; omega) _ HCC hws).mono ?_; rintro e w2 ⟨rfl, hb2⟩)
      go_ret
      refine ⟨ret_str ?_, HB.out.trans (hb2.mono (by omega))⟩
      rw [HG.out, HXX.out]
      simp [enc4, Four.bytes]
end Go.Proofs.YtgajhmmildbkfaaGreatDoor

/- The program's 64 words of a block. -/
namespace Go.Proofs.YtgajhmmildbkfaaGreatDoor
open Go.RowKit

def rowW (L : List UInt8) (p i : Nat) : List Nat := shaW L p i ++ List.replicate (64 - i) 0
theorem rowW_length (L : List UInt8) (p i : Nat) (h : i ≤ 64) : (rowW L p i).length = 64 := by
  simp [rowW, shaW_length]
  omega
theorem rowW_zero (L : List UInt8) (p : Nat) : rowW L p 0 = List.replicate 64 0 := by simp [rowW, shaW]
theorem rowW_all (L : List UInt8) (p : Nat) : rowW L p 64 = shaW L p 64 := by simp [rowW]
theorem rowW_succ (L : List UInt8) (p i : Nat) (h : i < 64) : rowW L p (i + 1) = (rowW L p i).set i (shaNew L p i) := by
  have e : 64 - i = (64 - (i + 1)) + 1 := by omega
  unfold rowW
  rw [shaW_succ, List.set_append_right _ _ (by rw [shaW_length]; omega), shaW_length, e, List.replicate_succ]
  simp
theorem rowW_at (L : List UInt8) (p i j : Nat) (h : j < i) : (rowW L p i).getD j 0 = (shaW L p i).getD j 0 := by
  unfold rowW
  rw [List.getD_eq_getElem?_getD, List.getElem?_append_left (by rw [shaW_length]; exact h), ← List.getD_eq_getElem?_getD]
theorem sigU (x r1 r2 : Int) (k1 k2 d : Nat) (h0 : 0 ≤ x) (h1 : x < 4294967296) (H1 : r1 = rorN x.toNat k1) (H2 : r2 = rorN x.toNat k2) (D : Int) (hD : D = d) : ∃ z : Int, bits .xor .u32 (bits .xor .u32 r1 r2) (x / D) = z ∧ 0 ≤ z ∧ z < 4294967296 ∧ Hid (z = ((rorN x.toNat k1 ^^^ rorN x.toNat k2 ^^^ x.toNat / d : Nat) : Int)) := by
  obtain ⟨n, rfl⟩ : ∃ n : Nat, x = n := ⟨x.toNat, by omega⟩
  subst hD H1 H2
  simp only [Int.toNat_natCast]
  have a1 := rorN_lt n k1 (by omega)
  have a2 := rorN_lt n k2 (by omega)
  have a3 : n / d < 4294967296 := Nat.lt_of_le_of_lt (Nat.div_le_self _ _) (by omega)
  refine ⟨_, rfl, ?_⟩
  rw [← Int.natCast_ediv, xorU32 _ _ a1 a2, xorU32 _ _ (xor32_lt a1 a2) a3]
  have := xor32_lt (xor32_lt a1 a2) a3
  exact ⟨by omega, by omega, rfl⟩
theorem wrapU (n : Int) : IntKind.u32.wrap n = n % 4294967296 := by simp [IntKind.wrap, IntKind.bits, IntKind.signed]
theorem info64 : (Tryz.prog.info? 119).map (·.size) = some 64 := by kernel_rfl
theorem three_now (w : World) (a b c : Obj) : (((w.alloc a).alloc b).alloc c).heap[w.heap.size]? = some a ∧ (((w.alloc a).alloc b).alloc c).heap[w.heap.size + 1]? = some b ∧ (((w.alloc a).alloc b).alloc c).heap[w.heap.size + 1 + 1]? = some c :=
  three_blocks w a b c 0
set_option maxHeartbeats 8000000 in
set_option maxRecDepth 100000 in
theorem spread_any (L : List UInt8) (p : Nat) (w : World) :
    Calls Tryz.prog 83 #[.agg (encU (wordsL false L p))] w fun e w' => e = .returned (.agg (encU (shaW L p 64))) ∧ Below w.heap.size w w' := by
  have hl := encU_size (wordsL false L p)
  rw [wordsL_length] at hl
  go_enter Tryz.func83, Tryz.ntmps83
  go_wp2
  generalize hW : World.alloc (World.alloc (World.alloc _ _) _) _ = W0
  have hB0 : Below w.heap.size w W0 := by
    rw [← hW]
    exact (((Below.refl _ _).alloc (Nat.le_refl _) _).alloc (by simp) _).alloc (by simp; omega) _
  have hsz : W0.heap.size = w.heap.size + 3 := by rw [← hW]; simp
  obtain ⟨h0, h1, h2⟩ : W0.heap[w.heap.size]? = some (.cells (encU (wordsL false L p)) 121) ∧ W0.heap[w.heap.size + 1]? = some (.cells (encU (List.replicate 64 0)) 119) ∧ W0.heap[w.heap.size + 1 + 1]? = some (.cells (encU (List.replicate 64 0)) 119) := by
    rw [← hW]
    exact three_now _ _ _ _
  clear hW
  have HB0 : Hid (Below w.heap.size w W0) := hB0
  have HH0 : Hid (W0.heap[w.heap.size]? = some (.cells (encU (wordsL false L p)) 121)) := h0
  have HH1 : Hid (W0.heap[w.heap.size + 1]? = some (.cells (encU (List.replicate 64 0)) 119)) := h1
  have HH2 : Hid (W0.heap[w.heap.size + 1 + 1]? = some (.cells (encU (List.replicate 64 0)) 119)) := h2
  clear h0 h1 h2 hB0 hl
  go_loopw [9] (fun vi wx => ∃ (i : Nat), i ≤ 64 ∧ vi = .int .i64 i ∧ Hid (wx.heap[w.heap.size + 1 + 1]? = some (.cells (encU (rowW L p i)) 119)) ∧ Hid (Below (w.heap.size + 1 + 1) W0 wx)) (fun i _ => 64 - (intOf i).toNat)
  case atStart => exact ⟨0, by omega, rfl, by rw [rowW_zero]; exact HH2, Below.refl _ _⟩
  case round =>
    obtain ⟨i, hi, rfl, HR, HD⟩ := hrel
    clear HH2
    by_cases hlt : i < 64
    · have hfro : wr.frozen? ⟨w.heap.size + 1 + 1, i, none⟩ = false := by simp [World.frozen?, HR.out]
      have hold : ∃ u, wr.cell? ⟨w.heap.size + 1 + 1, i, none⟩ = some u := by
        rw [cell_of_row _ _ i _ _ _ HR.out, encU_at _ _ (by rw [rowW_length _ _ _ hi]; exact hlt)]
        exact ⟨_, rfl⟩
      obtain ⟨u, hu⟩ := hold
      have HST : ∀ X : Int, X = (shaNew L p i : Nat) → (wr.setCell ⟨w.heap.size + 1 + 1, i, none⟩ (.int .u32 X)).heap[w.heap.size + 1 + 1]? = some (.cells (encU (rowW L p (i + 1))) 119) := by
        intro X hX
        rw [row_set _ _ _ _ _ _ _ HR.out, encU_set _ _ _ _ hX, rowW_succ L p i hlt]
      have HST2 : Hid (∀ X : Int, X = (shaNew L p i : Nat) → (wr.setCell ⟨w.heap.size + 1 + 1, i, none⟩ (.int .u32 X)).heap[w.heap.size + 1 + 1]? = some (.cells (encU (rowW L p (i + 1))) 119)) := HST
      clear HST
      by_cases h16 : i < 16
      · obtain ⟨X, hX⟩ : ∃ X : Int, ((wordAt false L (p + 4 * i) : Nat) : Int) = X := ⟨_, rfl⟩
        have hcel : wr.cell? ⟨w.heap.size, i, none⟩ = some (.int .u32 X) := by
          have e := HH0.out
          rw [← HD.out.block _ (by omega)] at e
          rw [cell_of_row _ _ i _ _ _ e, encU_at _ _ (by rw [wordsL_length]; exact h16), wordsL_at _ _ _ _ h16, hX]
        have HX : Hid (X = (shaNew L p i : Nat)) := by
          show _ = _
          rw [shaNew, if_pos h16, hX]
        clear hX
        go_wp2
        go_roundw
        case rel => exact ⟨i + 1, by omega, by go_num, HST2.out X HX.out, HD.out.setCell (Nat.le_refl _) _⟩
        case measure => simp [intOf]; omega
      · obtain ⟨p15, e15⟩ : ∃ p : Nat, (i : Int) - 15 = (p : Int) := ⟨i - 15, by omega⟩
        obtain ⟨p2, e2⟩ : ∃ p : Nat, (i : Int) - 2 = (p : Int) := ⟨i - 2, by omega⟩
        obtain ⟨p16, e16⟩ : ∃ p : Nat, (i : Int) - 16 = (p : Int) := ⟨i - 16, by omega⟩
        obtain ⟨p7, e7⟩ : ∃ p : Nat, (i : Int) - 7 = (p : Int) := ⟨i - 7, by omega⟩
        have l15 : p15 < i := by omega
        have l2 : p2 < i := by omega
        have l16 : p16 < i := by omega
        have l7 : p7 < i := by omega
        have w15 : IntKind.i64.wrap (p15 : Int) = p15 := wrap64 _ (by omega)
        have w2 : IntKind.i64.wrap (p2 : Int) = p2 := wrap64 _ (by omega)
        have w16 : IntKind.i64.wrap (p16 : Int) = p16 := wrap64 _ (by omega)
        have w7 : IntKind.i64.wrap (p7 : Int) = p7 := wrap64 _ (by omega)
        have HPS : Hid (p15 = i - 15 ∧ p2 = i - 2 ∧ p16 = i - 16 ∧ p7 = i - 7) := ⟨by omega, by omega, by omega, by omega⟩
        have cell (j : Nat) (hj : j < i) : wr.cell? ⟨w.heap.size + 1 + 1, j, none⟩ = some (.int .u32 (((shaW L p i).getD j 0 : Nat) : Int)) := by
          rw [cell_of_row _ _ j _ _ _ HR.out, encU_at _ _ (by rw [rowW_length _ _ _ hi]; omega), rowW_at _ _ _ _ hj]
        have k15 := cell p15 l15
        have k2 := cell p2 l2
        have k16 := cell p16 l16
        have k7 := cell p7 l7
        clear cell
        have b15 := shaW_lt L p i p15
        have b2 := shaW_lt L p i p2
        have b16 := shaW_lt L p i p16
        have b7 := shaW_lt L p i p7
        obtain ⟨x15, hx15⟩ : ∃ x : Int, (((shaW L p i).getD p15 0 : Nat) : Int) = x := ⟨_, rfl⟩
        obtain ⟨x2, hx2⟩ : ∃ x : Int, (((shaW L p i).getD p2 0 : Nat) : Int) = x := ⟨_, rfl⟩
        obtain ⟨x16, hx16⟩ : ∃ x : Int, (((shaW L p i).getD p16 0 : Nat) : Int) = x := ⟨_, rfl⟩
        obtain ⟨x7, hx7⟩ : ∃ x : Int, (((shaW L p i).getD p7 0 : Nat) : Int) = x := ⟨_, rfl⟩
        rw [hx15] at k15
        rw [hx2] at k2
        rw [hx16] at k16
        rw [hx7] at k7
        have u15 : 0 ≤ x15 := by omega
        have u2 : 0 ≤ x2 := by omega
        have u16 : 0 ≤ x16 := by omega
        have u7 : 0 ≤ x7 := by omega
        have v15 : x15 < 4294967296 := by omega
        have v2 : x2 < 4294967296 := by omega
        have v16 : x16 < 4294967296 := by omega
        have v7 : x7 < 4294967296 := by omega
        obtain ⟨ra, ra0, ra1, HRA⟩ := ror_bounds x15 7 u15 v15
        obtain ⟨rb, rb0, rb1, HRB⟩ := ror_bounds x15 18 u15 v15
        obtain ⟨rc, rc0, rc1, HRC⟩ := ror_bounds x2 17 u2 v2
        obtain ⟨rd, rd0, rd1, HRD⟩ := ror_bounds x2 19 u2 v2
        obtain ⟨sa, hsa, sa0, sa1, HSA⟩ := sigU x15 ra rb 7 18 8 u15 v15 HRA.out HRB.out 8 rfl
        obtain ⟨sb, hsb, sb0, sb1, HSB⟩ := sigU x2 rc rd 17 19 1024 u2 v2 HRC.out HRD.out 1024 rfl
        have HNW : Hid ((x16 + x7 + sa + sb) % 4294967296 = ((shaNew L p i : Nat) : Int)) := by
          show _ = _
          obtain ⟨z1, z2, z3, z4⟩ := HPS.out
          rw [shaNew, if_neg h16, ← z1, ← z2, ← z3, ← z4, HSA.out, HSB.out]
          have t15 : x15.toNat = (shaW L p i).getD p15 0 := by omega
          have t2 : x2.toNat = (shaW L p i).getD p2 0 := by omega
          rw [t15, t2, ← hx16, ← hx7]
          omega
        clear hx15 hx2 hx16 hx7 b15 b2 b16 b7 HPS HSA HSB
        go_wp2
        go_quiet (fail)
        go_wp2_with fail
        refine (right_any x15 7 ra u15 v15 (by omega) (by omega) _ HRA).mono ?_
        rintro e wz ⟨rfl, hwz⟩
        rw [hwz]
        clear hwz wz
        go_wp2_with fail
        refine (right_any x15 18 rb u15 v15 (by omega) (by omega) _ HRB).mono ?_
        rintro e wz ⟨rfl, hwz⟩
        rw [hwz]
        clear hwz wz
        go_wp2_with fail
        refine (right_any x2 17 rc u2 v2 (by omega) (by omega) _ HRC).mono ?_
        rintro e wz ⟨rfl, hwz⟩
        rw [hwz]
        clear hwz wz
        go_wp2_with fail
        refine (right_any x2 19 rd u2 v2 (by omega) (by omega) _ HRD).mono ?_
        rintro e wz ⟨rfl, hwz⟩
        rw [hwz]
        clear hwz wz
        go_wp2
        generalize hW1 : wr.drewN nq = W1
        have hb1 : W1.heap = wr.heap := by rw [← hW1]; rfl
        have z16 : W1.cell? ⟨w.heap.size + 1 + 1, p16, none⟩ = some (.int .u32 x16) := by rw [← k16]; simp only [World.cell?, hb1]
        have z7 : W1.cell? ⟨w.heap.size + 1 + 1, p7, none⟩ = some (.int .u32 x7) := by rw [← k7]; simp only [World.cell?, hb1]
        have zu : W1.cell? ⟨w.heap.size + 1 + 1, i, none⟩ = some u := by rw [← hu]; simp only [World.cell?, hb1]
        have zf : W1.frozen? ⟨w.heap.size + 1 + 1, i, none⟩ = false := by rw [← hfro]; simp only [World.frozen?, hb1]
        have HR1 : Hid (W1.heap[w.heap.size + 1 + 1]? = some (.cells (encU (rowW L p i)) 119)) := by show _ = _; rw [hb1]; exact HR.out
        have HD1 : Hid (Below (w.heap.size + 1 + 1) W0 W1) := by rw [← hW1]; exact below_drewN HD.out _
        clear hW1 hb1 HR HD HST2 k16 k7 k15 k2 hu hfro hsa hsb e15 e2 w15 w2 l15 l2 ra0 ra1 rb0 rb1 rc0 rc1 rd0 rd1 HRA HRB HRC HRD u15 v15 u2 v2
        have HFR : Hid ((W1.setCell ⟨w.heap.size + 1 + 1, i, none⟩ (.int .u32 ((x16 + sa + x7 + sb) % 4294967296))).heap[w.heap.size + 1 + 1]? = some (.cells (encU (rowW L p (i + 1))) 119)) := by
          show _ = _
          rw [row_set _ _ _ _ _ _ _ HR1.out, encU_set _ _ _ (shaNew L p i) (by rw [← HNW.out]; congr 1; omega), rowW_succ L p i hlt]
        go_region
        have HD2 : Hid (Below (w.heap.size + 1 + 1) W0 (W1.setCell ⟨w.heap.size + 1 + 1, i, none⟩ (.int .u32 ((x16 + sa + x7 + sb) % 4294967296)))) := HD1.out.setCell (Nat.le_refl _) _
        generalize World.setCell _ _ _ = WX at HFR HD2 ⊢
        go_wp2
        go_roundw
        case rel => exact ⟨i + 1, by omega, by go_num, HFR, HD2.out.drew⟩
        case measure => simp [intOf]; omega
    · obtain rfl : i = 64 := by omega
      have hr1 : wr.heap[w.heap.size + 1]? = some (.cells (encU (List.replicate 64 0)) 119) := by rw [HD.out.block _ (by omega)]; exact HH1.out
      go_upto_region 12 with fail
      apply wp_region_lit
      refine wpList_load_arr wr rfl (.tmp 3) (w.heap.size + 1 + 1) _ _ 119 _ _ _ rfl rfl HR.out Tryz.underlying119 (by rw [encU_size, rowW_length L p 64 (by omega)]; exact info64) ?_
      refine wpList_store_arr wr rfl (.tmp 2) (.tmp 59) (w.heap.size + 1) _ 119 _ _ rfl rfl rfl hr1 (by rw [encU_size, rowW_length L p 64 (by omega)]; exact info64) (by rw [encU_size, encU_size, rowW_length L p 64 (by omega)]; rfl) (encU_one _) ?_
      go_wp2
      refine ret_arr (p := 2) (ty := 119) (b := w.heap.size + 1) rfl rfl (setRow_heap wr (w.heap.size + 1) _ _ _ _ hr1) Tryz.underlying119 (by rw [encU_size, rowW_length L p 64 (by omega)]; exact info64) rfl ⟨?_, ?_⟩
      · rw [rowW_all]
      · exact below_setRow (HB0.out.trans (HD.out.mono (by omega))) (by omega) _
end Go.Proofs.YtgajhmmildbkfaaGreatDoor

/- The program's SHA-256 of one block's 64 words. -/
namespace Go.Proofs.YtgajhmmildbkfaaGreatDoor
open Go.RowKit

def rorI (x : Int) (k : Int) : Int := ((rorN x.toNat k.toNat : Nat) : Int)
theorem right_def (x b : Int) (h0 : 0 ≤ x) (h1 : x < 4294967296) (hb0 : 1 ≤ b) (hb : b ≤ 31) (w : World) :
    Calls Tryz.prog 111 #[.int .u32 x, .int .i64 b] w fun e w' => e = .returned (.int .u32 (rorI x b)) ∧ w' = w :=
  right_any x b _ h0 h1 hb0 hb w rfl
theorem sig3 (x : Int) (k1 k2 k3 : Nat) (h0 : 0 ≤ x) (h1 : x < 4294967296) : ∃ z : Int, bits .xor .u32 (bits .xor .u32 (rorI x k1) (rorI x k2)) (rorI x k3) = z ∧ 0 ≤ z ∧ z < 4294967296 ∧ Hid (z = ((rorN x.toNat k1 ^^^ rorN x.toNat k2 ^^^ rorN x.toNat k3 : Nat) : Int)) := by
  have a1 := rorN_lt x.toNat k1 (by omega)
  have a2 := rorN_lt x.toNat k2 (by omega)
  have a3 := rorN_lt x.toNat k3 (by omega)
  refine ⟨_, rfl, ?_⟩
  simp only [rorI, Int.toNat_natCast]
  rw [xorU32 _ _ a1 a2, xorU32 _ _ (xor32_lt a1 a2) a3]
  have := xor32_lt (xor32_lt a1 a2) a3
  exact ⟨by omega, by omega, rfl⟩
theorem chU (e f g : Int) (e0 : 0 ≤ e) (e1 : e < 4294967296) (f0 : 0 ≤ f) (f1 : f < 4294967296) (g0 : 0 ≤ g) (g1 : g < 4294967296) :
    ∃ z : Int, bits .xor .u32 (bits .and .u32 e f) (bits .and .u32 (bits .xor .u32 IntKind.u32.max e) g) = z ∧ 0 ≤ z ∧ z < 4294967296 ∧ Hid (z = (((e.toNat &&& f.toNat) ^^^ (notN e.toNat &&& g.toNat) : Nat) : Int)) := by
  obtain ⟨n, rfl⟩ : ∃ n : Nat, e = n := ⟨e.toNat, by omega⟩
  obtain ⟨m, rfl⟩ : ∃ n : Nat, f = n := ⟨f.toNat, by omega⟩
  obtain ⟨k, rfl⟩ : ∃ n : Nat, g = n := ⟨g.toNat, by omega⟩
  simp only [Int.toNat_natCast]
  have a1 : n &&& m < 4294967296 := and32_lt (by omega)
  have a2 : notN n &&& k < 4294967296 := and32_lt (by omega)
  refine ⟨_, rfl, ?_⟩
  rw [umax, notU32 _ (by omega), andU32 _ _ (by omega) (by omega), andU32 _ _ (notN_lt _) (by omega), xorU32 _ _ a1 a2]
  have := xor32_lt a1 a2
  exact ⟨by omega, by omega, rfl⟩
theorem majU (e f g : Int) (e0 : 0 ≤ e) (e1 : e < 4294967296) (f0 : 0 ≤ f) (f1 : f < 4294967296) (g0 : 0 ≤ g) (g1 : g < 4294967296) :
    ∃ z : Int, bits .xor .u32 (bits .xor .u32 (bits .and .u32 e f) (bits .and .u32 e g)) (bits .and .u32 f g) = z ∧ 0 ≤ z ∧ z < 4294967296 ∧ Hid (z = (((e.toNat &&& f.toNat) ^^^ (e.toNat &&& g.toNat) ^^^ (f.toNat &&& g.toNat) : Nat) : Int)) := by
  obtain ⟨n, rfl⟩ : ∃ n : Nat, e = n := ⟨e.toNat, by omega⟩
  obtain ⟨m, rfl⟩ : ∃ n : Nat, f = n := ⟨f.toNat, by omega⟩
  obtain ⟨k, rfl⟩ : ∃ n : Nat, g = n := ⟨g.toNat, by omega⟩
  simp only [Int.toNat_natCast]
  have a1 : n &&& m < 4294967296 := and32_lt (by omega)
  have a2 : n &&& k < 4294967296 := and32_lt (by omega)
  have a3 : m &&& k < 4294967296 := and32_lt (by omega)
  refine ⟨_, rfl, ?_⟩
  rw [andU32 _ _ (by omega) (by omega), andU32 _ _ (by omega) (by omega), andU32 _ _ (by omega) (by omega), xorU32 _ _ a1 a2, xorU32 _ _ (xor32_lt a1 a2) a3]
  have := xor32_lt (xor32_lt a1 a2) a3
  exact ⟨by omega, by omega, rfl⟩
def Is8 (a b c d e f g h : Int) (v : List Nat) : Prop := a = (v.getD 0 0 : Nat) ∧ b = (v.getD 1 0 : Nat) ∧ c = (v.getD 2 0 : Nat) ∧ d = (v.getD 3 0 : Nat) ∧ e = (v.getD 4 0 : Nat) ∧ f = (v.getD 5 0 : Nat) ∧ g = (v.getD 6 0 : Nat) ∧ h = (v.getD 7 0 : Nat)
theorem sha_next (W : List Nat) (i : Nat) (a b c d e f g h S1 CH K X S0 MJ : Int) (v : List Nat) (H : Is8 a b c d e f g h v)
    (h1 : S1 = ((rorN e.toNat 6 ^^^ rorN e.toNat 11 ^^^ rorN e.toNat 25 : Nat) : Int)) (h2 : CH = (((e.toNat &&& f.toNat) ^^^ (notN e.toNat &&& g.toNat) : Nat) : Int)) (h3 : K = ((rootsL.getD i 0 : Nat) : Int)) (h4 : X = ((W.getD i 0 : Nat) : Int))
    (h5 : S0 = ((rorN a.toNat 2 ^^^ rorN a.toNat 13 ^^^ rorN a.toNat 22 : Nat) : Int)) (h6 : MJ = (((a.toNat &&& b.toNat) ^^^ (a.toNat &&& c.toNat) ^^^ (b.toNat &&& c.toNat) : Nat) : Int)) (T U : Int) (hT : (h + S1 + CH + K + X) % 4294967296 = T) (hU : (S0 + MJ) % 4294967296 = U) :
    Is8 ((T + U) % 4294967296) a b c ((d + T) % 4294967296) e f g (shaStep W i v) := by
  obtain ⟨ra, rb, rc, rd, re, rf, rg, rh⟩ := H
  subst ra rb rc rd re rf rg rh
  simp only [Int.toNat_natCast] at h1 h2 h5 h6
  have e1 : ((v.getD 7 0 : Nat) : Int) + S1 + CH + K + X = ((shaT W i v : Nat) : Int) := by
    rw [h1, h2, h3, h4, shaT]
    simp only [Int.natCast_add]
  have e2 : S0 + MJ = ((shaU v : Nat) : Int) := by
    rw [h5, h6, shaU]
    simp only [Int.natCast_add]
  rw [e1] at hT
  rw [e2] at hU
  generalize hTT : shaT W i v = TT at hT
  generalize hUU : shaU v = UU at hU
  unfold Is8 shaStep
  rw [hTT, hUU]
  simp only [List.getD_cons_zero, List.getD_cons_succ, and_true, true_and]
  generalize v.getD 3 0 = D3
  constructor
  · omega
  · omega
theorem roots_lt (i : Nat) (h : i < 64) : rootsL.getD i 0 < 4294967296 := by
  have : ∀ i : Fin 64, rootsL.getD i.val 0 < 4294967296 := by decide
  exact this ⟨i, h⟩
def mixL (x v : List Nat) (k : Nat) : List Nat := (List.range 8).map fun j => if j < k then (x.getD j 0 + v.getD j 0) % 4294967296 else v.getD j 0
theorem mixL_length (x v : List Nat) (k : Nat) : (mixL x v k).length = 8 := by simp [mixL]
theorem mixL_zero (x v : List Nat) (a b c d e f g h : Int) (H : Is8 a b c d e f g h v) : #[Value.int .u32 a, .int .u32 b, .int .u32 c, .int .u32 d, .int .u32 e, .int .u32 f, .int .u32 g, .int .u32 h] = encU (mixL x v 0) := by
  obtain ⟨ra, rb, rc, rd, re, rf, rg, rh⟩ := H
  subst ra rb rc rd re rf rg rh
  simp [encU, mixL, List.range_succ]
theorem mixL_eight (x v : List Nat) : mixL x v 8 = shaAdd x v := by
  unfold mixL shaAdd
  apply List.map_congr_left
  intro j hj
  rw [if_pos (by simpa using hj)]
theorem mixL_at (x v : List Nat) (k : Nat) (h : k < 8) : (mixL x v k).getD k 0 = v.getD k 0 := by
  simp [mixL, List.getD_eq_getElem?_getD, List.getElem?_map, List.getElem?_range h]
theorem mixL_succ (x v : List Nat) (k : Nat) : mixL x v (k + 1) = (mixL x v k).set k ((x.getD k 0 + v.getD k 0) % 4294967296) := by
  apply List.ext_getElem
  · simp [mixL]
  intro j h1 h2
  rw [List.getElem_set]
  simp only [mixL, List.getElem_map, List.getElem_range]
  by_cases h : k = j
  · subst h
    rw [if_pos rfl, if_pos (by omega)]
  · rw [if_neg h]
    by_cases h3 : j < k
    · rw [if_pos (by omega), if_pos h3]
    · rw [if_neg (by omega), if_neg h3]
theorem shaStep_lt (W : List Nat) (i : Nat) (v : List Nat) (h : ∀ j, v.getD j 0 < 4294967296) (j : Nat) : (shaStep W i v).getD j 0 < 4294967296 := by
  have h1 := Nat.mod_lt (shaT W i v + shaU v) (show 0 < 4294967296 by decide)
  have h2 := Nat.mod_lt (v.getD 3 0 + shaT W i v) (show 0 < 4294967296 by decide)
  unfold shaStep
  generalize (shaT W i v + shaU v) % 4294967296 = A at h1 ⊢
  generalize (v.getD 3 0 + shaT W i v) % 4294967296 = B at h2 ⊢
  match j with
  | 0 => simpa only [List.getD_cons_zero] using h1
  | 1 => simpa only [List.getD_cons_zero, List.getD_cons_succ] using h 0
  | 2 => simpa only [List.getD_cons_zero, List.getD_cons_succ] using h 1
  | 3 => simpa only [List.getD_cons_zero, List.getD_cons_succ] using h 2
  | 4 => simpa only [List.getD_cons_zero, List.getD_cons_succ] using h2
  | 5 => simpa only [List.getD_cons_zero, List.getD_cons_succ] using h 4
  | 6 => simpa only [List.getD_cons_zero, List.getD_cons_succ] using h 5
  | 7 => simpa only [List.getD_cons_zero, List.getD_cons_succ] using h 6
  | j + 8 => simp
theorem shaRounds_lt (W : List Nat) (v : List Nat) (h : ∀ j, v.getD j 0 < 4294967296) : ∀ i j, (shaRounds W v i).getD j 0 < 4294967296
  | 0, j => h j
  | i + 1, j => shaStep_lt W i _ (shaRounds_lt W v h i) j
theorem info8 : (Tryz.prog.info? 115).map (·.size) = some 8 := by kernel_rfl
set_option maxHeartbeats 8000000 in
set_option maxRecDepth 100000 in
theorem mixS_any (x : List Nat) (hx : x.length = 8) (hxl : ∀ j, x.getD j 0 < 4294967296) (W : List Nat) (hW : W.length = 64) (hWl : ∀ j, W.getD j 0 < 4294967296) (w : World) (HR0 : Hid (Roots w)) :
    Calls Tryz.prog 82 #[.agg (encU x), .agg (encU W)] w fun e w' => e = .returned (.agg (encU (shaAdd x (shaRounds W x 64)))) ∧ Below w.heap.size w w' := by
  have hl := encU_size x
  have hl2 := encU_size W
  rw [hx] at hl
  rw [hW] at hl2
  go_enter Tryz.func82, Tryz.ntmps82
  go_wp2
  generalize hW0 : World.alloc (World.alloc (World.alloc _ _) _) _ = W0
  have hB0 : Below w.heap.size w W0 := by
    rw [← hW0]
    exact (((Below.refl _ _).alloc (Nat.le_refl _) _).alloc (by simp) _).alloc (by simp; omega) _
  have hsz : W0.heap.size = w.heap.size + 3 := by rw [← hW0]; simp
  obtain ⟨h0, h1, h2⟩ : W0.heap[w.heap.size]? = some (.cells (encU x) 115) ∧ W0.heap[w.heap.size + 1]? = some (.cells (encU W) 119) ∧ W0.heap[w.heap.size + 1 + 1]? = some (.cells (encU (List.replicate 8 0)) 115) := by
    rw [← hW0]
    exact three_now _ _ _ _
  clear hW0 hl hl2
  have HB0 : Hid (Below w.heap.size w W0) := hB0
  have HH0 : Hid (W0.heap[w.heap.size]? = some (.cells (encU x) 115)) := h0
  have HH1 : Hid (W0.heap[w.heap.size + 1]? = some (.cells (encU W) 119)) := h1
  have HH2 : Hid (W0.heap[w.heap.size + 1 + 1]? = some (.cells (encU (List.replicate 8 0)) 115)) := h2
  clear h0 h1 h2 hB0
  have cell (j : Nat) (hj : j < 8) : ∃ X : Int, W0.cell? ⟨w.heap.size, j, none⟩ = some (.int .u32 X) ∧ 0 ≤ X ∧ X < 4294967296 ∧ Hid (X = (x.getD j 0 : Nat)) := by
    have := hxl j
    exact ⟨_, by rw [cell_of_row _ _ j _ _ _ HH0.out, encU_at _ _ (by omega)], by omega, by omega, rfl⟩
  obtain ⟨xa, ka, a0, a1, HXa⟩ := cell 0 (by omega)
  obtain ⟨xb, kb, b0, b1, HXb⟩ := cell 1 (by omega)
  obtain ⟨xc, kc, c0, c1, HXc⟩ := cell 2 (by omega)
  obtain ⟨xd, kd, d0, d1, HXd⟩ := cell 3 (by omega)
  obtain ⟨xe, ke, e0, e1, HXe⟩ := cell 4 (by omega)
  obtain ⟨xf, kf, f0, f1, HXf⟩ := cell 5 (by omega)
  obtain ⟨xg, kg, g0, g1, HXg⟩ := cell 6 (by omega)
  obtain ⟨xh, kh, h0, h1, HXh⟩ := cell 7 (by omega)
  have HI : Hid (Is8 xa xb xc xd xe xf xg xh x) := ⟨HXa.out, HXb.out, HXc.out, HXd.out, HXe.out, HXf.out, HXg.out, HXh.out⟩
  clear cell HXa HXb HXc HXd HXe HXf HXg HXh
  go_quiet (fail)
  go_wp2
  go_quiet (fail)
  go_wp2
  generalize hW1 : World.drewN (World.drewN _ _) _ = W1
  have hh1 : W1.heap = W0.heap := by rw [← hW1]; rfl
  have HB1 : Hid (Below w.heap.size w W1) := by rw [← hW1]; exact below_drewN (below_drewN HB0.out _) _
  have HK0 : Hid (W1.heap[w.heap.size]? = some (.cells (encU x) 115)) := by show _ = _; rw [hh1]; exact HH0.out
  have HK1 : Hid (W1.heap[w.heap.size + 1]? = some (.cells (encU W) 119)) := by show _ = _; rw [hh1]; exact HH1.out
  have HK2 : Hid (W1.heap[w.heap.size + 1 + 1]? = some (.cells (encU (List.replicate 8 0)) 115)) := by show _ = _; rw [hh1]; exact HH2.out
  have hsz1 : W1.heap.size = w.heap.size + 3 := by rw [hh1]; exact hsz
  clear hW1 hh1 HB0 HH0 HH1 HH2 hsz ka kb kc kd ke kf kg kh
  go_loopw [5, 6, 7, 8, 9, 10, 11, 12, 34] (fun va vb vc vd ve vf vg vh vi wx => ∃ (i : Nat) (xa xb xc xd xe xf xg xh : Int), i ≤ 64 ∧ vi = .int .i64 i ∧ va = .int .u32 xa ∧ vb = .int .u32 xb ∧ vc = .int .u32 xc ∧ vd = .int .u32 xd ∧ ve = .int .u32 xe ∧ vf = .int .u32 xf ∧ vg = .int .u32 xg ∧ vh = .int .u32 xh
        ∧ 0 ≤ xa ∧ xa < 4294967296 ∧ 0 ≤ xb ∧ xb < 4294967296 ∧ 0 ≤ xc ∧ xc < 4294967296 ∧ 0 ≤ xd ∧ xd < 4294967296 ∧ 0 ≤ xe ∧ xe < 4294967296 ∧ 0 ≤ xf ∧ xf < 4294967296 ∧ 0 ≤ xg ∧ xg < 4294967296 ∧ 0 ≤ xh ∧ xh < 4294967296
        ∧ Hid (Is8 xa xb xc xd xe xf xg xh (shaRounds W x i)) ∧ Hid (Below W1.heap.size W1 wx)) (fun _ _ _ _ _ _ _ _ i _ => 64 - (intOf i).toNat)
  case atStart => exact ⟨0, _, _, _, _, _, _, _, _, by omega, rfl, rfl, rfl, rfl, rfl, rfl, rfl, rfl, rfl, a0, a1, b0, b1, c0, c1, d0, d1, e0, e1, f0, f1, g0, g1, h0, h1, HI, Below.refl _ _⟩
  case round =>
    clear a0 a1 b0 b1 c0 c1 d0 d1 e0 e1 f0 f1 g0 g1 h0 h1 HI
    obtain ⟨i, ya, yb, yc, yd, ye, yf, yg, yh, hi, rfl, rfl, rfl, rfl, rfl, rfl, rfl, rfl, rfl, a0, a1, b0, b1, c0, c1, d0, d1, e0, e1, f0, f1, g0, g1, h0, h1, HI, HD⟩ := hrel
    by_cases hlt : i < 64
    · obtain ⟨z, hz⟩ : ∃ z : Int, ((rootsL.getD i 0 : Nat) : Int) = z := ⟨_, rfl⟩
      have HZ : Hid (z = ((rootsL.getD i 0 : Nat) : Int)) := hz.symm
      have hroot : wr.cell? ⟨1, i, none⟩ = some (.int .u32 z) := by
        have := HR0.out.1 i hlt
        have hgs := HR0.out.2
        rw [hz] at this
        rw [← this]
        simp only [World.cell?, HD.out.block _ (Nat.lt_of_lt_of_le hgs (by omega)), HB1.out.block _ hgs]
      have hz0 : 0 ≤ z := by omega
      have hz1 : z < 4294967296 := by have := roots_lt i hlt; omega
      obtain ⟨nn, hnn⟩ : ∃ nn : Int, ((W.getD i 0 : Nat) : Int) = nn := ⟨_, rfl⟩
      have HNN : Hid (nn = ((W.getD i 0 : Nat) : Int)) := hnn.symm
      have hn0 : 0 ≤ nn := by omega
      have hn1 : nn < 4294967296 := by have := hWl i; omega
      have hwrd : wr.cell? ⟨w.heap.size + 1, i, none⟩ = some (.int .u32 nn) := by
        have e := HK1.out
        rw [← HD.out.block _ (by omega)] at e
        rw [cell_of_row _ _ i _ _ _ e, encU_at _ _ (by omega), hnn]
      clear hz hnn
      obtain ⟨S1, hS1, s10, s11, HS1⟩ := sig3 ye 6 11 25 e0 e1
      obtain ⟨CH, hCH, ch0, ch1, HCH⟩ := chU ye yf yg e0 e1 f0 f1 g0 g1
      obtain ⟨S0, hS0, s00, s01, HS0⟩ := sig3 ya 2 13 22 a0 a1
      obtain ⟨MJ, hMJ, mj0, mj1, HMJ⟩ := majU ya yb yc a0 a1 b0 b1 c0 c1
      obtain ⟨T, hT⟩ : ∃ T : Int, (yh + S1 + CH + z + nn) % 4294967296 = T := ⟨_, rfl⟩
      obtain ⟨U, hU⟩ : ∃ U : Int, (S0 + MJ) % 4294967296 = U := ⟨_, rfl⟩
      have hT0 : 0 ≤ T := by omega
      have hT1 : T < 4294967296 := by omega
      have hU0 : 0 ≤ U := by omega
      have hU1 : U < 4294967296 := by omega
      have HNX : Hid (Is8 ((T + U) % 4294967296) ya yb yc ((yd + T) % 4294967296) ye yf yg (shaRounds W x (i + 1))) :=
        sha_next W i ya yb yc yd ye yf yg yh S1 CH z nn S0 MJ _ HI.out HS1.out HCH.out HZ.out HNN.out HS0.out HMJ.out T U hT hU
      clear HS1 HCH HS0 HMJ HZ HNN HI
      go_wp2
      have hTT : (((yh + bits .xor .u32 (bits .xor .u32 (rorI ye 6) (rorI ye 11)) (rorI ye 25) + bits .xor .u32 (bits .and .u32 ye yf) (bits .and .u32 (bits .xor .u32 (if IntKind.u32.signed = true then -1 else IntKind.u32.max) ye) yg) + z) % 4294967296 + nn) % 4294967296) = T := by
        have hs : (if IntKind.u32.signed = true then (-1 : Int) else IntKind.u32.max) = IntKind.u32.max := rfl
        have e6 : rorI ye 6 = rorI ye (6 : Nat) := rfl
        have e11 : rorI ye 11 = rorI ye (11 : Nat) := rfl
        have e25 : rorI ye 25 = rorI ye (25 : Nat) := rfl
        rw [hs, e6, e11, e25, hS1, hCH]
        omega
      have HTT : Hid ((((yh + bits .xor .u32 (bits .xor .u32 (rorI ye 6) (rorI ye 11)) (rorI ye 25) + bits .xor .u32 (bits .and .u32 ye yf) (bits .and .u32 (bits .xor .u32 (if IntKind.u32.signed = true then -1 else IntKind.u32.max) ye) yg) + z) % 4294967296 + nn) % 4294967296) = T) := hTT
      have HU : Hid ((S0 + MJ) % 4294967296 = U) := hU
      clear hTT hS1 hCH hT hU
      go_quiet ((go_at_call 111; exact Calls.quiet_of_same (right_def _ _ e0 e1 (by omega) (by omega) _)))
      rw [HTT.out]
      clear HTT
      have hS0' : bits .xor .u32 (bits .xor .u32 (rorI ya 2) (rorI ya 13)) (rorI ya 22) = S0 := hS0
      clear hS0
      go_wp2_with (go_at_call 111; refine (right_def _ _ a0 a1 (by omega) (by omega) _).mono ?_; rintro e w2 ⟨rfl, hw2⟩; rw [hw2]; clear hw2 w2)
      go_roundw
      case rel =>
        exact ⟨i + 1, (T + (S0 + MJ) % 4294967296) % 4294967296, ya, yb, yc, (yd + T) % 4294967296, ye, yf, yg, by omega, by go_num, rfl, rfl, rfl, rfl, rfl, rfl, rfl, rfl, by omega, by omega, a0, a1, b0, b1, c0, c1, by omega, by omega, e0, e1, f0, f1, g0, g1, by rw [HU.out]; exact HNX, below_drewN HD.out _⟩
      case measure => simp [intOf]; omega
    · obtain rfl : i = 64 := by omega
      have hvl := shaRounds_lt W x hxl 64
      obtain ⟨v, hv⟩ : ∃ v, shaRounds W x 64 = v := ⟨_, rfl⟩
      rw [hv] at HI hvl
      have HV : Hid (shaRounds W x 64 = v) := hv
      clear hv
      obtain ⟨bm, hbm⟩ : ∃ bm, wr.heap.size = bm := ⟨_, rfl⟩
      have hbm1 : w.heap.size + 3 ≤ bm := by have := HD.out.size; omega
      have HBM : Hid (wr.heap.size = bm) := hbm
      have hrow : Hid (_ = encU (mixL x v 0)) := mixL_zero x v _ _ _ _ _ _ _ _ HI.out
      clear hbm
      go_wp2
      rw [hrow.out, HBM.out]
      have hbm := HBM.out
      generalize hW2 : World.alloc wr _ = W2
      have HM : Hid (W2.heap[bm]? = some (.cells (encU (mixL x v 0)) 115)) := by
        show _ = _
        rw [← hW2, ← hbm]
        exact heap_alloc_new wr _
      have hB2 : Below W1.heap.size W1 W2 := by rw [← hW2]; exact HD.out.alloc HD.out.size _
      have HB2 : Hid (Below w.heap.size w W2) := HB1.out.trans (hB2.mono (by omega))
      have HL0 : Hid (W2.heap[w.heap.size]? = some (.cells (encU x) 115)) := by show _ = _; rw [hB2.block _ (by omega)]; exact HK0.out
      have HL2 : Hid (W2.heap[w.heap.size + 1 + 1]? = some (.cells (encU (List.replicate 8 0)) 115)) := by show _ = _; rw [hB2.block _ (by omega)]; exact HK2.out
      clear hW2 hB2 hrow HK0 HK1 HK2 HB1 HD HI a0 a1 b0 b1 c0 c1 d0 d1 e0 e1 f0 f1 g0 g1 h0 h1 hbm HBM
      go_loopw [106] (fun vi wx => ∃ (i : Nat), i ≤ 8 ∧ vi = .int .i64 i ∧ Hid (wx.heap[bm]? = some (.cells (encU (mixL x v i)) 115)) ∧ Hid (Below bm W2 wx)) (fun i _ => 8 - (intOf i).toNat)
      case atStart => exact ⟨0, by omega, rfl, HM, Below.refl _ _⟩
      case round =>
        obtain ⟨i, hi8, rfl, HR, HD⟩ := hrel
        clear HM
        by_cases hlt : i < 8
        · have hfro : wr.frozen? ⟨bm, i, none⟩ = false := by simp [World.frozen?, HR.out]
          obtain ⟨X, hX⟩ : ∃ X : Int, ((v.getD i 0 : Nat) : Int) = X := ⟨_, rfl⟩
          obtain ⟨Y, hY⟩ : ∃ X : Int, ((x.getD i 0 : Nat) : Int) = X := ⟨_, rfl⟩
          have hx1 := hvl i
          have hy1 := hxl i
          have kX : wr.cell? ⟨bm, i, none⟩ = some (.int .u32 X) := by
            rw [cell_of_row _ _ i _ _ _ HR.out, encU_at _ _ (by rw [mixL_length]; exact hlt), mixL_at _ _ _ hlt, hX]
          have kY : wr.cell? ⟨w.heap.size, i, none⟩ = some (.int .u32 Y) := by
            have e := HL0.out
            rw [← HD.out.block _ (by omega)] at e
            rw [cell_of_row _ _ i _ _ _ e, encU_at _ _ (by omega), hY]
          have x0 : 0 ≤ X := by omega
          have y0 : 0 ≤ Y := by omega
          have x1 : X < 4294967296 := by omega
          have y1 : Y < 4294967296 := by omega
          have HFR : Hid ((wr.setCell ⟨bm, i, none⟩ (.int .u32 ((X + Y) % 4294967296))).heap[bm]? = some (.cells (encU (mixL x v (i + 1))) 115)) := by
            show _ = _
            rw [row_set _ _ _ _ _ _ _ HR.out, encU_set _ _ _ ((x.getD i 0 + v.getD i 0) % 4294967296) (by omega), mixL_succ]
          clear hX hY hx1 hy1
          go_wp2
          go_region
          have HD2 : Hid (Below bm W2 (wr.setCell ⟨bm, i, none⟩ (.int .u32 ((X + Y) % 4294967296)))) := HD.out.setCell (Nat.le_refl _) _
          generalize World.setCell _ _ _ = WX at HFR HD2 ⊢
          go_wp2
          go_roundw
          case rel => exact ⟨i + 1, by omega, by go_num, HFR, HD2.out.drew⟩
          case measure => simp [intOf]; omega
        · obtain rfl : i = 8 := by omega
          have hr2 : wr.heap[w.heap.size + 1 + 1]? = some (.cells (encU (List.replicate 8 0)) 115) := by rw [HD.out.block _ (by omega)]; exact HL2.out
          go_upto_region 16 with fail
          apply wp_region_lit
          refine wpList_load_arr wr rfl (.tmp 16) bm _ _ 115 _ _ _ rfl rfl HR.out Tryz.underlying115 (by rw [encU_size, mixL_length]; exact info8) ?_
          refine wpList_store_arr wr rfl (.tmp 4) (.tmp 118) (w.heap.size + 1 + 1) _ 115 _ _ rfl rfl rfl hr2 (by rw [encU_size, mixL_length]; exact info8) (by rw [encU_size, encU_size, mixL_length]; rfl) (encU_one _) ?_
          go_wp2
          refine ret_arr (p := 4) (ty := 115) (b := w.heap.size + 1 + 1) rfl rfl (setRow_heap wr (w.heap.size + 1 + 1) _ _ _ _ hr2) Tryz.underlying115 (by rw [encU_size, mixL_length]; exact info8) rfl ⟨?_, ?_⟩
          · rw [mixL_eight, HV.out]
          · exact below_setRow (HB2.out.trans (HD.out.mono (by omega))) (by omega) _
end Go.Proofs.YtgajhmmildbkfaaGreatDoor

/- The program's SHA-256 is the sum over lists of bytes. -/
namespace Go.Proofs.YtgajhmmildbkfaaGreatDoor
open Go.RowKit

theorem Roots.below {w w' : World} (h : Roots w) (hb : Below w.heap.size w w') : Roots w' :=
  ⟨fun i hi => by rw [← h.1 i hi]; simp only [World.cell?, hb.block _ h.2], Nat.lt_of_lt_of_le h.2 hb.size⟩
theorem Begin.below {w w' : World} (h : Begin w) (hb : Below w.heap.size w w') : Begin w' :=
  ⟨fun i hi => by rw [← h.1 i hi]; simp only [World.cell?, hb.block _ h.2], Nat.lt_of_lt_of_le h.2 hb.size⟩
theorem eightN {l : List Nat} (h : l.length = 8) : ∃ a b c d e f g i, l = [a, b, c, d, e, f, g, i] := by
  match l, h with
  | [a, b, c, d, e, f, g, i], _ => exact ⟨a, b, c, d, e, f, g, i, rfl⟩
theorem eight_cells {w w' : World} {B a b c d e f g i : Nat} {t : TypeId} (h : w.heap[B]? = some (.cells (encU [a, b, c, d, e, f, g, i]) t)) (hk : w'.heap[B]? = w.heap[B]?) :
    w'.cell? ⟨B, 0, none⟩ = some (.int .u32 a) ∧ w'.cell? ⟨B, 1, none⟩ = some (.int .u32 b) ∧ w'.cell? ⟨B, 2, none⟩ = some (.int .u32 c) ∧ w'.cell? ⟨B, 3, none⟩ = some (.int .u32 d) ∧
    w'.cell? ⟨B, 4, none⟩ = some (.int .u32 e) ∧ w'.cell? ⟨B, 5, none⟩ = some (.int .u32 f) ∧ w'.cell? ⟨B, 6, none⟩ = some (.int .u32 g) ∧ w'.cell? ⟨B, 7, none⟩ = some (.int .u32 i) := by
  rw [← hk] at h
  refine ⟨?_, ?_, ?_, ?_, ?_, ?_, ?_, ?_⟩ <;> (rw [cell_of_row _ _ _ _ _ _ h]; rfl)
set_option maxHeartbeats 8000000 in
set_option maxRecDepth 100000 in
theorem sha_any (s : ByteArray) (hs : s.size ≤ 1000) (w : World) (HBe : Hid (Begin w)) (HRo : Hid (Roots w)) :
    Calls Tryz.prog 57 #[.string s] w fun e w' => e = .returned (.string (bs (hexL (shaL s.data.toList)))) ∧ Below w.heap.size w w' := by
  have b0 := HBe.out.1 0 (by omega)
  have b1 := HBe.out.1 1 (by omega)
  have b2 := HBe.out.1 2 (by omega)
  have b3 := HBe.out.1 3 (by omega)
  have b4 := HBe.out.1 4 (by omega)
  have b5 := HBe.out.1 5 (by omega)
  have b6 := HBe.out.1 6 (by omega)
  have b7 := HBe.out.1 7 (by omega)
  simp only [beginL, List.getD_cons_zero, List.getD_cons_succ] at b0 b1 b2 b3 b4 b5 b6 b7
  go_enter Tryz.func57, Tryz.ntmps57
  go_wp2_with (go_at_call 81; refine (fill_any true s hs _).mono ?_; rintro e w1 ⟨g, n, cap, rfl, hn, hnc, hgw, hgl, HC, hb1⟩; have HN : Hid (n = (s.size + 72) / 64 * 64) := hn; clear hn)
  clear b0 b1 b2 b3 b4 b5 b6 b7
  obtain ⟨K, hK⟩ : ∃ K, (s.size + 72) / 64 = K := ⟨_, rfl⟩
  have hK2 : K ≤ 20 := by omega
  have hn2 : n = 64 * K := by have := HN.out; omega
  have HN2 : Hid (n = 64 * K) := hn2
  have hnK : RowKit.wrap64 ((n : Int) / 64) = (K : Int) := by
    rw [hn2]
    have : ((64 * K : Nat) : Int) / 64 = K := by omega
    rw [this]
    simp [RowKit.wrap64]
    omega
  rw [hnK]
  obtain ⟨L, hL⟩ : ∃ L, padL false s.data.toList = L := ⟨_, rfl⟩
  have hLl : L.length = 64 * K := by rw [← hL, padL_length]; simp; omega
  have HC1 : Hid (Cells w1 g L) := by rw [← hL]; exact HC
  have HG : Hid (shaL s.data.toList = (shaBlocks L K).flatMap be4) := by
    show _ = _
    rw [shaL, hL, ← hK]
    simp
  have hn3 : n ≤ 1280 := by omega
  have hgw2 : w.heap.size < g := by simp at hgw; omega
  have HR1 : Hid (w1.heap[w.heap.size]? = some (.cells (encU (shaBlocks L 0)) 115)) := by
    show _ = _
    rw [hb1.block _ (by simp)]
    exact heap_alloc_new w _
  have HB1 : Hid (Below w.heap.size w w1) := ((Below.refl _ _).alloc (Nat.le_refl _) _).trans (hb1.mono (by simp))
  have HLn : Hid (L.length = 64 * K) := hLl
  clear hn2 hnK hL hK HN HC hb1 hLl hgw HBe
  go_loopw [12] (fun vi wx => ∃ (k : Nat), k ≤ K ∧ vi = .int .i64 k ∧ Hid (wx.heap[w.heap.size]? = some (.cells (encU (shaBlocks L k)) 115)) ∧ Hid (Cells wx g L) ∧ g < wx.heap.size ∧ Hid (Below w.heap.size w wx)) (fun i _ => K - (intOf i).toNat)
  case atStart => exact ⟨0, by omega, rfl, HR1, HC1, hgl, HB1⟩
  case round =>
    obtain ⟨k, hk, rfl, HR, HCX, hgx, HB⟩ := hrel
    clear HR1 HC1 HB1 hgl
    have hx8 := shaBlocks_length L k
    have hxl : ∀ j, (shaBlocks L k).getD j 0 < 4294967296 := fun j => by
      by_cases hj : j < 8
      · exact shaBlocks_lt L k j hj
      · rw [List.getD_eq_getElem?_getD, List.getElem?_eq_none (by omega)]
        decide
    by_cases hlt : k < K
    · obtain ⟨x, hx⟩ : ∃ x, shaBlocks L k = x := ⟨_, rfl⟩
      rw [hx] at HR hx8 hxl
      obtain ⟨p, hp⟩ : ∃ p : Nat, (k : Int) * 64 = (p : Int) := ⟨k * 64, by omega⟩
      have hwl := shaW_length L p 64
      have hwl2 := shaW_lt L p 64
      have hspr := spread_any L p
      obtain ⟨WW, hWW⟩ : ∃ WW, shaW L p 64 = WW := ⟨_, rfl⟩
      rw [hWW] at hspr hwl hwl2
      have hmix := mixS_any x hx8 hxl WW hwl hwl2
      obtain ⟨y, hy⟩ : ∃ y, shaAdd x (shaRounds WW x 64) = y := ⟨_, rfl⟩
      have hy8 : y.length = 8 := by rw [← hy]; exact shaAdd_length _ _
      rw [hy] at hmix
      have HY : Hid (shaBlocks L (k + 1) = y) := by
        show _ = _
        have e : 64 * k = p := by omega
        rw [shaBlocks, hx, e, hWW, hy]
      clear hy hWW hwl2 hxl
      obtain ⟨n0, n1, n2, n3, n4, n5, n6, n7, rfl⟩ := eightN hx8
      obtain ⟨c0, c1, c2, c3, c4, c5, c6, c7⟩ := eight_cells HR.out rfl
      have hp1 : p + 64 ≤ n := by have := HN2.out; omega
      have hwp : IntKind.i64.wrap (p : Int) = p := wrap64 p (by omega)
      have hpn : p ≤ n := by omega
      have hpc : ¬ (cap = p) := by omega
      have hpL : p + 64 ≤ L.length := by have := HLn.out; have := HN2.out; omega
      have hws : w.heap.size < wr.heap.size := by omega
      have hwds := words_any true L g p (n - p) (cap - p) hpL (by omega) wr.drew (HCX.out.kept (w' := wr.drew) rfl) hgx
      simp only [Bool.not_true] at hwds
      clear hx hx8 hwl
      have hys : (encU y).size = 8 := by rw [encU_size, hy8]
      go_wp2
      go_region_with (first
          | (go_at_call 84; refine hwds.mono ?_; rintro e w2 ⟨rfl, hb2⟩; obtain ⟨d0, d1, d2, d3, d4, d5, d6, d7⟩ := eight_cells (w' := w2) HR.out (hb2.block _ hws))
          | (go_at_call 83; refine (hspr w2).mono ?_; rintro e w3 ⟨rfl, hb3⟩; have hb3' : Below wr.heap.size wr w3 := ((Below.refl _ _).drew).trans (hb2.trans (hb3.mono hb2.size)); obtain ⟨j0, j1, j2, j3, j4, j5, j6, j7⟩ := eight_cells (w' := w3) HR.out (hb3'.block _ hws))
          | (go_at_call 82; refine (hmix w3 (HRo.out.below (HB.out.trans (hb3'.mono (by omega))))).mono ?_; rintro e w4 ⟨rfl, hb4⟩; have hb4' : Below wr.heap.size wr w4 := hb3'.trans (hb4.mono hb3'.size); have hr4 : w4.heap[w.heap.size]? = some (.cells (encU [n0, n1, n2, n3, n4, n5, n6, n7]) 115) := ((hb4'.block _ hws).trans HR.out); have hst := store_cells (P := Tryz.prog) w4 w.heap.size _ _ (encU y) hr4 (by rw [encU_size, encU_size, hy8]; rfl) (encU_one _)))
      all_goals
        have HR3 : Hid ((w4.setRow w.heap.size (encU y)).heap[w.heap.size]? = some (.cells (encU y) 115)) := setRow_heap w4 w.heap.size _ _ _ _ hr4
        have HC3 : Hid (Cells (w4.setRow w.heap.size (encU y)) g L) := HCX.out.kept (by rw [setRow_other _ _ _ _ (by omega)]; exact hb4'.block _ hgx)
        have hg3 : g < (w4.setRow w.heap.size (encU y)).heap.size := by
          have := hb4'.size
          simp [World.setRow]
          omega
        have HB3 : Hid (Below w.heap.size w (w4.setRow w.heap.size (encU y))) := below_setRow (HB.out.trans (hb4'.mono (by omega))) (Nat.le_refl _) _
        generalize w4.setRow w.heap.size (encU y) = WX at HR3 HC3 hg3 HB3 ⊢
        clear hst hr4 hb4 hb3 hb2 hb3' hb4' d0 d1 d2 d3 d4 d5 d6 d7 j0 j1 j2 j3 j4 j5 j6 j7 c0 c1 c2 c3 c4 c5 c6 c7 hmix hspr hwds
        go_wp2
        go_roundw
        case rel => exact ⟨k + 1, by omega, by go_num, by rw [HY.out]; exact HR3, HC3, hg3, HB3⟩
        case measure => simp [intOf]; omega
    · obtain rfl : k = K := by omega
      obtain ⟨x, hx⟩ : ∃ x, shaBlocks L k = x := ⟨_, rfl⟩
      rw [hx] at HR hx8 hxl
      have HXX : Hid (shaBlocks L k = x) := hx
      clear hx
      have HCC : Hid (∀ j, j < 8 → wr.cell? ⟨w.heap.size, j, none⟩ = some (.int .u32 ((x.getD j 0 : Nat) : Int))) := by
        intro j hj
        rw [cell_of_row _ _ _ _ _ _ HR.out, encU_at _ _ (by omega)]
      have hall : ∀ y ∈ x, y < 4294967296 := by
        intro y hy
        obtain ⟨j, hj, rfl⟩ := List.getElem_of_mem hy
        have := hxl j
        rwa [List.getD_eq_getElem?_getD, List.getElem?_eq_getElem hj] at this
      have hws : w.heap.size < wr.heap.size := by omega
      go_wp2_with (go_at_call 85; refine (hexO_any true x w.heap.size 8 8 hx8 (by omega) (by omega) hall _ HCC hws).mono ?_; rintro e w2 ⟨rfl, hb2⟩)
      go_ret
      refine ⟨ret_str ?_, HB.out.trans (hb2.mono (by omega))⟩
      rw [HG.out, HXX.out]
      simp [enc4]
end Go.Proofs.YtgajhmmildbkfaaGreatDoor

/- The library's contracts that are leant on, laid at this program's numbers. -/
namespace Go.Proofs.YtgajhmmildbkfaaGreatDoor
open Go.Shelf Go.RowKit
def lays156_ren : Go.Shelf.Ren := ⟨fun | 156 => 29 | 165 => 50 | 166 => 51 | 169 => 52 | 240 => 75 | 241 => 76 | 276 => 102 | 277 => 103 | n => n, fun | 31 => 22 | 9 => 9 | 3 => 3 | 4 => 4 | 0 => 0 | 20 => 20 | 72 => 90 | 76 => 92 | 70 => 88 | 37 => 83 | 75 => 30 | 127 => 110 | 164 => 139 | 5 => 5 | 80 => 77 | n => n, fun | n => n⟩
theorem lays156 : Go.Proofs.Lays.n156 Tryz.prog lays156_ren := {
  mixed := by kernel_rfl
  f156 := Tryz.func29.trans (congrArg some (by kernel_rfl))
  f165 := Tryz.func50.trans (congrArg some (by kernel_rfl))
  f166 := Tryz.func51.trans (congrArg some (by kernel_rfl))
  f169 := Tryz.func52.trans (congrArg some (by kernel_rfl))
  f240 := Tryz.func75.trans (congrArg some (by kernel_rfl))
  f241 := Tryz.func76.trans (congrArg some (by kernel_rfl))
  f276 := Tryz.func102.trans (congrArg some (by kernel_rfl))
  f277 := Tryz.func103.trans (congrArg some (by kernel_rfl))
  t0 := Tryz.underlying0
  a0 := Tryz.isAgg0
  z0 := Tryz.sizeOf0
  v0 := Tryz.zeroValue0
  t3 := Tryz.underlying3
  a3 := Tryz.isAgg3
  z3 := Tryz.sizeOf3
  v3 := Tryz.zeroValue3
  t4 := Tryz.underlying4
  a4 := Tryz.isAgg4
  z4 := Tryz.sizeOf4
  v4 := Tryz.zeroValue4
  t9 := Tryz.underlying9
  a9 := Tryz.isAgg9
  z9 := Tryz.sizeOf9
  v9 := Tryz.zeroValue9
  t20 := Tryz.underlying20
  a20 := Tryz.isAgg20
  z20 := Tryz.sizeOf20
  v20 := Tryz.zeroValue20
  t31 := Tryz.underlying22
  a31 := Tryz.isAgg22
  z31 := Tryz.sizeOf22
  v31 := Tryz.zeroValue22
  t37 := Tryz.underlying83
  a37 := Tryz.isAgg83
  z37 := Tryz.sizeOf83
  v37 := Tryz.zeroValue83
  t70 := Tryz.underlying88
  a70 := Tryz.isAgg88
  z70 := Tryz.sizeOf88
  v70 := Tryz.zeroValue88
  t72 := Tryz.underlying90
  a72 := Tryz.isAgg90
  z72 := Tryz.sizeOf90
  v72 := Tryz.zeroValue90
  t75 := Tryz.underlying30
  a75 := Tryz.isAgg30
  z75 := Tryz.sizeOf30
  v75 := Tryz.zeroValue30
  t76 := Tryz.underlying92
  a76 := Tryz.isAgg92
  z76 := Tryz.sizeOf92
  v76 := Tryz.zeroValue92
  t127 := Tryz.underlying110
  a127 := Tryz.isAgg110
  z127 := Tryz.sizeOf110
  v127 := Tryz.zeroValue110
  t164 := Tryz.underlying139
  a164 := Tryz.isAgg139
  z164 := Tryz.sizeOf139
  v164 := Tryz.zeroValue139 }
theorem Builder_Extra_156 : Builder.Extra Tryz.prog lays156_ren := {
  sizeBuilder := by kernel_rfl
  liesBuilder := by kernel_rfl
  t5 := Tryz.underlying5
  a5 := Tryz.isAgg5
  z5 := Tryz.sizeOf5
  v5 := Tryz.zeroValue5
  infoByte := by kernel_rfl
  cellsByte := by kernel_rfl
  sizeByte := by kernel_rfl
  neB5 := by decide }
end Go.Proofs.YtgajhmmildbkfaaGreatDoor

/- A number's hexadecimal digits, by the library's own functions. -/
namespace Go.Proofs.YtgajhmmildbkfaaGreatDoor
open Go.RowKit

/-- What the table of the library holds at the place that is read. -/
def Bruijn (w : World) : Prop := w.cell? ⟨7, 15, none⟩ = some (.int .u8 4) ∧ 7 < w.heap.size
theorem Bruijn.below {w w' : World} {B : Nat} (h : Bruijn w) (hb : Below B w w') (hB : w.heap.size ≤ B) : Bruijn w' :=
  ⟨by rw [hb.cell (p := ⟨7, 15, none⟩) (Nat.lt_of_lt_of_le h.2 hB)]; exact h.1, by have := h.2; have := hb.size; omega⟩
theorem isPow_16 (w : World) : Calls Tryz.prog 118 #[.int .i64 16] w fun e w' => e = .returned (.bool true) ∧ w' = w := by
  go_enter Tryz.func118, Tryz.ntmps118
  go_wp2
  go_ret
  exact ⟨rfl, rfl⟩
theorem tz64_16 (w : World) (h : Bruijn w) : Calls Tryz.prog 133 #[.int .u64 16] w fun e w' => e = .returned (.int .i64 4) ∧ w' = w := by
  have hi : IntKind.u64.wrap (bits .and .u64 16 (IntKind.u64.wrap (-16)) * 285870213051353865) / 288230376151711744 = 15 := by decide
  have hc := h.1
  go_enter Tryz.func133, Tryz.ntmps133
  go_wp2
  go_ret
  exact ⟨rfl, rfl⟩
theorem tz_16 (w : World) (h : Bruijn w) : Calls Tryz.prog 119 #[.int .u64 16] w fun e w' => e = .returned (.int .i64 4) ∧ w' = w := by
  go_enter Tryz.func119, Tryz.ntmps119
  go_wp2_with fail
  refine (tz64_16 _ h).mono ?_
  rintro e w2 ⟨rfl, rfl⟩
  go_wp2
  go_ret
  exact ⟨rfl, rfl⟩
/-- The cells of the array: noughts, and the digits that are written. -/
theorem row_step {w : World} {B k : Nat} {S : List UInt8} (c : UInt8) (n : Int) (hn : n = c.toNat) (hk : k ≤ 64) (h : Row w B (List.replicate (65 - k) 0 ++ S)) : Row (w.setCell ⟨B, 64 - k, none⟩ (.int .u8 n)) B (List.replicate (65 - (k + 1)) 0 ++ c :: S) := by
  have h1 := h.set (64 - k) c n hn
  have e : (List.replicate (65 - k) 0 ++ S).set (64 - k) c = List.replicate (65 - (k + 1)) 0 ++ c :: S := by
    have e1 : 65 - k = (64 - k) + 1 := by omega
    have e2 : 65 - (k + 1) = 64 - k := by omega
    rw [e1, e2, List.replicate_succ', List.append_assoc, List.set_append_right _ _ (by simp)]
    simp
  rw [e] at h1
  exact h1
theorem dig36 (p : Nat) (h : p < 16) (h2 : p < ({ data := #[48, 49, 50, 51, 52, 53, 54, 55, 56, 57, 97, 98, 99, 100, 101, 102, 103, 104, 105, 106, 107, 108, 109, 110, 111, 112, 113, 114, 115, 116, 117, 118, 119, 120, 121, 122] } : ByteArray).size) : ({ data := #[48, 49, 50, 51, 52, 53, 54, 55, 56, 57, 97, 98, 99, 100, 101, 102, 103, 104, 105, 106, 107, 108, 109, 110, 111, 112, 113, 114, 115, 116, 117, 118, 119, 120, 121, 122] } : ByteArray)[p]'h2 = dig p := by
  have : ∀ p : Fin 16, ({ data := #[48, 49, 50, 51, 52, 53, 54, 55, 56, 57, 97, 98, 99, 100, 101, 102, 103, 104, 105, 106, 107, 108, 109, 110, 111, 112, 113, 114, 115, 116, 117, 118, 119, 120, 121, 122] } : ByteArray)[p.val]'(Nat.lt_trans p.isLt (by decide)) = dig p.val := by decide
  exact this ⟨p, h⟩
theorem conv_from {w : World} {B k : Nat} {S : List UInt8} (h : Row w B (List.replicate (65 - k) 0 ++ S)) (hk : S.length = k) (hk2 : k ≤ 65) (n cap : Nat) (hn : n = k) : (convert 83 9 (.slice (some ⟨B, 65 - k, none⟩) n cap)).run Tryz.prog w = .ok (.string (bs S)) w := by
  subst hn hk
  refine run_convert_bytes_back (P := Tryz.prog) w 83 9 5 ⟨B, 65 - S.length, none⟩ cap S Tryz.underlying83 Tryz.underlying5 Tryz.underlying9 (fun j hj => ?_)
  have := (h (65 - S.length + j) (by simp; omega)).1
  rw [WideShapes.add_plain, this]
  simp
theorem slice65 (W : World) (B m k : Nat) (hm : m + k = 65) (hk : 0 < k) : (Instr.sliceAt 158 (.pointer (some ⟨B, 0, none⟩)) (some (.int .i64 (m : Int))) none none).run Tryz.prog W = .ok (.slice (some ⟨B, m, none⟩) k k) W := by
  have ht : Tryz.prog.underlying 158 = some (.array (Tryz.prog.arrayLen 158) (Tryz.prog.elem 158)) := by kernel_rfl
  have hl : Tryz.prog.arrayLen 158 = 65 := by kernel_rfl
  have he : Tryz.prog.elem 158 = 5 := by kernel_rfl
  have hs : (sizeOf 5).run Tryz.prog W = .ok 1 W := by kernel_rfl
  rw [run_sliceAt_array_l W 158 _ ht .i64 (m : Int) (by omega) (by rw [hl]; omega), he, hs, hl]
  simp only [Result.andThen, slicedAt, Int.toNat_natCast, Nat.mul_one]
  have e : 65 - m = k := by omega
  rw [if_neg (by omega), WideShapes.add_plain, Nat.zero_add, e]
theorem and15 (u : Nat) (hu : u < 9223372036854775808) : bits .and .u64 (u : Int) 15 = ((u % 16 : Nat) : Int) := by
  have := bits_mask .u64 63 (by decide) (fun n h0 h1 => by rw [IntKind.wrap_u64]; omega) 4 (by omega) u (by omega) (by exact_mod_cast hu)
  simpa using this
set_option maxRecDepth 100000 in
set_option maxHeartbeats 2000000 in
theorem fib_any (n : Nat) (hn : n < 9223372036854775808) (w : World) (HD : Hid (Bruijn w)) :
    Calls Tryz.prog 90 #[.slice none 0 0, .int .u64 (n : Int), .int .i64 16, .bool false, .bool false] w fun e w' => e = .returned (.tuple #[.slice none 0 0, .string (bs (hexD n))]) ∧ Below w.heap.size w w' := by
  go_enter Tryz.func90, Tryz.ntmps90
  go_wp2_with fail
  refine (isPow_16 _).mono ?_
  rintro e w1 ⟨rfl, rfl⟩
  have hB0 : Below w.heap.size w (w.alloc (.cells Tryz.zeroCells158 158)) := (Below.refl _ _).alloc (Nat.le_refl _) _
  have hR0 : Row (w.alloc (.cells Tryz.zeroCells158 158)) w.heap.size (List.replicate (65 - 0) 0 ++ []) := by
    have hz : Tryz.zeroCells158 = Array.replicate 65 (.int .u8 0) := by kernel_rfl
    rw [hz]
    intro j hj
    have hj' : j < 65 := by simpa using hj
    refine ⟨?_, ?_⟩
    · rw [World.cell?_alloc_mark]
      have e : (List.replicate (65 - 0) (0 : UInt8) ++ [])[j] = 0 := by
        simp only [List.append_nil]
        exact List.getElem_replicate ..
      rw [e, Array.getElem?_replicate, if_pos hj']
      rfl
    · rw [World.frozen?_alloc_mark]
      simp
  have HB0 : Hid (Below w.heap.size w (w.alloc (.cells Tryz.zeroCells158 158))) := hB0
  have HD0 : Hid (Bruijn (w.alloc (.cells Tryz.zeroCells158 158))) := HD.out.below hB0 (Nat.le_refl _)
  have HR0 : Hid (Row (w.alloc (.cells Tryz.zeroCells158 158)) w.heap.size (List.replicate (65 - 0) 0 ++ [])) := hR0
  clear hB0 hR0
  generalize w.alloc (.cells Tryz.zeroCells158 158) = w0 at HB0 HD0 HR0
  go_wp2_with fail
  refine (tz_16 _ HD0.out).mono ?_
  rintro e w1 ⟨rfl, rfl⟩
  go_wp2
  go_loopw [1, 13] (fun u i wr => ∃ (k uN : Nat) (S : List UInt8), u = .int .u64 (uN : Int) ∧ i = .int .i64 ((65 - k : Nat) : Int) ∧ uN < 9223372036854775808 ∧ k ≤ 15 ∧ Hid (HexAt n k uN S ∧ Row wr w.heap.size (List.replicate (65 - k) 0 ++ S) ∧ Below w.heap.size w wr)) (fun u _ _ => (intOf u).toNat)
  case atStart => exact ⟨0, n, [], rfl, rfl, hn, by omega, ⟨hexAt_start n (by omega), HR0.out, HB0.out⟩⟩
  case round =>
    obtain ⟨k, uN, S, rfl, rfl, hu, hk, HI⟩ := hrel
    obtain ⟨m, hm⟩ : ∃ m : Nat, 65 - k = m + 1 := ⟨64 - k, by omega⟩
    have hm2 : 64 - k = m := by omega
    have hm64 : m ≤ 64 := by omega
    by_cases h16 : 16 ≤ uN
    · have hg : (16 : Int) ≤ (uN : Int) := by omega
      have ha := and15 uN hu
      have hlt : uN % 16 < 16 := Nat.mod_lt _ (by omega)
      have hd := dig36 (uN % 16) hlt (Nat.lt_trans hlt (by decide))
      have hrow := row_step (dig (uN % 16)) ((dig (uN % 16)).toNat : Int) rfl (by omega) HI.out.2.1
      rw [hm2] at hrow
      have hfr := (HI.out.2.1 m (by simp; omega))
      rw [hm]
      go_wp2
      go_roundw
      case rel =>
        exact ⟨k + 1, uN / 16, dig (uN % 16) :: S, by simp, by congr 2; omega, by omega, by have := (hexAt_step HI.out.1 h16).2.2.2; omega, ⟨hexAt_step HI.out.1 h16, hrow, HI.out.2.2.setCell (p := ⟨w.heap.size, m, none⟩) (Nat.le_refl _) _⟩⟩
      case measure => simp [intOf]; omega
    · have hg : ¬ (16 : Int) ≤ (uN : Int) := by omega
      have hlt : uN < 16 := by omega
      have hd := dig36 uN hlt (Nat.lt_trans hlt (by decide))
      have hrow := row_step (dig uN) ((dig uN).toNat : Int) rfl (by omega) HI.out.2.1
      have hN := hexAt_end HI.out.1 hlt
      have hS := HI.out.1.2.1
      have hconv := conv_from hrow (by simp [hS]) (by omega) (k + 1) (k + 1) rfl
      rw [← hN] at hconv
      have e1 : 65 - (k + 1) = m := by omega
      rw [e1, hm2] at hconv
      have hfr := (HI.out.2.1 m (by simp; omega))
      have hz : (65 : Int) - (m : Int) = ((k + 1 : Nat) : Int) := by omega
      have HB : Hid (Below w.heap.size w (wr.setCell ⟨w.heap.size, m, none⟩ (.int .u8 ((dig uN).toNat : Int)))) := HI.out.2.2.setCell (p := ⟨w.heap.size, m, none⟩) (Nat.le_refl _) _
      have hsl := slice65 (wr.setCell ⟨w.heap.size, m, none⟩ (.int .u8 ((dig uN).toNat : Int))) w.heap.size m (k + 1) (by omega) (by omega)
      rw [hm]
      go_wp2
      go_ret2
      exact ⟨rfl, HB.out⟩
end Go.Proofs.YtgajhmmildbkfaaGreatDoor

/- The sum of texts with colons between, by the program. -/
namespace Go.Proofs.YtgajhmmildbkfaaGreatDoor
open Go.RowKit Go.Shelf

/-- The tables that the road reads. -/
structure Tabs (w : World) : Prop where
  sines : Hid (Sines w)
  turns : Hid (Turns w)
  begins : Hid (Begin w)
  roots : Hid (Roots w)
  bruijn : Hid (Bruijn w)
theorem Tabs.below {w w' : World} (h : Tabs w) (hb : Below w.heap.size w w') : Tabs w' :=
  ⟨h.sines.out.below hb, h.turns.out.below hb, h.begins.out.below hb, h.roots.out.below hb, h.bruijn.out.below hb (Nat.le_refl _)⟩
def dats (xs : List ByteArray) : List (List UInt8) := xs.map (·.data.toList)
theorem joinC_any (xs : List ByteArray) (b cap : Nat) (hcap : xs.length ≤ cap) (hlen : (Lib.join (dats xs) [58]).length ≤ 1000) (hx : xs.length ≤ 100) (w : World) (hb : b < w.heap.size) (hc : ∀ (j : Nat) x, xs[j]? = some x → w.cell? ⟨b, 0 + j, none⟩ = some (.string x)) :
    Calls Tryz.prog 29 #[.slice (some ⟨b, 0, none⟩) xs.length cap, .string ⟨#[58]⟩] w fun e w' => e = .returned (.string (bs (Lib.join (dats xs) [58]))) ∧ Below w.heap.size w w' := by
  have c := Any.strings_Join lays156 Builder_Extra_156 b 0 cap xs ⟨#[58]⟩ w hc hb (by omega) hcap (by
    show (Lib.join (dats xs) [58]).length ≤ _
    omega)
  exact c
set_option maxHeartbeats 1000000 in
theorem sumd_any (sch : Int) (xs : List ByteArray) (b cap : Nat) (hcap : xs.length ≤ cap) (hlen : (Lib.join (dats xs) [58]).length ≤ 1000) (hx : xs.length ≤ 100) (w : World) (HT : Hid (Tabs w)) (hb : b < w.heap.size) (hc : ∀ (j : Nat) x, xs[j]? = some x → w.cell? ⟨b, 0 + j, none⟩ = some (.string x)) :
    Calls Tryz.prog 33 #[.int .i64 sch, .slice (some ⟨b, 0, none⟩) xs.length cap] w fun e w' => e = .returned (.string (bs (sumT sch (dats xs)))) ∧ Below w.heap.size w w' := by
  have hj := joinC_any xs b cap hcap hlen hx w hb hc
  have hz : (bs (Lib.join (dats xs) [58])).size ≤ 1000 := by rw [bs_size]; exact hlen
  have hd : (bs (Lib.join (dats xs) [58])).data.toList = Lib.join (dats xs) [58] := bs_data _
  unfold sumT sumL
  generalize xs.length = n at hj ⊢
  generalize Lib.join (dats xs) [58] = J at hj hz hd ⊢
  have h1 := fun w h1 h2 => md5_any (bs J) hz w h1 h2
  have h2 := fun w h1 h2 => sha_any (bs J) hz w h1 h2
  rw [hd] at h1 h2
  clear hc
  by_cases h3 : sch = 3
  · have hi : (sch == 3) = true := by simp [h3]
    rw [if_pos h3]
    go_enter Tryz.func33, Tryz.ntmps33
    go_wp2_with fail
    refine hj.mono ?_
    rintro e w1 ⟨rfl, hb1⟩
    go_wp2_with fail
    refine (h2 _ (HT.out.below hb1).begins (HT.out.below hb1).roots).mono ?_
    rintro e w2 ⟨rfl, hb2⟩
    go_wp2
    go_ret
    exact ⟨rfl, hb1.trans (hb2.mono hb1.size)⟩
  · have hi : (sch == 3) = false := by simp [h3]
    rw [if_neg h3]
    go_enter Tryz.func33, Tryz.ntmps33
    go_wp2_with fail
    refine hj.mono ?_
    rintro e w1 ⟨rfl, hb1⟩
    go_wp2_with fail
    refine (h1 _ (HT.out.below hb1).sines (HT.out.below hb1).turns).mono ?_
    rintro e w2 ⟨rfl, hb2⟩
    go_wp2
    go_ret
    exact ⟨rfl, hb1.trans (hb2.mono hb1.size)⟩
/-- The same of texts that were laid just now. -/
theorem sumd_of (sch : Int) (xs : List ByteArray) (n cap : Nat) (hn : xs.length = n) (hcap : n ≤ cap) (hlen : (Lib.join (dats xs) [58]).length ≤ 1000) (hx : n ≤ 100) (W : World) (HT : Hid (Tabs W)) :
    Calls Tryz.prog 33 #[.int .i64 sch, .slice (some ⟨W.heap.size, 0, none⟩) n cap] (W.alloc (.cells (xs.map Value.string).toArray 9)) fun e w' => e = .returned (.string (bs (sumT sch (dats xs)))) ∧ Below W.heap.size W w' := by
  subst hn
  have hb1 : Below W.heap.size W (W.alloc (.cells (xs.map Value.string).toArray 9)) := (Below.refl _ _).alloc (Nat.le_refl _) _
  refine (sumd_any sch xs W.heap.size cap hcap hlen hx _ (HT.out.below hb1) (by simp) (fun j x hj => ?_)).mono ?_
  · rw [World.cell?_alloc_mark, Nat.zero_add]
    simp [hj]
  · rintro e w2 ⟨rfl, hb2⟩
    exact ⟨rfl, hb1.trans (hb2.mono (by simp))⟩
end Go.Proofs.YtgajhmmildbkfaaGreatDoor

/- The library's contracts that are leant on, laid at this program's numbers. -/
namespace Go.Proofs.YtgajhmmildbkfaaGreatDoor
open Go.Shelf Go.RowKit
def lays105_ren : Go.Shelf.Ren := ⟨fun | 105 => 35 | 212 => 60 | 99 => 61 | 165 => 50 | 166 => 51 | 170 => 62 | 169 => 52 | 263 => 91 | 264 => 92 | 206 => 93 | 240 => 75 | 241 => 76 | 276 => 102 | 277 => 103 | n => n, fun | 9 => 9 | 3 => 3 | 4 => 4 | 20 => 20 | 0 => 0 | 46 => 97 | 109 => 98 | 5 => 5 | 72 => 90 | 76 => 92 | 51 => 114 | 146 => 133 | 53 => 128 | 148 => 135 | 70 => 88 | 37 => 83 | 75 => 30 | 127 => 110 | 164 => 139 | 80 => 77 | n => n, fun | n => n⟩
theorem lays105 : Go.Proofs.Lays.n105 Tryz.prog lays105_ren := {
  mixed := by kernel_rfl
  f99 := Tryz.func61.trans (congrArg some (by kernel_rfl))
  f105 := Tryz.func35.trans (congrArg some (by kernel_rfl))
  f165 := Tryz.func50.trans (congrArg some (by kernel_rfl))
  f166 := Tryz.func51.trans (congrArg some (by kernel_rfl))
  f169 := Tryz.func52.trans (congrArg some (by kernel_rfl))
  f170 := Tryz.func62.trans (congrArg some (by kernel_rfl))
  f206 := Tryz.func93.trans (congrArg some (by kernel_rfl))
  f212 := Tryz.func60.trans (congrArg some (by kernel_rfl))
  f240 := Tryz.func75.trans (congrArg some (by kernel_rfl))
  f241 := Tryz.func76.trans (congrArg some (by kernel_rfl))
  f263 := Tryz.func91.trans (congrArg some (by kernel_rfl))
  f264 := Tryz.func92.trans (congrArg some (by kernel_rfl))
  f276 := Tryz.func102.trans (congrArg some (by kernel_rfl))
  f277 := Tryz.func103.trans (congrArg some (by kernel_rfl))
  t0 := Tryz.underlying0
  a0 := Tryz.isAgg0
  z0 := Tryz.sizeOf0
  v0 := Tryz.zeroValue0
  t3 := Tryz.underlying3
  a3 := Tryz.isAgg3
  z3 := Tryz.sizeOf3
  v3 := Tryz.zeroValue3
  t4 := Tryz.underlying4
  a4 := Tryz.isAgg4
  z4 := Tryz.sizeOf4
  v4 := Tryz.zeroValue4
  t5 := Tryz.underlying5
  a5 := Tryz.isAgg5
  z5 := Tryz.sizeOf5
  v5 := Tryz.zeroValue5
  t9 := Tryz.underlying9
  a9 := Tryz.isAgg9
  z9 := Tryz.sizeOf9
  v9 := Tryz.zeroValue9
  t20 := Tryz.underlying20
  a20 := Tryz.isAgg20
  z20 := Tryz.sizeOf20
  v20 := Tryz.zeroValue20
  t37 := Tryz.underlying83
  a37 := Tryz.isAgg83
  z37 := Tryz.sizeOf83
  v37 := Tryz.zeroValue83
  t46 := Tryz.underlying97
  a46 := Tryz.isAgg97
  z46 := Tryz.sizeOf97
  v46 := Tryz.zeroValue97
  t51 := Tryz.underlying114
  a51 := Tryz.isAgg114
  z51 := Tryz.sizeOf114
  v51 := Tryz.zeroValue114
  t53 := Tryz.underlying128
  a53 := Tryz.isAgg128
  z53 := Tryz.sizeOf128
  v53 := Tryz.zeroValue128
  t70 := Tryz.underlying88
  a70 := Tryz.isAgg88
  z70 := Tryz.sizeOf88
  v70 := Tryz.zeroValue88
  t72 := Tryz.underlying90
  a72 := Tryz.isAgg90
  z72 := Tryz.sizeOf90
  v72 := Tryz.zeroValue90
  t75 := Tryz.underlying30
  a75 := Tryz.isAgg30
  z75 := Tryz.sizeOf30
  v75 := Tryz.zeroValue30
  t76 := Tryz.underlying92
  a76 := Tryz.isAgg92
  z76 := Tryz.sizeOf92
  v76 := Tryz.zeroValue92
  t109 := Tryz.underlying98
  a109 := Tryz.isAgg98
  z109 := Tryz.sizeOf98
  v109 := Tryz.zeroValue98
  t127 := Tryz.underlying110
  a127 := Tryz.isAgg110
  z127 := Tryz.sizeOf110
  v127 := Tryz.zeroValue110
  t146 := Tryz.underlying133
  a146 := Tryz.isAgg133
  z146 := Tryz.sizeOf133
  v146 := Tryz.zeroValue133
  t148 := Tryz.underlying135
  a148 := Tryz.isAgg135
  z148 := Tryz.sizeOf135
  v148 := Tryz.zeroValue135
  t164 := Tryz.underlying139
  a164 := Tryz.isAgg139
  z164 := Tryz.sizeOf139
  v164 := Tryz.zeroValue139 }
theorem Builder_Extra_105 : Builder.Extra Tryz.prog lays105_ren := {
  sizeBuilder := by kernel_rfl
  liesBuilder := by kernel_rfl
  t5 := Tryz.underlying5
  a5 := Tryz.isAgg5
  z5 := Tryz.sizeOf5
  v5 := Tryz.zeroValue5
  infoByte := by kernel_rfl
  cellsByte := by kernel_rfl
  sizeByte := by kernel_rfl
  neB5 := by decide }
end Go.Proofs.YtgajhmmildbkfaaGreatDoor

/- A count, by the program. -/
namespace Go.Proofs.YtgajhmmildbkfaaGreatDoor
open Go.RowKit Go.Shelf

set_option maxHeartbeats 1000000 in
theorem fmt16_in (n : Nat) (hn : n < 9223372036854775808) (w : World) (HD : Hid (Bruijn w)) :
    Calls Tryz.prog 59 #[.int .i64 (n : Int), .int .i64 16] w fun e w' => e = .returned (.string (bs (hexD n))) ∧ Below w.heap.size w w' := by
  have hc : IntKind.u64.wrap (n : Int) = (n : Int) := by rw [IntKind.wrap_u64]; omega
  have hneg : ¬ (n : Int) < 0 := by omega
  go_enter Tryz.func59, Tryz.ntmps59
  go_wp2_with fail
  refine (fib_any n hn _ HD).mono ?_
  rintro e w1 ⟨rfl, hb1⟩
  go_wp2
  go_ret
  exact ⟨rfl, hb1⟩
theorem fmt16_any (n : Nat) (hn : n < 9223372036854775808) (w : World) (HD : Hid (Bruijn w)) :
    Calls Tryz.prog 34 #[.int .i64 (n : Int), .int .i64 16] w fun e w' => e = .returned (.string (bs (hexD n))) ∧ Below w.heap.size w w' := by
  go_enter Tryz.func34, Tryz.ntmps34
  go_wp2_with fail
  refine (fmt16_in n hn _ HD).mono ?_
  rintro e w1 ⟨rfl, hb1⟩
  go_wp2
  go_ret
  exact ⟨rfl, hb1⟩
theorem repeat_noughts (q : Nat) (hq : q ≤ 8) (w : World) : Calls Tryz.prog 35 #[.string ⟨#[48]⟩, .int .i64 (q : Int)] w fun e w' => e = .returned (.string (bs (List.replicate q 48))) ∧ Below w.heap.size w w' := by
  have h := Any.strings_Repeat lays105 Builder_Extra_105 ⟨#[48]⟩ q w (by omega) (by rw [show (⟨#[48]⟩ : ByteArray).size = 1 from rfl, Nat.one_mul]; omega)
  have e : (⟨(Lib.repeatL (⟨#[48]⟩ : ByteArray).data.toList q).toArray⟩ : ByteArray) = bs (List.replicate q 48) := by
    obtain rfl | rfl | rfl | rfl | rfl | rfl | rfl | rfl | rfl : q = 0 ∨ q = 1 ∨ q = 2 ∨ q = 3 ∨ q = 4 ∨ q = 5 ∨ q = 6 ∨ q = 7 ∨ q = 8 := by omega
    all_goals rfl
  rw [e] at h
  exact h
set_option maxHeartbeats 1000000 in
theorem count_any (n : Nat) (hn : n < 9223372036854775808) (w : World) (HD : Hid (Bruijn w)) :
    Calls Tryz.prog 12 #[.int .i64 (n : Int)] w fun e w' => e = .returned (.string (bs (countL n))) ∧ Below w.heap.size w w' := by
  have hl := hexD_len n
  have hl1 := hexD_pos n
  have hz : (bs (hexD n)).size = (hexD n).length := bs_size _
  have hrep := repeat_noughts (8 - (hexD n).length) (by omega)
  have hadd : bs (List.replicate (8 - (hexD n).length) 48) ++ bs (hexD n) = bs (countL n) := by
    unfold countL
    rw [bs_append]
  have hfit : ((bs (List.replicate (8 - (hexD n).length) 48)).size + (bs (hexD n)).size : Nat) ≤ 24 := by rw [bs_size, bs_size, List.length_replicate]; omega
  obtain ⟨H, hH⟩ : ∃ H, bs (hexD n) = H := ⟨_, rfl⟩
  have hf := fmt16_any n hn
  rw [hH] at hz hadd hfit hf
  generalize (hexD n).length = L at *
  obtain ⟨q, hq⟩ : ∃ q : Nat, 8 - L = q := ⟨_, rfl⟩
  rw [hq] at hrep hadd hfit
  have hmax : max (0 : Int) (8 - (L : Int)) = (q : Int) := by omega
  generalize bs (List.replicate q 48) = R at *
  go_enter Tryz.func12, Tryz.ntmps12
  go_wp2_with fail
  refine (hf _ HD).mono ?_
  rintro e w1 ⟨rfl, hb1⟩
  go_wp2_with fail
  refine (hrep _).mono ?_
  rintro e w2 ⟨rfl, hb2⟩
  go_wp2
  go_ret
  exact ⟨rfl, hb1.trans (hb2.mono hb1.size)⟩
end Go.Proofs.YtgajhmmildbkfaaGreatDoor

/- What proves a request, by the program. -/
namespace Go.Proofs.YtgajhmmildbkfaaGreatDoor
open Go.RowKit

/-- What is asked for, as a value. -/
def askW (a : PfA) (st : Bool) (dv : Value) : Value := .agg #[.int .i64 a.scheme, .string a.realm, .string a.nonce, .string a.opq, .bool a.sess, .string a.qop, .bool st, dv]
def askC (a : PfA) (st : Bool) (dv : Value) : Array Value := #[.int .i64 a.scheme, .string a.realm, .string a.nonce, .string a.opq, .bool a.sess, .string a.qop, .bool st, dv]
/-- What a proof holds while it goes on. -/
structure PfK (w W : World) (a : PfA) (r : PfR) : Prop where
  c0 : W.cell? ⟨w.heap.size, 0, none⟩ = some (.int .i64 a.scheme)
  c1 : W.cell? ⟨w.heap.size, 1, none⟩ = some (.string a.realm)
  c2 : W.cell? ⟨w.heap.size, 2, none⟩ = some (.string a.nonce)
  c4 : W.cell? ⟨w.heap.size, 4, none⟩ = some (.bool a.sess)
  c5 : W.cell? ⟨w.heap.size, 5, none⟩ = some (.string a.qop)
  d0 : W.cell? ⟨w.heap.size + 1, 0, none⟩ = some (.string r.user)
  d1 : W.cell? ⟨w.heap.size + 1, 1, none⟩ = some (.string r.pass)
  lt : w.heap.size + 1 < W.heap.size
  bel : Below w.heap.size w W
  tabs : Tabs W
theorem PfK.below {w W W' : World} {a : PfA} {r : PfR} (h : PfK w W a r) (hb : Below W.heap.size W W') : PfK w W' a r := by
  have hl := h.lt
  have k : ∀ (b i : Nat), b < W.heap.size → W'.cell? ⟨b, i, none⟩ = W.cell? ⟨b, i, none⟩ := fun b i hlt => hb.cell (p := ⟨b, i, none⟩) hlt
  exact ⟨by rw [k _ _ (by omega)]; exact h.c0, by rw [k _ _ (by omega)]; exact h.c1, by rw [k _ _ (by omega)]; exact h.c2, by rw [k _ _ (by omega)]; exact h.c4, by rw [k _ _ (by omega)]; exact h.c5, by rw [k _ _ (by omega)]; exact h.d0, by rw [k _ _ (by omega)]; exact h.d1, Nat.lt_of_lt_of_le hl hb.size, h.bel.trans (hb.mono h.bel.size), h.tabs.below hb⟩
theorem PfK.drew {w W : World} {a : PfA} {r : PfR} (h : PfK w W a r) : PfK w W.drew a r := h.below (Below.refl _ _).drew
theorem pfK_start (w : World) (a : PfA) (r : PfR) (st : Bool) (dv : Value) (HT : Hid (Tabs w)) : PfK w ((w.alloc (.cells #[.int .i64 a.scheme, .string a.realm, .string a.nonce, .string a.opq, .bool a.sess, .string a.qop, .bool st, dv] 24)).alloc (.cells #[.string r.user, .string r.pass] 26)) a r := by
  have hb1 : Below w.heap.size w (w.alloc (.cells #[.int .i64 a.scheme, .string a.realm, .string a.nonce, .string a.opq, .bool a.sess, .string a.qop, .bool st, dv] 24)) := (Below.refl _ _).alloc (Nat.le_refl _) _
  have hz : (w.alloc (.cells #[.int .i64 a.scheme, .string a.realm, .string a.nonce, .string a.opq, .bool a.sess, .string a.qop, .bool st, dv] 24)).heap.size = w.heap.size + 1 := by simp
  have hc : ∀ i, (w.alloc (.cells #[.int .i64 a.scheme, .string a.realm, .string a.nonce, .string a.opq, .bool a.sess, .string a.qop, .bool st, dv] 24)).cell? ⟨w.heap.size, i, none⟩ = #[.int .i64 a.scheme, .string a.realm, .string a.nonce, .string a.opq, .bool a.sess, .string a.qop, .bool st, dv][i]? := fun i => World.cell?_alloc_mark _ _ _ _ _
  generalize (w.alloc (.cells #[.int .i64 a.scheme, .string a.realm, .string a.nonce, .string a.opq, .bool a.sess, .string a.qop, .bool st, dv] 24)) = W1 at hb1 hz hc ⊢
  have hb2 : Below W1.heap.size W1 (W1.alloc (.cells #[.string r.user, .string r.pass] 26)) := (Below.refl _ _).alloc (Nat.le_refl _) _
  have hd : ∀ i, (W1.alloc (.cells #[.string r.user, .string r.pass] 26)).cell? ⟨W1.heap.size, i, none⟩ = #[.string r.user, .string r.pass][i]? := fun i => World.cell?_alloc_mark _ _ _ _ _
  rw [hz] at hd
  have k : ∀ (i : Nat), (W1.alloc (.cells #[.string r.user, .string r.pass] 26)).cell? ⟨w.heap.size, i, none⟩ = W1.cell? ⟨w.heap.size, i, none⟩ := fun i => hb2.cell (p := ⟨w.heap.size, i, none⟩) (by show w.heap.size < _; omega)
  exact ⟨by rw [k, hc]; rfl, by rw [k, hc]; rfl, by rw [k, hc]; rfl, by rw [k, hc]; rfl, by rw [k, hc]; rfl, by rw [hd]; rfl, by rw [hd]; rfl, by simp [hz], hb1.trans (hb2.mono hb1.size), (HT.out.below hb1).below hb2⟩
/-- Texts that are not too long to be summed. -/
def Fits (a : PfA) (r : PfR) : Prop := a.realm.size + a.nonce.size + a.qop.size + r.user.size + r.pass.size + r.method.size + r.target.size + r.body.size + r.cnonce.size ≤ 500
theorem sumL_len (sch : Int) (l : List UInt8) : (sumL sch l).length ≤ 64 := by
  unfold sumL
  rw [hexL_length]
  split
  · obtain ⟨a, b, c, d, e, f, g, h, hx⟩ := eightN (shaBlocks_length (padL false l) ((l.length + 72) / 64))
    unfold shaL
    rw [hx]
    simp [be4]
  · unfold md5L
    generalize md5Blocks _ _ = v
    simp [Four.bytes, le4]
end Go.Proofs.YtgajhmmildbkfaaGreatDoor

/- What proves a request, by the program: the walk. -/
namespace Go.Proofs.YtgajhmmildbkfaaGreatDoor
open Go.RowKit

theorem lenA (s : ByteArray) : s.data.toList.length = s.size := Array.length_toList
theorem sumT_len (sch : Int) (l : List (List UInt8)) : (sumT sch l).length ≤ 64 := sumL_len _ _
theorem bsumT (sch : Int) (l : List (List UInt8)) : (bs (sumT sch l)).data.toList = sumT sch l := bs_data _
/-- A sum of three texts. -/
theorem sum3 (sch : Int) (x y z : ByteArray) (hz : x.size + y.size + z.size ≤ 900) (W : World) (HT : Hid (Tabs W)) (b : Nat) (hb : b = W.heap.size) :
    Calls Tryz.prog 33 #[.int .i64 sch, .slice (some ⟨b, 0, none⟩) 3 3] (W.alloc (.cells #[.string x, .string y, .string z] 9)) fun e w' => e = .returned (.string (bs (sumT sch [x.data.toList, y.data.toList, z.data.toList]))) ∧ Below W.heap.size W w' := by
  subst hb
  exact sumd_of sch [x, y, z] 3 3 rfl (by omega) (by simp only [dats, List.map_cons, List.map_nil, join_cons, join_one, List.length_append, List.length_cons, List.length_nil, lenA]; omega) (by omega) W HT
theorem sum2 (sch : Int) (x y : ByteArray) (hz : x.size + y.size ≤ 900) (W : World) (HT : Hid (Tabs W)) (b : Nat) (hb : b = W.heap.size) :
    Calls Tryz.prog 33 #[.int .i64 sch, .slice (some ⟨b, 0, none⟩) 2 2] (W.alloc (.cells #[.string x, .string y] 9)) fun e w' => e = .returned (.string (bs (sumT sch [x.data.toList, y.data.toList]))) ∧ Below W.heap.size W w' := by
  subst hb
  exact sumd_of sch [x, y] 2 2 rfl (by omega) (by simp only [dats, List.map_cons, List.map_nil, join_cons, join_one, List.length_append, List.length_cons, List.length_nil, lenA]; omega) (by omega) W HT
theorem sum1 (sch : Int) (x : ByteArray) (hz : x.size ≤ 900) (W : World) (HT : Hid (Tabs W)) (b : Nat) (hb : b = W.heap.size) :
    Calls Tryz.prog 33 #[.int .i64 sch, .slice (some ⟨b, 0, none⟩) 1 1] (W.alloc (.cells #[.string x] 9)) fun e w' => e = .returned (.string (bs (sumT sch [x.data.toList]))) ∧ Below W.heap.size W w' := by
  subst hb
  exact sumd_of sch [x] 1 1 rfl (by omega) (by simp only [dats, List.map_cons, List.map_nil, join_one, lenA]; omega) (by omega) W HT
theorem sum6 (sch : Int) (x y z u v s : ByteArray) (hz : x.size + y.size + z.size + u.size + v.size + s.size ≤ 900) (W : World) (HT : Hid (Tabs W)) (b : Nat) (hb : b = W.heap.size) :
    Calls Tryz.prog 33 #[.int .i64 sch, .slice (some ⟨b, 0, none⟩) 6 6] (W.alloc (.cells #[.string x, .string y, .string z, .string u, .string v, .string s] 9)) fun e w' => e = .returned (.string (bs (sumT sch [x.data.toList, y.data.toList, z.data.toList, u.data.toList, v.data.toList, s.data.toList]))) ∧ Below W.heap.size W w' := by
  subst hb
  exact sumd_of sch [x, y, z, u, v, s] 6 6 rfl (by omega) (by simp only [dats, List.map_cons, List.map_nil, join_cons, join_one, List.length_append, List.length_cons, List.length_nil, lenA]; omega) (by omega) W HT
theorem eq_int (q : ByteArray) (h : q.data.toList = qInt) : q = ⟨#[97, 117, 116, 104, 45, 105, 110, 116]⟩ := by rw [← bs_self q, h]; rfl
theorem not_list (q : ByteArray) (l : List UInt8) (h : q.data.toList ≠ l) : (q.toList == l) = false := by
  rw [ByteArray.toList_eq]
  exact beq_eq_false_iff_ne.2 h
theorem not_empty (q : ByteArray) (h : q.data.toList ≠ []) : q.toList.isEmpty = false := by
  rw [ByteArray.toList_eq]
  cases hq : q.data.toList with
  | nil => exact absurd hq h
  | cons c t => rfl
theorem PfK.held {w W : World} {a : PfA} {r : PfR} (h : PfK w W a r) : W.cell? ⟨w.heap.size, 0, none⟩ = some (.int .i64 a.scheme) ∧ W.cell? ⟨w.heap.size, 2, none⟩ = some (.string a.nonce) ∧ W.cell? ⟨w.heap.size, 5, none⟩ = some (.string a.qop) ∧ Hid (PfK w W a r) := ⟨h.c0, h.c2, h.c5, h⟩
theorem heldA {w W : World} {a : PfA} {r : PfR} (h : W.cell? ⟨w.heap.size, 0, none⟩ = some (.int .i64 a.scheme) ∧ W.cell? ⟨w.heap.size, 2, none⟩ = some (.string a.nonce) ∧ W.cell? ⟨w.heap.size, 5, none⟩ = some (.string a.qop) ∧ Hid (PfK w W a r)) (o : Obj) : (W.alloc o).cell? ⟨w.heap.size, 0, none⟩ = some (.int .i64 a.scheme) ∧ (W.alloc o).cell? ⟨w.heap.size, 2, none⟩ = some (.string a.nonce) ∧ (W.alloc o).cell? ⟨w.heap.size, 5, none⟩ = some (.string a.qop) ∧ Hid (PfK w ((W.alloc o)) a r) := (h.2.2.2.out.below ((Below.refl _ _).alloc (Nat.le_refl _) _)).held
theorem PfK.heldI {w W : World} {a : PfA} {r : PfR} (H : Hid (a.qop = ⟨#[97, 117, 116, 104, 45, 105, 110, 116]⟩)) (h : PfK w W a r) : W.cell? ⟨w.heap.size, 0, none⟩ = some (.int .i64 a.scheme) ∧ W.cell? ⟨w.heap.size, 2, none⟩ = some (.string a.nonce) ∧ W.cell? ⟨w.heap.size, 5, none⟩ = some (.string ⟨#[97, 117, 116, 104, 45, 105, 110, 116]⟩) ∧ Hid (PfK w W a r) := ⟨h.c0, h.c2, by rw [← H.out]; exact h.c5, h⟩
theorem heldI {w W : World} {a : PfA} {r : PfR} (H : Hid (a.qop = ⟨#[97, 117, 116, 104, 45, 105, 110, 116]⟩)) (h : W.cell? ⟨w.heap.size, 0, none⟩ = some (.int .i64 a.scheme) ∧ W.cell? ⟨w.heap.size, 2, none⟩ = some (.string a.nonce) ∧ W.cell? ⟨w.heap.size, 5, none⟩ = some (.string ⟨#[97, 117, 116, 104, 45, 105, 110, 116]⟩) ∧ Hid (PfK w W a r)) (o : Obj) : (W.alloc o).cell? ⟨w.heap.size, 0, none⟩ = some (.int .i64 a.scheme) ∧ (W.alloc o).cell? ⟨w.heap.size, 2, none⟩ = some (.string a.nonce) ∧ (W.alloc o).cell? ⟨w.heap.size, 5, none⟩ = some (.string ⟨#[97, 117, 116, 104, 45, 105, 110, 116]⟩) ∧ Hid (PfK w (W.alloc o) a r) := PfK.heldI H (h.2.2.2.out.below ((Below.refl _ _).alloc (Nat.le_refl _) _))
theorem heldD {w W : World} {a : PfA} {r : PfR} (H : Hid (a.qop = ⟨#[97, 117, 116, 104, 45, 105, 110, 116]⟩)) (h : W.cell? ⟨w.heap.size, 0, none⟩ = some (.int .i64 a.scheme) ∧ W.cell? ⟨w.heap.size, 2, none⟩ = some (.string a.nonce) ∧ W.cell? ⟨w.heap.size, 5, none⟩ = some (.string ⟨#[97, 117, 116, 104, 45, 105, 110, 116]⟩) ∧ Hid (PfK w W a r)) (o : Obj) : (W.alloc o).drew.cell? ⟨w.heap.size, 0, none⟩ = some (.int .i64 a.scheme) ∧ (W.alloc o).drew.cell? ⟨w.heap.size, 2, none⟩ = some (.string a.nonce) ∧ (W.alloc o).drew.cell? ⟨w.heap.size, 5, none⟩ = some (.string ⟨#[97, 117, 116, 104, 45, 105, 110, 116]⟩) ∧ Hid (PfK w (W.alloc o).drew a r) := PfK.heldI H (h.2.2.2.out.below (((Below.refl _ _).alloc (Nat.le_refl _) _).drew))
theorem drew_alloc (W : World) (o : Obj) : (W.alloc o).drew = W.drew.alloc o := rfl
set_option maxRecDepth 100000 in
set_option maxHeartbeats 4000000 in
theorem resp_plain_no (a : PfA) (r : PfR) (st : Bool) (dv : Value) (n : Nat) (_hn : n < 9223372036854775808) (hf : Fits a r) (hs : a.sess = false) (hq : a.qop.data.toList = []) (w : World) (HT : Hid (Tabs w)) :
    Calls Tryz.prog 11 #[.agg #[.int .i64 a.scheme, .string a.realm, .string a.nonce, .string a.opq, .bool a.sess, .string a.qop, .bool st, dv], .agg #[.string r.user, .string r.pass], .string r.method, .string r.target, .string r.body, .string r.cnonce, .int .i64 (n : Int)] w fun e w' => e = .returned (.string (bs (respL a r n))) ∧ Below w.heap.size w w' := by
  have HK := pfK_start w a r st dv HT
  have HQE : Hid (a.qop = ⟨#[]⟩) := by show _ = _; rw [← bs_self a.qop, hq]; rfl
  have HR : Hid (respL a r n = sumT a.scheme [whoL a r, a.nonce.data.toList, sumT a.scheme [r.method.data.toList, r.target.data.toList]]) := by
    show _ = _
    unfold respL oneL twoL
    have h0 : ¬ ([] : List UInt8) = qInt := by decide
    rw [if_pos hq, hs, hq, if_neg h0]
    rfl
  unfold Fits at hf
  obtain ⟨X, HX⟩ : ∃ X, Hid (bs (whoL a r) = X) := ⟨_, rfl⟩
  have hxz : X.size ≤ 64 := by rw [← HX.out, bs_size]; exact sumT_len _ _
  have h1 : ∀ W, Hid (Tabs W) → ∀ b, b = W.heap.size → Calls Tryz.prog 33 #[.int .i64 a.scheme, .slice (some ⟨b, 0, none⟩) 3 3] (W.alloc (.cells #[.string r.user, .string a.realm, .string r.pass] 9)) fun e w' => e = .returned (.string X) ∧ Below W.heap.size W w' := fun W HT b hb => by rw [← HX.out]; exact sum3 a.scheme r.user a.realm r.pass (by omega) W HT b hb
  obtain ⟨Y, HY⟩ : ∃ Y, Hid (bs (sumT a.scheme [r.method.data.toList, r.target.data.toList]) = Y) := ⟨_, rfl⟩
  have hyz : Y.size ≤ 64 := by rw [← HY.out, bs_size]; exact sumT_len _ _
  have h2 : ∀ W, Hid (Tabs W) → ∀ b, b = W.heap.size → Calls Tryz.prog 33 #[.int .i64 a.scheme, .slice (some ⟨b, 0, none⟩) 2 2] (W.alloc (.cells #[.string r.method, .string r.target] 9)) fun e w' => e = .returned (.string Y) ∧ Below W.heap.size W w' := fun W HT b hb => by rw [← HY.out]; exact sum2 a.scheme r.method r.target (by omega) W HT b hb
  have HE : Hid (bs (sumT a.scheme [X.data.toList, a.nonce.data.toList, Y.data.toList]) = bs (respL a r n)) := by
    show _ = _
    rw [HR.out, ← HX.out, bs_data, ← HY.out, bs_data]
  have h3 : ∀ W, Hid (Tabs W) → ∀ b, b = W.heap.size → Calls Tryz.prog 33 #[.int .i64 a.scheme, .slice (some ⟨b, 0, none⟩) 3 3] (W.alloc (.cells #[.string X, .string a.nonce, .string Y] 9)) fun e w' => e = .returned (.string (bs (respL a r n))) ∧ Below W.heap.size W w' := fun W HT b hb => by rw [← HE.out]; exact sum3 a.scheme X a.nonce Y (by omega) W HT b hb
  have HK0 : Hid (PfK w _ a r) := HK
  clear HK hq
  rw [hs]
  rw [hs] at HK0
  obtain ⟨c0, c1, c2, c4, c5, d0, d1, _, _, _⟩ := HK0.out
  rw [HQE.out] at c5
  rw [hs] at c4
  go_enter Tryz.func11, Tryz.ntmps11
  go_wp2_with fail
  refine (h1 _ HK0.out.tabs _ (by simp)).mono ?_
  rintro e w1 ⟨rfl, hb1⟩
  have HK1 : Hid (PfK w w1 a r) := HK0.out.below hb1
  clear hb1 c0 c1 c2 c4 c5 d0 d1
  obtain ⟨c0, c1, c2, c4, c5, d0, d1, _, _, _⟩ := HK1.out
  rw [HQE.out] at c5
  rw [hs] at c4
  go_wp2_with fail
  refine (h2 _ HK1.out.tabs _ (by simp)).mono ?_
  rintro e w2 ⟨rfl, hb2⟩
  have HK2 : Hid (PfK w w2 a r) := HK1.out.below hb2
  clear hb2 c0 c1 c2 c4 c5 d0 d1
  obtain ⟨c0, c1, c2, c4, c5, d0, d1, _, _, _⟩ := HK2.out
  rw [HQE.out] at c5
  rw [hs] at c4
  go_wp2_with fail
  refine (h3 _ HK2.out.tabs _ (by simp)).mono ?_
  rintro e w3 ⟨rfl, hb3⟩
  have HK3 : Hid (PfK w w3 a r) := HK2.out.below hb3
  clear hb3 c0 c1 c2 c4 c5 d0 d1
  go_wp2
  go_ret
  exact ⟨rfl, HK3.out.bel⟩
set_option maxRecDepth 100000 in
set_option maxHeartbeats 4000000 in
theorem resp_full_no (a : PfA) (r : PfR) (st : Bool) (dv : Value) (n : Nat) (hn : n < 9223372036854775808) (hf : Fits a r) (hs : a.sess = false) (hq : a.qop.data.toList ≠ []) (hi : a.qop.data.toList ≠ qInt) (w : World) (HT : Hid (Tabs w)) :
    Calls Tryz.prog 11 #[.agg #[.int .i64 a.scheme, .string a.realm, .string a.nonce, .string a.opq, .bool a.sess, .string a.qop, .bool st, dv], .agg #[.string r.user, .string r.pass], .string r.method, .string r.target, .string r.body, .string r.cnonce, .int .i64 (n : Int)] w fun e w' => e = .returned (.string (bs (respL a r n))) ∧ Below w.heap.size w w' := by
  have HK := pfK_start w a r st dv HT
  have hq1 := not_list a.qop _ hi
  have hq2 := not_empty a.qop hq
  unfold qInt at hq1
  have HR : Hid (respL a r n = sumT a.scheme [whoL a r, a.nonce.data.toList, countL n, r.cnonce.data.toList, a.qop.data.toList, sumT a.scheme [r.method.data.toList, r.target.data.toList]]) := by
    show _ = _
    unfold respL oneL twoL
    rw [if_neg hq, hs, if_neg hi]
    rfl
  unfold Fits at hf
  obtain ⟨X, HX⟩ : ∃ X, Hid (bs (whoL a r) = X) := ⟨_, rfl⟩
  have hxz : X.size ≤ 64 := by rw [← HX.out, bs_size]; exact sumT_len _ _
  have h1 : ∀ W, Hid (Tabs W) → ∀ b, b = W.heap.size → Calls Tryz.prog 33 #[.int .i64 a.scheme, .slice (some ⟨b, 0, none⟩) 3 3] (W.alloc (.cells #[.string r.user, .string a.realm, .string r.pass] 9)) fun e w' => e = .returned (.string X) ∧ Below W.heap.size W w' := fun W HT b hb => by rw [← HX.out]; exact sum3 a.scheme r.user a.realm r.pass (by omega) W HT b hb
  obtain ⟨Y, HY⟩ : ∃ Y, Hid (bs (sumT a.scheme [r.method.data.toList, r.target.data.toList]) = Y) := ⟨_, rfl⟩
  have hyz : Y.size ≤ 64 := by rw [← HY.out, bs_size]; exact sumT_len _ _
  have h2 : ∀ W, Hid (Tabs W) → ∀ b, b = W.heap.size → Calls Tryz.prog 33 #[.int .i64 a.scheme, .slice (some ⟨b, 0, none⟩) 2 2] (W.alloc (.cells #[.string r.method, .string r.target] 9)) fun e w' => e = .returned (.string Y) ∧ Below W.heap.size W w' := fun W HT b hb => by rw [← HY.out]; exact sum2 a.scheme r.method r.target (by omega) W HT b hb
  obtain ⟨C, HC⟩ : ∃ C, Hid (bs (countL n) = C) := ⟨_, rfl⟩
  have hcz : C.size ≤ 16 := by rw [← HC.out, bs_size]; exact countL_len _
  have h4 : ∀ w, Hid (Bruijn w) → Calls Tryz.prog 12 #[.int .i64 (n : Int)] w fun e w' => e = .returned (.string C) ∧ Below w.heap.size w w' := fun w HD => by rw [← HC.out]; exact count_any n hn w HD
  have HE : Hid (bs (sumT a.scheme [X.data.toList, a.nonce.data.toList, C.data.toList, r.cnonce.data.toList, a.qop.data.toList, Y.data.toList]) = bs (respL a r n)) := by
    show _ = _
    rw [HR.out, ← HX.out, bs_data, ← HY.out, bs_data, ← HC.out, bs_data]
  have h3 : ∀ W, Hid (Tabs W) → ∀ b, b = W.heap.size → Calls Tryz.prog 33 #[.int .i64 a.scheme, .slice (some ⟨b, 0, none⟩) 6 6] (W.alloc (.cells #[.string X, .string a.nonce, .string C, .string r.cnonce, .string a.qop, .string Y] 9)) fun e w' => e = .returned (.string (bs (respL a r n))) ∧ Below W.heap.size W w' := fun W HT b hb => by rw [← HE.out]; exact sum6 a.scheme X a.nonce C r.cnonce a.qop Y (by omega) W HT b hb
  have HK0 : Hid (PfK w _ a r) := HK
  clear HK hq hi
  rw [hs]
  rw [hs] at HK0
  obtain ⟨c0, c1, c2, c4, c5, d0, d1, _, _, _⟩ := HK0.out
  rw [hs] at c4
  go_enter Tryz.func11, Tryz.ntmps11
  go_wp2_with fail
  refine (h1 _ HK0.out.tabs _ (by simp)).mono ?_
  rintro e w1 ⟨rfl, hb1⟩
  have HK1 : Hid (PfK w w1 a r) := HK0.out.below hb1
  clear hb1 c0 c1 c2 c4 c5 d0 d1
  obtain ⟨c0, c1, c2, c4, c5, d0, d1, _, _, _⟩ := HK1.out
  rw [hs] at c4
  go_wp2_with fail
  refine (h2 _ HK1.out.tabs _ (by simp)).mono ?_
  rintro e w2 ⟨rfl, hb2⟩
  have HK2 : Hid (PfK w w2 a r) := HK1.out.below hb2
  clear hb2 c0 c1 c2 c4 c5 d0 d1
  obtain ⟨c0, c1, c2, c4, c5, d0, d1, _, _, _⟩ := HK2.out
  rw [hs] at c4
  have hQ : w2.drew.cell? ⟨w.heap.size, 0, none⟩ = some (.int .i64 a.scheme) ∧ w2.drew.cell? ⟨w.heap.size, 2, none⟩ = some (.string a.nonce) ∧ w2.drew.cell? ⟨w.heap.size, 5, none⟩ = some (.string a.qop) ∧ Hid (PfK w (w2.drew) a r) := (HK2.out.drew).held
  go_wp2
  go_region_held3 (fun W => W.cell? ⟨w.heap.size, 0, none⟩ = some (.int .i64 a.scheme) ∧ W.cell? ⟨w.heap.size, 2, none⟩ = some (.string a.nonce) ∧ W.cell? ⟨w.heap.size, 5, none⟩ = some (.string a.qop) ∧ Hid (PfK w W a r)) (first | (with_reducible assumption) | (refine heldA ?_ _; with_reducible assumption) | (refine heldA ?_ _; with_reducible assumption)) (first
    | (go_at_call 12; refine (h4 _ HK2.out.drew.tabs.bruijn).mono ?_; rintro e wc ⟨rfl, hbc⟩; have hKc := HK2.out.drew.below hbc; have hQc : wc.cell? ⟨w.heap.size, 0, none⟩ = some (.int .i64 a.scheme) ∧ wc.cell? ⟨w.heap.size, 2, none⟩ = some (.string a.nonce) ∧ wc.cell? ⟨w.heap.size, 5, none⟩ = some (.string a.qop) ∧ Hid (PfK w (wc) a r) := (hKc).held)
    | (go_at_call 33; refine (h3 _ hKc.tabs _ rfl).mono ?_; rintro e wd ⟨rfl, hbd⟩; have hKd := hKc.below hbd; have hQd : wd.cell? ⟨w.heap.size, 0, none⟩ = some (.int .i64 a.scheme) ∧ wd.cell? ⟨w.heap.size, 2, none⟩ = some (.string a.nonce) ∧ wd.cell? ⟨w.heap.size, 5, none⟩ = some (.string a.qop) ∧ Hid (PfK w (wd) a r) := (hKd).held))
  go_wp2
  go_ret
  exact ⟨rfl, hKd.bel⟩
set_option maxRecDepth 100000 in
set_option maxHeartbeats 4000000 in
theorem resp_plain_sess (a : PfA) (r : PfR) (st : Bool) (dv : Value) (n : Nat) (_hn : n < 9223372036854775808) (hf : Fits a r) (hs : a.sess = true) (hq : a.qop.data.toList = []) (w : World) (HT : Hid (Tabs w)) :
    Calls Tryz.prog 11 #[.agg #[.int .i64 a.scheme, .string a.realm, .string a.nonce, .string a.opq, .bool a.sess, .string a.qop, .bool st, dv], .agg #[.string r.user, .string r.pass], .string r.method, .string r.target, .string r.body, .string r.cnonce, .int .i64 (n : Int)] w fun e w' => e = .returned (.string (bs (respL a r n))) ∧ Below w.heap.size w w' := by
  have HK := pfK_start w a r st dv HT
  have HQE : Hid (a.qop = ⟨#[]⟩) := by show _ = _; rw [← bs_self a.qop, hq]; rfl
  have HR : Hid (respL a r n = sumT a.scheme [sumT a.scheme [whoL a r, a.nonce.data.toList, r.cnonce.data.toList], a.nonce.data.toList, sumT a.scheme [r.method.data.toList, r.target.data.toList]]) := by
    show _ = _
    unfold respL oneL twoL
    have h0 : ¬ ([] : List UInt8) = qInt := by decide
    rw [if_pos hq, hs, hq, if_neg h0]
    rfl
  unfold Fits at hf
  obtain ⟨X, HX⟩ : ∃ X, Hid (bs (whoL a r) = X) := ⟨_, rfl⟩
  have hxz : X.size ≤ 64 := by rw [← HX.out, bs_size]; exact sumT_len _ _
  have h1 : ∀ W, Hid (Tabs W) → ∀ b, b = W.heap.size → Calls Tryz.prog 33 #[.int .i64 a.scheme, .slice (some ⟨b, 0, none⟩) 3 3] (W.alloc (.cells #[.string r.user, .string a.realm, .string r.pass] 9)) fun e w' => e = .returned (.string X) ∧ Below W.heap.size W w' := fun W HT b hb => by rw [← HX.out]; exact sum3 a.scheme r.user a.realm r.pass (by omega) W HT b hb
  obtain ⟨Z, HZ⟩ : ∃ Z, Hid (bs (sumT a.scheme [X.data.toList, a.nonce.data.toList, r.cnonce.data.toList]) = Z) := ⟨_, rfl⟩
  have hzz : Z.size ≤ 64 := by rw [← HZ.out, bs_size]; exact sumT_len _ _
  have hS : ∀ W, Hid (Tabs W) → ∀ b, b = W.heap.size → Calls Tryz.prog 33 #[.int .i64 a.scheme, .slice (some ⟨b, 0, none⟩) 3 3] (W.alloc (.cells #[.string X, .string a.nonce, .string r.cnonce] 9)) fun e w' => e = .returned (.string Z) ∧ Below W.heap.size W w' := fun W HT b hb => by rw [← HZ.out]; exact sum3 a.scheme X a.nonce r.cnonce (by omega) W HT b hb
  obtain ⟨Y, HY⟩ : ∃ Y, Hid (bs (sumT a.scheme [r.method.data.toList, r.target.data.toList]) = Y) := ⟨_, rfl⟩
  have hyz : Y.size ≤ 64 := by rw [← HY.out, bs_size]; exact sumT_len _ _
  have h2 : ∀ W, Hid (Tabs W) → ∀ b, b = W.heap.size → Calls Tryz.prog 33 #[.int .i64 a.scheme, .slice (some ⟨b, 0, none⟩) 2 2] (W.alloc (.cells #[.string r.method, .string r.target] 9)) fun e w' => e = .returned (.string Y) ∧ Below W.heap.size W w' := fun W HT b hb => by rw [← HY.out]; exact sum2 a.scheme r.method r.target (by omega) W HT b hb
  have HE : Hid (bs (sumT a.scheme [Z.data.toList, a.nonce.data.toList, Y.data.toList]) = bs (respL a r n)) := by
    show _ = _
    rw [HR.out, ← HZ.out, bs_data, ← HX.out, bs_data, ← HY.out, bs_data]
  have h3 : ∀ W, Hid (Tabs W) → ∀ b, b = W.heap.size → Calls Tryz.prog 33 #[.int .i64 a.scheme, .slice (some ⟨b, 0, none⟩) 3 3] (W.alloc (.cells #[.string Z, .string a.nonce, .string Y] 9)) fun e w' => e = .returned (.string (bs (respL a r n))) ∧ Below W.heap.size W w' := fun W HT b hb => by rw [← HE.out]; exact sum3 a.scheme Z a.nonce Y (by omega) W HT b hb
  have HK0 : Hid (PfK w _ a r) := HK
  clear HK hq
  rw [hs]
  rw [hs] at HK0
  obtain ⟨c0, c1, c2, c4, c5, d0, d1, _, _, _⟩ := HK0.out
  rw [HQE.out] at c5
  rw [hs] at c4
  go_enter Tryz.func11, Tryz.ntmps11
  go_wp2_with fail
  refine (h1 _ HK0.out.tabs _ (by simp)).mono ?_
  rintro e w1 ⟨rfl, hb1⟩
  have HK1 : Hid (PfK w w1 a r) := HK0.out.below hb1
  clear hb1 c0 c1 c2 c4 c5 d0 d1
  obtain ⟨c0, c1, c2, c4, c5, d0, d1, _, _, _⟩ := HK1.out
  rw [HQE.out] at c5
  rw [hs] at c4
  go_wp2_with fail
  refine (hS _ HK1.out.tabs _ (by simp)).mono ?_
  rintro e w2 ⟨rfl, hb2⟩
  have HK2 : Hid (PfK w w2 a r) := HK1.out.below hb2
  clear hb2 c0 c1 c2 c4 c5 d0 d1
  obtain ⟨c0, c1, c2, c4, c5, d0, d1, _, _, _⟩ := HK2.out
  rw [HQE.out] at c5
  rw [hs] at c4
  go_wp2_with fail
  refine (h2 _ HK2.out.tabs _ (by simp)).mono ?_
  rintro e w3 ⟨rfl, hb3⟩
  have HK3 : Hid (PfK w w3 a r) := HK2.out.below hb3
  clear hb3 c0 c1 c2 c4 c5 d0 d1
  obtain ⟨c0, c1, c2, c4, c5, d0, d1, _, _, _⟩ := HK3.out
  rw [HQE.out] at c5
  rw [hs] at c4
  go_wp2_with fail
  refine (h3 _ HK3.out.tabs _ (by simp)).mono ?_
  rintro e w4 ⟨rfl, hb4⟩
  have HK4 : Hid (PfK w w4 a r) := HK3.out.below hb4
  clear hb4 c0 c1 c2 c4 c5 d0 d1
  go_wp2
  go_ret
  exact ⟨rfl, HK4.out.bel⟩
set_option maxRecDepth 100000 in
set_option maxHeartbeats 4000000 in
theorem resp_full_sess (a : PfA) (r : PfR) (st : Bool) (dv : Value) (n : Nat) (hn : n < 9223372036854775808) (hf : Fits a r) (hs : a.sess = true) (hq : a.qop.data.toList ≠ []) (hi : a.qop.data.toList ≠ qInt) (w : World) (HT : Hid (Tabs w)) :
    Calls Tryz.prog 11 #[.agg #[.int .i64 a.scheme, .string a.realm, .string a.nonce, .string a.opq, .bool a.sess, .string a.qop, .bool st, dv], .agg #[.string r.user, .string r.pass], .string r.method, .string r.target, .string r.body, .string r.cnonce, .int .i64 (n : Int)] w fun e w' => e = .returned (.string (bs (respL a r n))) ∧ Below w.heap.size w w' := by
  have HK := pfK_start w a r st dv HT
  have hq1 := not_list a.qop _ hi
  have hq2 := not_empty a.qop hq
  unfold qInt at hq1
  have HR : Hid (respL a r n = sumT a.scheme [sumT a.scheme [whoL a r, a.nonce.data.toList, r.cnonce.data.toList], a.nonce.data.toList, countL n, r.cnonce.data.toList, a.qop.data.toList, sumT a.scheme [r.method.data.toList, r.target.data.toList]]) := by
    show _ = _
    unfold respL oneL twoL
    rw [if_neg hq, hs, if_neg hi]
    rfl
  unfold Fits at hf
  obtain ⟨X, HX⟩ : ∃ X, Hid (bs (whoL a r) = X) := ⟨_, rfl⟩
  have hxz : X.size ≤ 64 := by rw [← HX.out, bs_size]; exact sumT_len _ _
  have h1 : ∀ W, Hid (Tabs W) → ∀ b, b = W.heap.size → Calls Tryz.prog 33 #[.int .i64 a.scheme, .slice (some ⟨b, 0, none⟩) 3 3] (W.alloc (.cells #[.string r.user, .string a.realm, .string r.pass] 9)) fun e w' => e = .returned (.string X) ∧ Below W.heap.size W w' := fun W HT b hb => by rw [← HX.out]; exact sum3 a.scheme r.user a.realm r.pass (by omega) W HT b hb
  obtain ⟨Z, HZ⟩ : ∃ Z, Hid (bs (sumT a.scheme [X.data.toList, a.nonce.data.toList, r.cnonce.data.toList]) = Z) := ⟨_, rfl⟩
  have hzz : Z.size ≤ 64 := by rw [← HZ.out, bs_size]; exact sumT_len _ _
  have hS : ∀ W, Hid (Tabs W) → ∀ b, b = W.heap.size → Calls Tryz.prog 33 #[.int .i64 a.scheme, .slice (some ⟨b, 0, none⟩) 3 3] (W.alloc (.cells #[.string X, .string a.nonce, .string r.cnonce] 9)) fun e w' => e = .returned (.string Z) ∧ Below W.heap.size W w' := fun W HT b hb => by rw [← HZ.out]; exact sum3 a.scheme X a.nonce r.cnonce (by omega) W HT b hb
  obtain ⟨Y, HY⟩ : ∃ Y, Hid (bs (sumT a.scheme [r.method.data.toList, r.target.data.toList]) = Y) := ⟨_, rfl⟩
  have hyz : Y.size ≤ 64 := by rw [← HY.out, bs_size]; exact sumT_len _ _
  have h2 : ∀ W, Hid (Tabs W) → ∀ b, b = W.heap.size → Calls Tryz.prog 33 #[.int .i64 a.scheme, .slice (some ⟨b, 0, none⟩) 2 2] (W.alloc (.cells #[.string r.method, .string r.target] 9)) fun e w' => e = .returned (.string Y) ∧ Below W.heap.size W w' := fun W HT b hb => by rw [← HY.out]; exact sum2 a.scheme r.method r.target (by omega) W HT b hb
  obtain ⟨C, HC⟩ : ∃ C, Hid (bs (countL n) = C) := ⟨_, rfl⟩
  have hcz : C.size ≤ 16 := by rw [← HC.out, bs_size]; exact countL_len _
  have h4 : ∀ w, Hid (Bruijn w) → Calls Tryz.prog 12 #[.int .i64 (n : Int)] w fun e w' => e = .returned (.string C) ∧ Below w.heap.size w w' := fun w HD => by rw [← HC.out]; exact count_any n hn w HD
  have HE : Hid (bs (sumT a.scheme [Z.data.toList, a.nonce.data.toList, C.data.toList, r.cnonce.data.toList, a.qop.data.toList, Y.data.toList]) = bs (respL a r n)) := by
    show _ = _
    rw [HR.out, ← HZ.out, bs_data, ← HX.out, bs_data, ← HY.out, bs_data, ← HC.out, bs_data]
  have h3 : ∀ W, Hid (Tabs W) → ∀ b, b = W.heap.size → Calls Tryz.prog 33 #[.int .i64 a.scheme, .slice (some ⟨b, 0, none⟩) 6 6] (W.alloc (.cells #[.string Z, .string a.nonce, .string C, .string r.cnonce, .string a.qop, .string Y] 9)) fun e w' => e = .returned (.string (bs (respL a r n))) ∧ Below W.heap.size W w' := fun W HT b hb => by rw [← HE.out]; exact sum6 a.scheme Z a.nonce C r.cnonce a.qop Y (by omega) W HT b hb
  have HK0 : Hid (PfK w _ a r) := HK
  clear HK hq hi
  rw [hs]
  rw [hs] at HK0
  obtain ⟨c0, c1, c2, c4, c5, d0, d1, _, _, _⟩ := HK0.out
  rw [hs] at c4
  go_enter Tryz.func11, Tryz.ntmps11
  go_wp2_with fail
  refine (h1 _ HK0.out.tabs _ (by simp)).mono ?_
  rintro e w1 ⟨rfl, hb1⟩
  have HK1 : Hid (PfK w w1 a r) := HK0.out.below hb1
  clear hb1 c0 c1 c2 c4 c5 d0 d1
  obtain ⟨c0, c1, c2, c4, c5, d0, d1, _, _, _⟩ := HK1.out
  rw [hs] at c4
  go_wp2_with fail
  refine (hS _ HK1.out.tabs _ (by simp)).mono ?_
  rintro e w2 ⟨rfl, hb2⟩
  have HK2 : Hid (PfK w w2 a r) := HK1.out.below hb2
  clear hb2 c0 c1 c2 c4 c5 d0 d1
  obtain ⟨c0, c1, c2, c4, c5, d0, d1, _, _, _⟩ := HK2.out
  rw [hs] at c4
  go_wp2_with fail
  refine (h2 _ HK2.out.tabs _ (by simp)).mono ?_
  rintro e w3 ⟨rfl, hb3⟩
  have HK3 : Hid (PfK w w3 a r) := HK2.out.below hb3
  clear hb3 c0 c1 c2 c4 c5 d0 d1
  obtain ⟨c0, c1, c2, c4, c5, d0, d1, _, _, _⟩ := HK3.out
  rw [hs] at c4
  have hQ : w3.drew.cell? ⟨w.heap.size, 0, none⟩ = some (.int .i64 a.scheme) ∧ w3.drew.cell? ⟨w.heap.size, 2, none⟩ = some (.string a.nonce) ∧ w3.drew.cell? ⟨w.heap.size, 5, none⟩ = some (.string a.qop) ∧ Hid (PfK w (w3.drew) a r) := (HK3.out.drew).held
  go_wp2
  go_region_held3 (fun W => W.cell? ⟨w.heap.size, 0, none⟩ = some (.int .i64 a.scheme) ∧ W.cell? ⟨w.heap.size, 2, none⟩ = some (.string a.nonce) ∧ W.cell? ⟨w.heap.size, 5, none⟩ = some (.string a.qop) ∧ Hid (PfK w W a r)) (first | (with_reducible assumption) | (refine heldA ?_ _; with_reducible assumption) | (refine heldA ?_ _; with_reducible assumption)) (first
    | (go_at_call 12; refine (h4 _ HK3.out.drew.tabs.bruijn).mono ?_; rintro e wc ⟨rfl, hbc⟩; have hKc := HK3.out.drew.below hbc; have hQc : wc.cell? ⟨w.heap.size, 0, none⟩ = some (.int .i64 a.scheme) ∧ wc.cell? ⟨w.heap.size, 2, none⟩ = some (.string a.nonce) ∧ wc.cell? ⟨w.heap.size, 5, none⟩ = some (.string a.qop) ∧ Hid (PfK w (wc) a r) := (hKc).held)
    | (go_at_call 33; refine (h3 _ hKc.tabs _ rfl).mono ?_; rintro e wd ⟨rfl, hbd⟩; have hKd := hKc.below hbd; have hQd : wd.cell? ⟨w.heap.size, 0, none⟩ = some (.int .i64 a.scheme) ∧ wd.cell? ⟨w.heap.size, 2, none⟩ = some (.string a.nonce) ∧ wd.cell? ⟨w.heap.size, 5, none⟩ = some (.string a.qop) ∧ Hid (PfK w (wd) a r) := (hKd).held))
  go_wp2
  go_ret
  exact ⟨rfl, hKd.bel⟩
end Go.Proofs.YtgajhmmildbkfaaGreatDoor
