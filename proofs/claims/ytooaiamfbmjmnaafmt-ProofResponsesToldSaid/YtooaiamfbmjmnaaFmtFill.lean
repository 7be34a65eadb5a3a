/- What is summed: the program's filling. -/
import Derived.Test.YtooaiamfbmjmnaaFmtWords
import Derived.Test.YtooaiamfbmjmnaaFmtMark
import Derived.Deep.LoopGhost
import Derived.Deep.OwnRows
import Derived.Lib.AppendStr
namespace Go.Proofs.YtooaiamfbmjmnaaFmt
open Go.RowKit

/-- The first i of the eight bytes that tell how many bits there are. -/
def tailO (o : Bool) (N i : Nat) : List UInt8 := (List.range i).map fun j => UInt8.ofNat (N / 2 ^ shiftN o j 8)
theorem tailO_length (o : Bool) (N i : Nat) : (tailO o N i).length = i := by simp [tailO]
theorem tailO_succ (o : Bool) (N i : Nat) : tailO o N (i + 1) = tailO o N i ++ [UInt8.ofNat (N / 2 ^ shiftN o i 8)] := by
  simp [tailO, List.range_succ]
theorem tailO_eight (o : Bool) (N : Nat) : tailO o N 8 = if !o then le8 N else (le8 N).reverse := by
  cases o <;> simp [tailO, shiftN, le8, List.range_succ]
theorem own_M {w : World} {B n : Nat} {v : Value} {l : List UInt8} (h : w.ownsRow B 5 1 v n (l.map fun c => Value.int .u8 (c.toNat : Int))) (hn : l.length = n) (hv : v ≠ .slice none 0 0) : ∃ g cap, v = .slice (some ⟨g, 0, none⟩) n cap ∧ OwnM w B g n cap l := by
  obtain ⟨_, h2⟩ := h
  rcases h2 with ⟨h2, _⟩ | ⟨g, cap, cur, he, hB, hg, hnc, hcm, hcs, htake⟩
  · exact absurd h2 hv
  · refine ⟨g, cap, he, hB, hn, cur, (0, 0), hg, .inl rfl, hnc, hcm, by simpa using hcs, by simpa using htake⟩
theorem cell_oneB (w : World) (d : UInt8) (X : Int) (hX : X = d.toNat) : ∀ j u, ([d].map fun c => Value.int .u8 (c.toNat : Int))[j]? = some u → (w.alloc (.cells #[.int .u8 X] 5)).cell? ((⟨w.heap.size, 0, none⟩ : Addr).add j) = some u := by
  subst hX
  exact fun j u hj => cell_one_new w (.int .u8 (d.toNat : Int)) 5 j u hj
set_option maxHeartbeats 1600000 in
set_option maxRecDepth 100000 in
theorem fill_any (o : Bool) (s : ByteArray) (hs : s.size ≤ 1000) (w : World) :
    Calls Tryf.prog 21 #[.bool o, .string s] w fun e w' => ∃ g n cap : Nat, e = .returned (.slice (some ⟨g, 0, none⟩) n cap) ∧ n = (s.size + 72) / 64 * 64 ∧ n ≤ cap ∧ w.heap.size ≤ g ∧ g < w'.heap.size ∧ Hid (Cells w' g (padL (!o) s.data.toList)) ∧ Below w.heap.size w w' := by
  obtain ⟨i0, hi0, hz0, hz1, hz2⟩ := info_parts info5
  go_enter Tryf.func21, Tryf.ntmps21
  go_wp2_with (first
    | (at_make; refine wpList_make_own _ rfl _ _ 38 rfl w.heap.size 5 i0 (.int .u8 0) 1 Tryf.underlying38 hi0 hz0 hz1 .i64 .i64 _ (s.size + 72) rfl rfl (by omega) (by rw [hz2]; omega) (by unfold maxLen; omega) (Nat.le_refl _) ?_; intro w1 hown1 hgrow1)
    | (at_builtin; refine Lib.wpList_append_own_string w1 rfl _ _ 38 9 rfl w.heap.size 5 i0 Tryf.underlying38 Tryf.underlying9 hi0 hz0 hz1 hz2 _ 0 [] rfl hown1 s rfl (by unfold maxLen; omega) (by omega) hgrow1.size ?_; intro v2 w2 hown2 hgrow2 hnil2; have hnn : v2 ≠ .slice none 0 0 := (fun e => by cases (hnil2.1 e).1); rw [Nat.zero_add] at hown2; obtain ⟨g2, cap2, hv2, hM2⟩ := own_M (l := s.data.toList) hown2 (by simp) hnn; subst hv2; have hws : w.heap.size ≤ w2.heap.size := Nat.le_trans hgrow1.size hgrow2.size; have hgrow3 : w1.grownBy w2 (some w.heap.size) := hgrow2)
    | (at_builtin; refine wpList_append_M _ rfl _ _ 38 rfl w.heap.size i0 Tryf.underlying38 hi0 hz0 hz1 hz2 _ _ _ s.data.toList rfl (hM2.alloc _) ⟨_, 0, none⟩ 1 1 [128] rfl rfl (fun j u hj => cell_one_new w2 (.int .u8 128) 5 j u hj) (by omega) (by simp; omega) ?_; intro g3 cap3 w3 hM3 hg3 hat3))
  have hb2 : Below w.heap.size w w2 := ((Below.refl _ _).grown hgrow1 (Nat.le_refl _) (by simp)).grown hgrow3 hgrow1.size (by simp)
  have hB1 : Below w.heap.size w w3 := (hb2.alloc hws _).grown hg3 (by simp; omega) (fun x hx => by have := hM2.1; simp only [Option.some.injEq] at hx; omega)
  have HM1 : Hid (OwnM w3 w.heap.size g3 (s.size + 1) cap3 (s.data.toList ++ [128])) := hM3
  clear hM3 hg3 hat3 hM2 hown1 hgrow1 hown2 hgrow2 hgrow3 hnil2 hnn hb2 hws
  go_loopg [5] (zerosN s.size) (fun gh v wr => ∃ k g n cap : Nat, k + gh = zerosN s.size ∧ v = .slice (some ⟨g, 0, none⟩) n cap ∧ n = s.size + 1 + k ∧ Hid (OwnM wr w.heap.size g n cap (s.data.toList ++ [128] ++ List.replicate k 0)) ∧ Below w.heap.size w wr)
  case atStart => exact ⟨0, g3, _, cap3, by omega, rfl, by omega, by simpa using HM1, hB1⟩
  case round =>
    obtain ⟨k, g, n, cap4, hk, rfl, hn, HO, hb⟩ := hrel
    have hz : zerosN s.size < 64 := by unfold zerosN; omega
    have hn2 : n ≤ 1100 := by omega
    have hwr : w.heap.size ≤ wr.heap.size := hb.size
    clear HM1 hB1
    cases gk with
    | succ gk =>
      have hne : ((n : Int) % 64 != 56) = true := by
        have : n % 64 ≠ 56 := by unfold zerosN at hk; omega
        simp; omega
      have HN : Hid (n = s.size + 1 + k) := hn
      clear hn
      go_wp2_with (at_builtin; refine wpList_append_M _ rfl _ _ 38 rfl w.heap.size i0 Tryf.underlying38 hi0 hz0 hz1 hz2 _ _ _ _ rfl (HO.out.alloc _) ⟨_, 0, none⟩ 1 1 [0] rfl rfl (fun j u hj => cell_one_new wr (.int .u8 0) 5 j u hj) (by omega) (by simp; omega) ?_; intro g2 cap3 w2 hM2 hg2 hat2)
      go_roundg gk
      case measure => omega
      case rel =>
        refine ⟨k + 1, g2, n + 1, cap3, by omega, rfl, by have := HN.out; omega, ?_, (hb.alloc hwr _).grown hg2 (by simp; omega) ?_⟩
        · show OwnM _ _ _ _ _ _
          rw [List.replicate_succ', ← List.append_assoc]
          exact hM2
        · intro x hx
          have := HO.out.1
          simp only [Option.some.injEq] at hx
          omega
    | zero =>
      have hne : ((n : Int) % 64 != 56) = false := by
        have : n % 64 = 56 := by unfold zerosN at hk; omega
        simp; omega
      have HN : Hid (n = s.size + 1 + k) := hn
      clear hn
      have hkz : k = zerosN s.size := by omega
      subst hkz
      clear hk
      go_wp2
      go_loopw [5, 28] (fun v i wx => ∃ j g n cap : Nat, j ≤ 8 ∧ i = .int .i64 j ∧ v = .slice (some ⟨g, 0, none⟩) n cap ∧ n ≤ 1100 ∧ Hid (n = s.size + 1 + zerosN s.size + j) ∧ Hid (OwnM wx w.heap.size g n cap (s.data.toList ++ [128] ++ List.replicate (zerosN s.size) 0 ++ tailO o (8 * s.size) j)) ∧ Hid (Below w.heap.size w wx)) (fun _ i _ => 8 - (intOf i).toNat)
      case atStart => exact ⟨0, g, n, cap4, by omega, rfl, rfl, hn2, HN, by simpa [tailO] using HO, hb⟩
      case round =>
        clear HN HO hb hwr hne hn2
        obtain ⟨j, g, n, cap, hj, rfl, rfl, hn2, HN, HO, HB⟩ := hrel
        have hwr : w.heap.size ≤ wr.heap.size := HB.out.size
        by_cases hlt : j < 8
        · obtain ⟨sh, hsh⟩ : ∃ sh : Nat, shiftN o j 8 = sh := ⟨_, rfl⟩
          have hsh2 : sh ≤ 56 := by rw [← hsh, shiftN]; split <;> omega
          have hn3 : n ≤ 1080 := by have := HN.out; omega
          have HX : Hid (8 * (s.size : Int) / 2 ^ sh % 256 = ((UInt8.ofNat (8 * s.size / 2 ^ shiftN o j 8)).toNat : Int)) := by
            show _ = _
            rw [UInt8.toNat_ofNat', hsh]
            push_cast
            rfl
          go_wp2_with (first
            | (go_at_call 39; refine (shift_any o j 8 hlt (by omega) _).mono ?_; rintro e w2 ⟨rfl, hw2⟩; rw [hw2, hsh]; clear hw2 w2)
            | (at_builtin; refine wpList_append_M _ rfl _ _ 38 rfl w.heap.size i0 Tryf.underlying38 hi0 hz0 hz1 hz2 _ _ _ _ rfl (HO.out.alloc _) ⟨_, 0, none⟩ 1 1 [UInt8.ofNat (8 * s.size / 2 ^ shiftN o j 8)] rfl rfl (cell_oneB wr _ _ HX.out) (by omega) (by simp; omega) ?_; intro g5 cap5 w5 hM5 hg5 hat5))
          go_roundw
          case rel =>
            refine ⟨j + 1, g5, n + 1, cap5, by omega, by go_num, rfl, by omega, by show _ = _; have := HN.out; omega, ?_, (HB.out.alloc hwr _).grown hg5 (by simp; omega) ?_⟩
            · show OwnM _ _ _ _ _ _
              rw [tailO_succ, ← List.append_assoc]
              exact hM5
            · intro x hx
              have := HO.out.1
              simp only [Option.some.injEq] at hx
              omega
          case measure => simp [intOf]; omega
        · obtain rfl : j = 8 := by omega
          go_wp2
          go_ret
          refine ⟨g, n, cap, rfl, ?_, HO.out.2.2.choose_spec.choose_spec.2.2.1, HO.out.1, HO.out.lt, ?_, HB.out⟩
          · have := HN.out
            unfold zerosN at this
            omega
          · show Cells _ _ _
            have e : s.data.toList ++ [128] ++ List.replicate (zerosN s.size) 0 ++ tailO o (8 * s.size) 8 = padL (!o) s.data.toList := by
              rw [tailO_eight, padL]
              simp
            rw [e] at HO
            exact fun j hj => HO.out.cells j hj
end Go.Proofs.YtooaiamfbmjmnaaFmt
