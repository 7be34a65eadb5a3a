/- Texts of one claim, joined: each begins with what it proves. -/
import Derived.Test.YtlmfhbffknganaaGreatDoorJo1
import Derived.Test.YtlmfhbffknganaaGreatDoorJo4
import Derived.Test.YtlmfhbffknganaaGreatDoorJo5
import Derived.Test.YtlmfhbffknganaaGreatDoorJo6
import Derived.Test.YtlmfhbffknganaaGreatDoorJo3
import Derived.Shelf.Slices.Equal
import Derived.Deep.RegionHeld3
import Derived.RegionTactic
import Derived.ProofKit
import Derived.OpenShut
import Derived.SliceStrings
import Derived.Carry
import Derived.SizedLaws
import Derived.Deep.Slices
import Derived.Deep.SlicePairs
import Derived.Deep.Strs
import Derived.Lib.SmallJoins
/- The library's contracts that are leant on, laid at this program's numbers. -/
namespace Go.Proofs.YtlmfhbffknganaaGreatDoor
open Go.Shelf Go.RowKit
def lays193_ren : Go.Shelf.Ren := ⟨fun | 193 => 20 | n => n, fun | 31 => 45 | 9 => 9 | 4 => 4 | 3 => 3 | 0 => 0 | n => n, fun | n => n⟩
theorem lays193 : Go.Proofs.Lays.n193 Tryz.prog lays193_ren := {
  mixed := by kernel_rfl
  f193 := Tryz.func20.trans (congrArg some (by kernel_rfl))
  t0 := Tryz.underlying0
  a0 := Tryz.isAgg0
  z0 := Tryz.sizeOf0
  v0 := Tryz.zeroValue0
  t3 := Tryz.underlying3
  a3 := Tryz.isAgg3
  z3 := Tryz.sizeOf3
  v3 := Tryz.zeroValue3
  t4 := Tryz.underlying4
  a4 := Tryz.isAgg4
  z4 := Tryz.sizeOf4
  v4 := Tryz.zeroValue4
  t9 := Tryz.underlying9
  a9 := Tryz.isAgg9
  z9 := Tryz.sizeOf9
  v9 := Tryz.zeroValue9
  t31 := Tryz.underlying45
  a31 := Tryz.isAgg45
  z31 := Tryz.sizeOf45
  v31 := Tryz.zeroValue45 }
end Go.Proofs.YtlmfhbffknganaaGreatDoor

/- Two rows of the same texts are equal, by the library's own function. -/
namespace Go.Proofs.YtlmfhbffknganaaGreatDoor
open Go.RowKit Go.Shelf

theorem equal_same (a1 a2 : Option Addr) (n c b1 o1 d b2 o2 : Nat) (xs : List ByteArray) (w : World) (hn : n ≤ 1000000) (h1 : Strs w a1 n b1 o1 xs) (h2 : Strs w a2 n b2 o2 xs) :
    Calls Tryz.prog 20 #[.slice a1 n c, .slice a2 n d] w fun e w' => e = .returned (.bool true) ∧ ∃ q, w' = w.drewN q := by
  by_cases h0 : n = 0
  · subst h0
    refine (Any.slices_Equal_string_empty lays193 a1 a2 c 0 d w (by omega)).mono ?_
    rintro e w' ⟨rfl, rfl⟩
    exact ⟨rfl, 0, rfl⟩
  · obtain ⟨rfl, _⟩ := h1.lies (by omega)
    obtain ⟨rfl, _⟩ := h2.lies (by omega)
    have hl := h1.len_eq
    have hc : ∀ (b o : Nat), (∀ (j : Nat) (x : ByteArray), xs[j]? = some x → w.cell? ⟨b, o + j, none⟩ = some (.string x)) → ∀ j, j < xs.length → w.cell? ⟨b, o + j, none⟩ = some (.string (xs.getD j ByteArray.empty)) := by
      intro b o h j hj
      have : xs[j]? = some xs[j] := List.getElem?_eq_getElem hj
      rw [h j _ this]
      simp [List.getD, this]
    refine (Any.slices_Equal_string lays193 b1 o1 n c b2 o2 n d xs xs w (by omega) (by omega) (by omega) (by omega) (hc b1 o1 h1.cells) (hc b2 o2 h2.cells)).mono ?_
    rintro e w' ⟨rfl, hq⟩
    exact ⟨by simp, hq⟩
end Go.Proofs.YtlmfhbffknganaaGreatDoor

/- Small letters for great ones in a scheme and in names: the same is asked for. -/
namespace Go.Proofs.YtlmfhbffknganaaGreatDoor

def lowP (p : Par) : Par := (bs (p.1.data.toList.map low), p.2)
def lowC (x : Chal) : Chal := ⟨bs (x.scheme.data.toList.map low), x.token, x.params.map lowP⟩
theorem low_again (c : UInt8) : low (low c) = low c := by
  have : ∀ c : Fin 256, low (low (UInt8.ofNat c.val)) = low (UInt8.ofNat c.val) := by decide +kernel
  have h := this ⟨c.toNat, c.toNat_lt⟩
  rwa [UInt8.ofNat_toNat] at h
theorem same_low (a b : List UInt8) : sameL (a.map low) b = sameL a b := by
  unfold sameL
  rw [List.map_map]
  congr 2
  funext c
  exact low_again c
theorem get_low (ps : List Par) (k : List UInt8) : getL (ps.map lowP) k = getL ps k := by
  unfold getL
  rw [List.find?_map]
  have e : ((fun p : Par => sameL p.1.data.toList k) ∘ lowP) = fun p => sameL p.1.data.toList k := by
    funext p
    show sameL (bs (p.1.data.toList.map low)).data.toList k = _
    rw [bs_data, same_low]
  rw [e, Option.map_map]
  rfl
theorem known_low (x : Chal) : knownL (lowC x) = knownL x := by
  unfold knownL digestL lowC
  simp only [get_low, bs_data, same_low]
theorem lowC_mild_len (x : Chal) : (lowC x).params.length = x.params.length := by unfold lowC; simp
end Go.Proofs.YtlmfhbffknganaaGreatDoor

/- The law AskCase, walked. -/
namespace Go.Proofs.YtlmfhbffknganaaGreatDoor
open Go.RowKit

/-- The first k names in small letters. -/
def lowK (ps : List Par) (k : Nat) : List Par := (ps.take k).map lowP ++ ps.drop k
theorem lowK_at {ps : List Par} {k : Nat} {p : Par} (h : ps[k]? = some p) : (lowK ps k)[k]? = some p := by
  have hk := (List.getElem?_eq_some_iff.1 h).1
  unfold lowK
  rw [List.getElem?_append_right (by simp; omega), List.length_map, List.length_take, List.getElem?_drop]
  rw [show k + (k - min k ps.length) = k by omega]
  exact h
theorem lowK_step {ps : List Par} {k : Nat} {p : Par} (h : ps[k]? = some p) : (lowK ps k).set k (bs (p.1.data.toList.map low), p.2) = lowK ps (k + 1) := by
  obtain ⟨hk, e⟩ := List.getElem?_eq_some_iff.1 h
  unfold lowK
  rw [List.set_append_right _ _ (by simp; omega), List.length_map, List.length_take, show k - min k ps.length = 0 by omega, List.drop_eq_getElem_cons hk, List.set_cons_zero, List.take_succ_eq_append_getElem hk, List.map_append, e]
  simp [lowP]
theorem lowK_end {ps : List Par} {k : Nat} (h : ps.length ≤ k) : lowK ps k = ps.map lowP := by
  unfold lowK
  rw [List.take_of_length_le h, List.drop_of_length_le h, List.append_nil]
theorem lowK_len (ps : List Par) (k : Nat) : (lowK ps k).length = ps.length := by unfold lowK; simp; omega
theorem mild_low {x : Chal} (h : Mild x) : Mild (lowC x) := by
  refine ⟨⟨by rw [lowC_mild_len]; exact h.1.1, fun p hp => ?_⟩, ?_⟩
  · obtain ⟨q, hq, rfl⟩ := List.mem_map.1 (show p ∈ x.params.map lowP from hp)
    have := h.1.2 q hq
    refine ⟨?_, this.2⟩
    show (bs (q.1.data.toList.map low)).size ≤ _
    rw [bs_size, List.length_map]
    have e : q.1.data.toList.length = q.1.size := Array.length_toList
    omega
  · show (bs (x.scheme.data.toList.map low)).size ≤ _
    rw [bs_size, List.length_map]
    have e : x.scheme.data.toList.length = x.scheme.size := Array.length_toList
    have := h.2
    omega
theorem chals_one (w : World) (c : ChV) (hx : ChOk w c) : Chals (w.alloc (.cells #[.string c.x.scheme, .string c.x.token, .slice c.a c.len c.cap] 34)) (some ⟨w.heap.size, 0, none⟩) 1 w.heap.size 0 [c] := by
  have hb1 : Below w.heap.size w (w.alloc (.cells #[.string c.x.scheme, .string c.x.token, .slice c.a c.len c.cap] 34)) := (Below.refl _ _).alloc (Nat.le_refl _) _
  refine ⟨rfl, fun _ => ⟨rfl, by simp⟩, fun j d hd => ?_, fun j d hd => ?_, fun j d hd => ?_, fun d hd => ?_⟩
  · match j, hd with
    | 0, hd => cases hd; exact World.cell?_alloc_mark _ _ _ _ _
    | j + 1, hd => simp at hd
  · match j, hd with
    | 0, hd => cases hd; exact World.cell?_alloc_mark _ _ _ _ _
    | j + 1, hd => simp at hd
  · match j, hd with
    | 0, hd => cases hd; exact World.cell?_alloc_mark _ _ _ _ _
    | j + 1, hd => simp at hd
  · rw [List.mem_singleton.1 hd]
    exact hx.below hb1
theorem fair_mild1 {x : Chal} (h : FairC x) : Mild x := by
  have h1 := h.1
  have h2 := h.2.1
  exact ⟨⟨by omega, fun p hp => by have := h.2.2.2 p hp; omega⟩, by omega⟩
theorem three_at {w : World} {g : Nat} {v0 v1 v2 : Value} {T : TypeId} (h : w.heap[g]? = some (.cells #[v0, v1, v2] T (0, 0))) : w.cell? ⟨g, 0, none⟩ = some v0 ∧ w.cell? ⟨g, 1, none⟩ = some v1 ∧ w.cell? ⟨g, 2, none⟩ = some v2 ∧ ∀ j, w.frozen? ⟨g, j, none⟩ = false :=
  ⟨by simp [World.cell?, h], by simp [World.cell?, h], by simp [World.cell?, h], fun j => by simp [World.frozen?, h]⟩
theorem splitL_le (d : UInt8) : ∀ l, (splitL d l).length ≤ l.length + 1
  | [] => by simp [splitL]
  | c :: t => by
    have ih := splitL_le d t
    unfold splitL
    split
    · simp only [List.length_cons]; omega
    · split
      · simp
      · rename_i p r e
        rw [e] at ih
        simp only [List.length_cons] at ih ⊢
        omega
theorem domL_le (t : List UInt8) : (domL t).length ≤ t.length + 1 := by
  unfold domL
  rw [List.length_map]
  exact Nat.le_trans (List.length_filter_le _ _) (splitL_le 32 t)
theorem known_dom (c : ChV) (hf : Few c.x.params) : ((knownL c.x).getD zeroA).domain.length ≤ 3001 := by
  have h1 := getD_size c kDomain hf
  have h2 := domL_le ((getL c.x.params kDomain).getD ⟨#[]⟩).data.toList
  have h3 : ((getL c.x.params kDomain).getD ⟨#[]⟩).data.toList.length = ((getL c.x.params kDomain).getD ⟨#[]⟩).size := Array.length_toList
  unfold knownL
  split
  · exact Nat.zero_le _
  · split
    · exact Nat.zero_le _
    · split
      · unfold digestL
        split
        · exact Nat.zero_le _
        · split
          · exact Nat.zero_le _
          · split
            · exact Nat.zero_le _
            · show (domL _).length ≤ 3001
              omega
      · exact Nat.zero_le _
set_option maxRecDepth 100000 in
set_option maxHeartbeats 8000000 in
theorem askCase_walk (c : ChV) (hh : Held c.x) (hr : Room c) (w : World) (hx : ChOk w c) :
    Calls Tryz.prog 5 #[.agg #[.string c.x.scheme, .string c.x.token, .slice c.a c.len c.cap]] w fun e w' => e = .returned (.bool true) ∧ Below w.heap.size w w' := by
  have hb0 : Below w.heap.size w (w.alloc (.cells #[.string c.x.scheme, .string c.x.token, .slice c.a c.len c.cap] 34)) := (Below.refl _ _).alloc (Nat.le_refl _) _
  have hn0 := heap_alloc_new w (.cells #[.string c.x.scheme, .string c.x.token, .slice c.a c.len c.cap] 34)
  have HX : Hid (ChOk w c) := hx
  have HR : Hid (Room c ∧ Held c.x) := ⟨hr, hh⟩
  have HN0 : Hid (∀ w', Below (w.alloc (.cells #[.string c.x.scheme, .string c.x.token, .slice c.a c.len c.cap] 34)).heap.size (w.alloc (.cells #[.string c.x.scheme, .string c.x.token, .slice c.a c.len c.cap] 34)) w' → Below w.heap.size w w' ∧ w'.heap[w.heap.size]? = some (.cells #[.string c.x.scheme, .string c.x.token, .slice c.a c.len c.cap] 34 (0, 0))) := fun w' hb => ⟨hb0.trans (hb.mono (by simp)), (hb.block _ (by simp)).trans hn0⟩
  clear hb0 hn0 hx hr hh
  go_enter Tryz.func5, Tryz.ntmps5
  go_wp2_with fail
  generalize hW0 : w.alloc (.cells #[.string c.x.scheme, .string c.x.token, .slice c.a c.len c.cap] 34) = W0 at HN0 ⊢
  clear hW0
  refine (asked_any _).mono ?_
  rintro e w1 ⟨rfl, hb1⟩
  have HB1 : Hid (Below W0.heap.size W0 w1) := hb1
  clear hb1
  go_wp2_with fail
  refine (coded_any _).mono ?_
  rintro e w2 ⟨rfl, hb2⟩
  have HB2 : Hid (Below W0.heap.size W0 w2) := HB1.out.trans (hb2.mono HB1.out.size)
  clear hb2 HB1
  obtain ⟨x0, x1, x2, _⟩ := three_at (HN0.out _ HB2.out).2
  go_wp2_with fail
  have hx2 : ChOk w2 c := HX.out.below (HN0.out _ HB2.out).1
  have hcs := chals_one w2 c hx2
  refine (fair_any [c] (fun d hd => by rw [List.mem_singleton.1 hd]; exact HR.out.2) _ 1 1 _ _ (by decide) (fun d hd => by rw [List.mem_singleton.1 hd]; exact HR.out.1) _ hcs).mono ?_
  rintro e w3 ⟨⟨r, rfl, hf⟩, hb3⟩
  have HB3 : Hid (Below W0.heap.size W0 w3) := by
    have h1 : Below W0.heap.size W0 (w2.alloc (.cells #[.string c.x.scheme, .string c.x.token, .slice c.a c.len c.cap] 34)) := HB2.out.alloc HB2.out.size _
    exact h1.trans (hb3.mono h1.size)
  clear hb3 hx2 hcs x0 x1 x2 HB2
  cases r
  · clear hf
    go_wp2
    go_ret
    exact ⟨rfl, (HN0.out _ HB3.out).1⟩
  have HM : Hid (Mild c.x) := fair_mild1 ((hf rfl).2 c (by simp))
  have HL : Hid (c.x.params.length ≤ 16) := ((hf rfl).2 c (by simp)).2.1
  clear hf
  obtain ⟨x0, x1, x2, _⟩ := three_at (HN0.out _ HB3.out).2
  have hsz : c.x.scheme.size ≤ 4000 := by have := HM.out.2; omega
  have hY := heap_alloc_new w3 (.cells #[.string c.x.scheme, .string c.x.token, .slice c.a c.len c.cap] 34)
  have HY3 : Hid (∀ w', Below (w3.alloc (.cells #[.string c.x.scheme, .string c.x.token, .slice c.a c.len c.cap] 34)).heap.size (w3.alloc (.cells #[.string c.x.scheme, .string c.x.token, .slice c.a c.len c.cap] 34)) w' → Below W0.heap.size W0 w' ∧ w3.heap.size < w'.heap.size ∧ w'.heap[w3.heap.size]? = some (.cells #[.string c.x.scheme, .string c.x.token, .slice c.a c.len c.cap] 34 (0, 0))) := fun w' hb => by
    have h1 : Below W0.heap.size W0 (w3.alloc (.cells #[.string c.x.scheme, .string c.x.token, .slice c.a c.len c.cap] 34)) := HB3.out.alloc HB3.out.size _
    have h2 := hb.size
    rw [show (w3.alloc (.cells #[.string c.x.scheme, .string c.x.token, .slice c.a c.len c.cap] 34)).heap.size = w3.heap.size + 1 by simp] at h2
    exact ⟨h1.trans (hb.mono h1.size), by omega, (hb.block _ (by simp)).trans hY⟩
  clear hY
  obtain ⟨q0, q1, q2, _⟩ := three_at (HN0.out _ (HB3.out.alloc HB3.out.size (.cells #[.string c.x.scheme, .string c.x.token, .slice c.a c.len c.cap] 34))).2
  have hlt0 : w.heap.size < w3.heap.size := by
    have h1 := HB3.out.size
    have h2 := (Array.getElem?_eq_some_iff.1 (HN0.out W0 (Below.refl _ _)).2).1
    omega
  go_wp2_with fail
  refine (lower_any _ _ (by omega)).mono ?_
  rintro e w4 ⟨rfl, hb4⟩
  obtain ⟨sc, HSC⟩ : ∃ sc, Hid (bs (c.x.scheme.data.toList.map low) = sc) := ⟨_, rfl⟩
  rw [HSC.out]
  have HB4 : Hid (Below W0.heap.size W0 w4 ∧ w3.heap.size < w4.heap.size ∧ w4.heap[w3.heap.size]? = some (.cells #[.string c.x.scheme, .string c.x.token, .slice c.a c.len c.cap] 34 (0, 0))) := HY3.out _ hb4
  clear hb4 HY3 x0 x1 x2 q0 q1 q2
  obtain ⟨x0, x1, x2, fx⟩ := three_at (HN0.out _ HB4.out.1).2
  obtain ⟨y0, y1, y2, fy⟩ := three_at HB4.out.2.2
  have hne : ¬ w3.heap.size = w.heap.size := by
    have h1 := HB3.out.size
    have h2 := (Array.getElem?_eq_some_iff.1 (HN0.out W0 (Below.refl _ _)).2).1
    omega
  have HNE : Hid (¬ w3.heap.size = w.heap.size) := hne
  have hlen : c.len ≤ 1000 := by
    have := HL.out
    unfold ChV.len
    omega
  have hx5 : ChOk (w4.setCell ⟨w3.heap.size, 0, none⟩ (.string sc)) c := by
    have hb5 : Below W0.heap.size W0 (w4.setCell ⟨w3.heap.size, 0, none⟩ (.string sc)) := HB4.out.1.setCell HB3.out.size _
    exact HX.out.below (HN0.out _ hb5).1
  unfold ChOk at hx5
  have HX5 : Hid (Pars (w4.setCell ⟨w3.heap.size, 0, none⟩ (.string sc)) c.a c.len c.b c.off c.x.params) := hx5
  clear hx5
  go_wp2_with fail
  refine (cloneP_all c.x.params c.a c.len c.cap c.b c.off hlen _ HX5.out).mono ?_
  rintro e w5 ⟨⟨v, rfl, hclo⟩, hb5⟩
  obtain ⟨ga, gcap, rfl, hg⟩ := hclo
  have HB4s : Hid (Below W0.heap.size W0 (w4.setCell ⟨w3.heap.size, 0, none⟩ (.string sc)) ∧ (w4.setCell ⟨w3.heap.size, 0, none⟩ (.string sc)).heap[w3.heap.size]? = some (.cells #[.string sc, .string c.x.token, .slice c.a c.len c.cap] 34 (0, 0)) ∧ w3.heap.size < (w4.setCell ⟨w3.heap.size, 0, none⟩ (.string sc)).heap.size) := by
    have h := heap_setCell_same w4 w3.heap.size 0 _ _ (.string sc) HB4.out.2.2
    exact ⟨HB4.out.1.setCell HB3.out.size _, h, (Array.getElem?_eq_some_iff.1 h).1⟩
  generalize w4.setCell ⟨w3.heap.size, 0, none⟩ (.string sc) = W5 at hb5 hg HB4s
  have HB5 : Hid (Below W0.heap.size W0 w5 ∧ w5.heap[w3.heap.size]? = some (.cells #[.string sc, .string c.x.token, .slice c.a c.len c.cap] 34 (0, 0))) := ⟨HB4s.out.1.trans (hb5.mono HB4s.out.1.size), (hb5.block _ HB4s.out.2.2).trans HB4s.out.2.1⟩
  have h6 := heap_setCell_same w5 w3.heap.size 2 _ _ (.slice ga c.len gcap) HB5.out.2
  have H6 : Hid (Below W0.heap.size W0 (w5.setCell ⟨w3.heap.size, 2, none⟩ (.slice ga c.len gcap)) ∧ (w5.setCell ⟨w3.heap.size, 2, none⟩ (.slice ga c.len gcap)).heap[w3.heap.size]? = some (.cells #[.string sc, .string c.x.token, .slice ga c.len gcap] 34 (0, 0)) ∧ (c.len = 0 ∨ ∃ g, ga = some ⟨g, 0, none⟩ ∧ RowPW (w5.setCell ⟨w3.heap.size, 2, none⟩ (.slice ga c.len gcap)) g c.x.params ∧ w3.heap.size < g)) := by
    refine ⟨HB5.out.1.setCell HB3.out.size _, h6, ?_⟩
    rcases hg with h | ⟨g, rfl, hrow, hB⟩
    · exact .inl h
    · have hgy : w3.heap.size < g := by have := HB4s.out.2.2; omega
      obtain ⟨cur, r1, r2⟩ := hrow
      exact .inr ⟨g, rfl, ⟨cur, (Below.heap_setCell w5 ⟨w3.heap.size, 2, none⟩ _ g (by show g ≠ w3.heap.size; omega)).trans r1, r2⟩, hgy⟩
  obtain ⟨y0', y1', y2', fy'⟩ := three_at HB5.out.2
  have HWZ : Hid (Below w5.heap.size w5 w5) := Below.refl _ _
  clear hb5 hg h6 HX5 x0 x1 x2 fx y0 y1 y2 fy
  go_wp2
  generalize w5.setCell ⟨w3.heap.size, 2, none⟩ (.slice ga c.len gcap) = W6 at H6 ⊢
  clear y0' y1' y2' fy' HB5 HB4s HWZ HB4
  go_loopw [31] (fun i wr => ∃ (k : Nat), k ≤ c.len ∧ i = .int .i64 k ∧ Hid (Below W0.heap.size W0 wr ∧ wr.heap[w3.heap.size]? = some (.cells #[.string sc, .string c.x.token, .slice ga c.len gcap] 34 (0, 0)) ∧ (c.len = 0 ∨ ∃ g, ga = some ⟨g, 0, none⟩ ∧ RowPW wr g (lowK c.x.params k) ∧ w3.heap.size < g))) (fun i _ => c.len - (intOf i).toNat)
  case atStart => exact ⟨0, Nat.zero_le _, rfl, ⟨H6.out.1, H6.out.2.1, by
    have e : lowK c.x.params 0 = c.x.params := by unfold lowK; simp
    rw [e]; exact H6.out.2.2⟩⟩
  case round =>
    obtain ⟨k, hk, rfl, HK⟩ := hrel
    by_cases hlt : k < c.len
    · have hkL : (k : Int) < (c.len : Int) := by omega
      obtain ⟨p, hpk⟩ : ∃ p, c.x.params[k]? = some p := ⟨c.x.params[k]'hlt, List.getElem?_eq_getElem hlt⟩
      obtain ⟨g, hga, hrow, hgy⟩ : ∃ g, ga = some ⟨g, 0, none⟩ ∧ RowPW wr g (lowK c.x.params k) ∧ w3.heap.size < g := by
        rcases HK.out.2.2 with h | h
        · omega
        · exact h
      subst hga
      have hat := lowK_at hpk
      have HS : Hid (c.x.params[k]? = some p ∧ RowPW wr g (lowK c.x.params k) ∧ w3.heap.size < g ∧ (lowK c.x.params k)[k]? = some p) := ⟨hpk, hrow, hgy, hat⟩
      have hc1 : wr.drew.cell? ⟨g, k * 2, none⟩ = some (.string p.1) := (hrow.cells k p hat).1
      have hp1 : p.1.size ≤ 4000 := by have := HM.out.1.2 p (List.mem_of_getElem? hpk); omega
      have hQ : wr.drew.cell? ⟨w3.heap.size, 2, none⟩ = some (.slice (some ⟨g, 0, none⟩) c.len gcap) ∧ wr.drew.cell? ⟨g, k * 2, none⟩ = some (.string p.1) := ⟨(three_at HK.out.2.1).2.2.1, hc1⟩
      have hlen2 : c.len ≤ gcap ∨ True := .inr trivial
      clear hpk hrow hat hgy
      obtain ⟨nm, HNM⟩ : ∃ nm, Hid (bs (p.1.data.toList.map low) = nm) := ⟨_, rfl⟩
      have hlow : ∀ W, Calls Tryz.prog 17 #[.string p.1] W fun e w' => e = .returned (.string nm) ∧ Below W.heap.size W w' := fun W => by
        have h := lower_any p.1 W (by omega)
        rw [HNM.out] at h
        exact h
      have HG : Hid (∀ w', Below wr.drew.heap.size wr.drew w' → RowPW w' g (lowK c.x.params k) ∧ w'.heap[w3.heap.size]? = some (.cells #[.string sc, .string c.x.token, .slice (some ⟨g, 0, none⟩) c.len gcap] 34 (0, 0)) ∧ Below W0.heap.size W0 w') := fun w' hb => by
        have hb' : Below wr.heap.size wr w' := (Below.refl _ _).drew.trans hb
        refine ⟨HS.out.2.1.below hb', (hb'.block _ (Array.getElem?_eq_some_iff.1 HK.out.2.1).1).trans HK.out.2.1, HK.out.1.trans (hb'.mono HK.out.1.size)⟩
      have HGY : Hid (w3.heap.size ≠ g ∧ W0.heap.size ≤ w3.heap.size) := ⟨by have := HS.out.2.2.1; omega, HB3.out.size⟩
      go_wp2_with fail
      obtain ⟨hQa, hQb⟩ := hQ
      go_region_with (go_at_call 17; refine (hlow _).mono ?_; rintro e w2 ⟨rfl, hb2⟩; have HF : Hid (RowPW w2 g (lowK c.x.params k) ∧ w2.heap[w3.heap.size]? = some (.cells #[.string sc, .string c.x.token, .slice (some ⟨g, 0, none⟩) c.len gcap] 34 (0, 0)) ∧ Below W0.heap.size W0 w2) := HG.out _ hb2; have n2 : w2.cell? ⟨g, k * 2, none⟩ = some (.string p.1) := (HF.out.1.cells k p HS.out.2.2.2).1; have f2 : ∀ j, w2.frozen? ⟨g, j, none⟩ = false := HF.out.1.free; have m2 : w2.cell? ⟨w3.heap.size, 2, none⟩ = some (.slice (some ⟨g, 0, none⟩) c.len gcap) := (three_at HF.out.2.1).2.2.1; clear hb2)
      all_goals
        have HE : Hid (Below W0.heap.size W0 (w2.setCell ⟨g, k * 2, none⟩ (.string nm)) ∧ (w2.setCell ⟨g, k * 2, none⟩ (.string nm)).heap[w3.heap.size]? = some (.cells #[.string sc, .string c.x.token, .slice (some ⟨g, 0, none⟩) c.len gcap] 34 (0, 0)) ∧ (c.len = 0 ∨ ∃ g', (some ⟨g, 0, none⟩ : Option Addr) = some ⟨g', 0, none⟩ ∧ RowPW (w2.setCell ⟨g, k * 2, none⟩ (.string nm)) g' (lowK c.x.params (k + 1)) ∧ w3.heap.size < g')) := by
          have h1 := HF.out.1.name k p HS.out.2.2.2 nm
          rw [← HNM.out, lowK_step HS.out.1, HNM.out] at h1
          exact ⟨HF.out.2.2.setCell (by show W0.heap.size ≤ g; have := HGY.out.2; have := HS.out.2.2.1; omega) _, (Below.heap_setCell w2 ⟨g, k * 2, none⟩ _ w3.heap.size HGY.out.1).trans HF.out.2.1, .inr ⟨g, rfl, h1, HS.out.2.2.1⟩⟩
        clear n2 f2 m2 hQa hQb hc1 hlow
        go_wp2
        go_roundw
        case rel => exact ⟨k + 1, by omega, by go_num, HE⟩
        case measure => simp [intOf]; omega
    · have hkL : ¬ (k : Int) < (c.len : Int) := by omega
      have hke : k = c.len := by omega
      obtain ⟨cy, HCY⟩ : ∃ cy : ChV, Hid (cy.x = ⟨sc, c.x.token, c.x.params.map lowP⟩ ∧ cy.a = ga ∧ cy.cap = gcap ∧ ChOk wr cy ∧ cy.x = lowC c.x) := by
        have e0 : lowC c.x = ⟨sc, c.x.token, c.x.params.map lowP⟩ := by unfold lowC; rw [HSC.out]
        rcases HK.out.2.2 with h | ⟨g, hga, hrow, hgy⟩
        · have hp0 : c.x.params = [] := List.eq_nil_of_length_eq_zero h
          refine ⟨⟨⟨sc, c.x.token, c.x.params.map lowP⟩, ga, gcap, 0, 0⟩, rfl, rfl, rfl, ?_, e0.symm⟩
          unfold ChOk
          refine ⟨rfl, fun h0 => ?_, fun j p hp => ?_, fun j p hp => ?_⟩
          · unfold ChV.len at h0; simp [hp0] at h0
          · simp [hp0] at hp
          · simp [hp0] at hp
        · refine ⟨⟨⟨sc, c.x.token, c.x.params.map lowP⟩, ga, gcap, g, 0⟩, rfl, rfl, rfl, ?_, e0.symm⟩
          unfold ChOk
          rw [lowK_end (by unfold ChV.len at hke; omega)] at hrow
          subst hga
          exact hrow.pars rfl
      have HKM : Hid (knownL cy.x = knownL c.x ∧ Mild cy.x ∧ cy.len = c.len) := by
        rw [show cy.x = lowC c.x from HCY.out.2.2.2.2]
        refine ⟨known_low _, mild_low HM.out, ?_⟩
        unfold ChV.len
        rw [show cy.x = lowC c.x from HCY.out.2.2.2.2, lowC_mild_len]
      have HXW : Hid (Below w.heap.size w wr ∧ ChOk wr c) := ⟨(HN0.out _ HK.out.1).1, HX.out.below (HN0.out _ HK.out.1).1⟩
      obtain ⟨x0, x1, x2, _⟩ := three_at (HN0.out _ HK.out.1).2
      clear hke
      go_wp2_with fail
      refine (known_any c HM.out _ HXW.out.2).mono ?_
      rintro e w5 ⟨⟨dv, rfl, hown⟩, hb5⟩
      obtain ⟨ea, ec, eg, rfl, hse⟩ := hown.strs
      have HB5 : Hid (Below W0.heap.size W0 w5 ∧ w5.heap[w3.heap.size]? = some (.cells #[.string sc, .string c.x.token, .slice ga c.len gcap] 34 (0, 0)) ∧ ChOk w5 cy) := ⟨HK.out.1.trans (hb5.mono HK.out.1.size), (hb5.block _ (Array.getElem?_eq_some_iff.1 HK.out.2.1).1).trans HK.out.2.1, (show ChOk wr cy from HCY.out.2.2.2.1).below hb5⟩
      have hky : ∀ W, ChOk W cy → Calls Tryz.prog 19 #[.agg #[.string sc, .string c.x.token, .slice ga c.len gcap]] W fun e w' => KnAns (knownL c.x) W.heap.size e w' ∧ Below W.heap.size W w' := fun W hW => by
        have h := known_any cy HKM.out.2.1 W hW
        rw [HKM.out.1, HKM.out.2.2, show cy.x = ⟨sc, c.x.token, c.x.params.map lowP⟩ from HCY.out.1, show cy.a = ga from HCY.out.2.1, show cy.cap = gcap from HCY.out.2.2.1] at h
        exact h
      obtain ⟨o, HO⟩ : ∃ o, Hid (knownL c.x = o) := ⟨_, rfl⟩
      rw [HO.out] at hse ⊢
      have hky' : ∀ W, ChOk W cy → Calls Tryz.prog 19 #[.agg #[.string sc, .string c.x.token, .slice ga c.len gcap]] W fun e w' => KnAns o W.heap.size e w' ∧ Below W.heap.size W w' := fun W hW => by
        have h := hky W hW
        rw [HO.out] at h
        exact h
      obtain ⟨B0, HB0⟩ : ∃ B0, Hid (o.getD zeroA = B0) := ⟨_, rfl⟩
      rw [HB0.out] at hse ⊢
      obtain ⟨el, HEL⟩ : ∃ el, Hid (B0.domain.length = el) := ⟨_, rfl⟩
      rw [HEL.out] at hse ⊢
      obtain ⟨ok, HOK⟩ : ∃ ok, Hid (o.isSome = ok) := ⟨_, rfl⟩
      rw [HOK.out]
      unfold askVal
      have HSE : Hid (Strs w5 ea el eg 0 B0.domain) := hse
      clear hown hb5 hky hse x0 x1 x2
      obtain ⟨y0, y1, y2, _⟩ := three_at HB5.out.2.1
      have hba : Below w5.heap.size w5 (w5.alloc (.cells #[.int .i64 (B0.scheme : Int), .string B0.realm, .string B0.nonce, .string B0.opq, .bool B0.sess, .string B0.qop, .bool B0.stale, .slice ea el ec] 47)) := (Below.refl _ _).alloc (Nat.le_refl _) _
      have hnew : (w5.alloc (.cells #[.int .i64 (B0.scheme : Int), .string B0.realm, .string B0.nonce, .string B0.opq, .bool B0.sess, .string B0.qop, .bool B0.stale, .slice ea el ec] 47)).heap[w5.heap.size]? = some (.cells #[.int .i64 (B0.scheme : Int), .string B0.realm, .string B0.nonce, .string B0.opq, .bool B0.sess, .string B0.qop, .bool B0.stale, .slice ea el ec] 47 (0, 0)) := heap_alloc_new w5 _
      have HA : Hid (Below W0.heap.size W0 (w5.alloc (.cells #[.int .i64 (B0.scheme : Int), .string B0.realm, .string B0.nonce, .string B0.opq, .bool B0.sess, .string B0.qop, .bool B0.stale, .slice ea el ec] 47)) ∧ ChOk (w5.alloc (.cells #[.int .i64 (B0.scheme : Int), .string B0.realm, .string B0.nonce, .string B0.opq, .bool B0.sess, .string B0.qop, .bool B0.stale, .slice ea el ec] 47)) cy ∧ Strs (w5.alloc (.cells #[.int .i64 (B0.scheme : Int), .string B0.realm, .string B0.nonce, .string B0.opq, .bool B0.sess, .string B0.qop, .bool B0.stale, .slice ea el ec] 47)) ea el eg 0 B0.domain ∧ _ ∧ w5.heap.size < (w5.alloc (.cells #[.int .i64 (B0.scheme : Int), .string B0.realm, .string B0.nonce, .string B0.opq, .bool B0.sess, .string B0.qop, .bool B0.stale, .slice ea el ec] 47)).heap.size) := ⟨HB5.out.1.trans (hba.mono HB5.out.1.size), (show ChOk w5 cy from HB5.out.2.2).below hba, (show Strs w5 ea el eg 0 B0.domain from HSE.out).below hba, hnew, by simp⟩
      have yz0 : (w5.alloc (.cells #[.int .i64 (B0.scheme : Int), .string B0.realm, .string B0.nonce, .string B0.opq, .bool B0.sess, .string B0.qop, .bool B0.stale, .slice ea el ec] 47)).heap[w3.heap.size]? = some (.cells #[.string sc, .string c.x.token, .slice ga c.len gcap] 34 (0, 0)) := (hba.block _ (Array.getElem?_eq_some_iff.1 HB5.out.2.1).1).trans HB5.out.2.1
      obtain ⟨z0, z1, z2, _⟩ := three_at yz0
      have hl35 : w3.heap.size < w5.heap.size := (Array.getElem?_eq_some_iff.1 HB5.out.2.1).1
      clear hba hnew yz0
      go_wp2_with fail
      refine (hky' _ HA.out.2.1).mono ?_
      rintro e w6 ⟨⟨dv, rfl, hown⟩, hb6⟩
      obtain ⟨fa, fc, fg, rfl, hsf⟩ := hown.strs
      rw [HB0.out, HEL.out] at hsf ⊢
      rw [HOK.out]
      unfold askVal
      have HB6 : Hid (Below W0.heap.size W0 w6 ∧ Strs w6 ea el eg 0 B0.domain ∧ Strs w6 fa el fg 0 B0.domain ∧ w6.heap[w5.heap.size]? = some (.cells #[.int .i64 (B0.scheme : Int), .string B0.realm, .string B0.nonce, .string B0.opq, .bool B0.sess, .string B0.qop, .bool B0.stale, .slice ea el ec] 47 (0, 0))) := ⟨HA.out.1.trans (hb6.mono HA.out.1.size), (show Strs _ ea el eg 0 B0.domain from HA.out.2.2.1).below hb6, hsf, (hb6.block _ HA.out.2.2.2.2).trans HA.out.2.2.2.1⟩
      clear hown hb6 hsf hky' z0 z1 z2 y0 y1 y2 hl35 HA
      have hbb : Below w6.heap.size w6 (w6.alloc (.cells #[.int .i64 (B0.scheme : Int), .string B0.realm, .string B0.nonce, .string B0.opq, .bool B0.sess, .string B0.qop, .bool B0.stale, .slice fa el fc] 47)) := (Below.refl _ _).alloc (Nat.le_refl _) _
      have hnb : (w6.alloc (.cells #[.int .i64 (B0.scheme : Int), .string B0.realm, .string B0.nonce, .string B0.opq, .bool B0.sess, .string B0.qop, .bool B0.stale, .slice fa el fc] 47)).heap[w6.heap.size]? = some (.cells #[.int .i64 (B0.scheme : Int), .string B0.realm, .string B0.nonce, .string B0.opq, .bool B0.sess, .string B0.qop, .bool B0.stale, .slice fa el fc] 47 (0, 0)) := heap_alloc_new w6 _
      have hna : (w6.alloc (.cells #[.int .i64 (B0.scheme : Int), .string B0.realm, .string B0.nonce, .string B0.opq, .bool B0.sess, .string B0.qop, .bool B0.stale, .slice fa el fc] 47)).heap[w5.heap.size]? = some (.cells #[.int .i64 (B0.scheme : Int), .string B0.realm, .string B0.nonce, .string B0.opq, .bool B0.sess, .string B0.qop, .bool B0.stale, .slice ea el ec] 47 (0, 0)) := (hbb.block _ (Array.getElem?_eq_some_iff.1 HB6.out.2.2.2).1).trans HB6.out.2.2.2
      have HF : Hid (Below W0.heap.size W0 (w6.alloc (.cells #[.int .i64 (B0.scheme : Int), .string B0.realm, .string B0.nonce, .string B0.opq, .bool B0.sess, .string B0.qop, .bool B0.stale, .slice fa el fc] 47)) ∧ Strs (w6.alloc (.cells #[.int .i64 (B0.scheme : Int), .string B0.realm, .string B0.nonce, .string B0.opq, .bool B0.sess, .string B0.qop, .bool B0.stale, .slice fa el fc] 47)) ea el eg 0 B0.domain ∧ Strs (w6.alloc (.cells #[.int .i64 (B0.scheme : Int), .string B0.realm, .string B0.nonce, .string B0.opq, .bool B0.sess, .string B0.qop, .bool B0.stale, .slice fa el fc] 47)) fa el fg 0 B0.domain) := ⟨HB6.out.1.trans (hbb.mono HB6.out.1.size), (show Strs w6 ea el eg 0 B0.domain from HB6.out.2.1).below hbb, (show Strs w6 fa el fg 0 B0.domain from HB6.out.2.2.1).below hbb⟩
      generalize hWB : (w6.alloc (.cells #[.int .i64 (B0.scheme : Int), .string B0.realm, .string B0.nonce, .string B0.opq, .bool B0.sess, .string B0.qop, .bool B0.stale, .slice fa el fc] 47)) = WB at hnb hna HF
      obtain ⟨⟨s0, s1, s2, s3, s4, s5, s6, s7⟩, _⟩ := eight hna
      obtain ⟨⟨t0, t1, t2, t3, t4, t5, t6, t7⟩, _⟩ := eight hnb
      clear hbb hnb hna
      go_wp2_with fail
      refine (equal_same ea fa el ec eg 0 fc fg 0 B0.domain _ (by have := HEL.out; have h := known_dom c HM.out.1; rw [HO.out, HB0.out] at h; omega) HF.out.2.1 HF.out.2.2).mono ?_
      rintro e w7 ⟨rfl, q, rfl⟩
      go_wp2
      go_ret
      exact ⟨rfl, drewN_at (HN0.out _ HF.out.1).1 q⟩
end Go.Proofs.YtlmfhbffknganaaGreatDoor

/- What came in: no text of it is longer than a machine can hold. -/
namespace Go.Proofs.YtlmfhbffknganaaGreatDoor
open Go.ChangeShapes Go.WideShapes Go.ChangeAt Go.RowKit Go.Joins

theorem laidOutP : laidOutB Tryz.prog = true := by kernel_rfl
theorem weightsAll_mem {H : Type} {P : Program} {e : TypeId} : ∀ {ds : List (DataW H)} {d : DataW H}, d ∈ ds → ∀ n ∈ d.weights P e, n ∈ DataW.weightsAll P e ds
  | d0 :: ds, d, hd, n, hn => by
    rw [DataW.weightsAll, List.mem_append]
    rcases List.mem_cons.1 hd with rfl | h
    · exact .inl hn
    · exact .inr (weightsAll_mem h n hn)
theorem weights_slice {H : Type} {t e : TypeId} (ht : Tryz.prog.underlying t = some (.slice e)) {ds es : List (DataW H)} {d : DataW H} (hd : d ∈ ds) : ∀ n ∈ d.weights Tryz.prog e, n ∈ (DataW.slice ds es).weights Tryz.prog t := by
  intro n hn
  rw [DataW.weights, ht]
  simp only [List.mem_cons, List.mem_append]
  exact .inr (.inl (weightsAll_mem hd n hn))
/-- No text of it is longer than a machine can hold. -/
def Reach {H : Type} (t : TypeId) (d : DataW H) : Prop := ∀ n ∈ d.weights Tryz.prog t, n ≤ 140737488355328
theorem reach_all {H : Type} {ts : List TypeId} {ds : List (DataW H)} (h : (DataW.weightsEach Tryz.prog ts ds).all (· ≤ reachBytes) = true) {j : Nat} {t : TypeId} {d : DataW H} (ht : ts[j]? = some t) (hd : ds[j]? = some d) : Reach t d := fun n hn => by
  have h1 := List.all_eq_true.1 h _ (DataW.weights_mem_each ht hd n hn)
  have h2 : n ≤ reachBytes := of_decide_eq_true h1
  have := reachBytes_lt
  have e3 : (2 : Nat) ^ 47 = 140737488355328 := by decide
  omega
theorem reach_string {H : Type} {t : TypeId} {s : ByteArray} (h : Reach (H := H) t (.lit (.string s.data.toList))) : s.size ≤ 140737488355328 := by
  have := h s.data.toList.length (by simp [DataW.weights])
  rw [Array.length_toList] at this
  exact this
def strOf : Value → ByteArray
  | .string s => s
  | _ => ⟨#[]⟩
end Go.Proofs.YtlmfhbffknganaaGreatDoor

/- Parameters that came in: one, and a row of them. -/
namespace Go.Proofs.YtlmfhbffknganaaGreatDoor
open Go.ChangeShapes Go.WideShapes Go.ChangeAt Go.RowKit Go.Joins

theorem cellsP : Tryz.prog.cellsOf 44 = 2 := by kernel_rfl
section
variable {H : Type} {enc : TypeId × Value → H} {W : World}
theorem open_pars {fuel : Nat} {v : Value} {x : DataW H × List MemPlace} (h : DataW.trod enc Tryz.prog W 0 (fun _ => true) true fuel 32 [v] = some x) :
    ∃ (a0 : Option Addr) (len cap b off : Nat) (ps : List Par), v = .slice a0 len cap ∧ (len ≤ cap ∧ cap ≤ 9223372036854775807) ∧ Pars W a0 len b off ps ∧ (Reach 32 x.1 → ∀ p ∈ ps, p.1.size ≤ 140737488355328 ∧ p.2.size ≤ 140737488355328) := by
  rcases Go.Deep.open_slice_pairs Tryz.underlying32 Tryz.underlying44 cellsP rfl rfl (by kernel_rfl) (by kernel_rfl) h with ⟨hcs, hx⟩ | ⟨a, len, cap, m, n, V0, V1, D0, D1, P0, P1, hcs, _, hl, hm, hmm, hx, hall⟩
  · simp only [List.cons.injEq, and_true] at hcs
    exact ⟨none, 0, 0, 0, 0, [], hcs, ⟨by omega, by omega⟩, ⟨rfl, fun h => absurd h (by omega), (fun j p hp => by simp at hp), (fun j p hp => by simp at hp)⟩, fun _ p hp => by cases hp⟩
  · simp only [List.cons.injEq, and_true] at hcs
    simp only [if_true] at hmm
    obtain rfl := hmm.symm
    unfold maxLen at hm
    have hS : ∀ i, i < len → V0 i = .string (strOf (V0 i)) ∧ V1 i = .string (strOf (V1 i)) ∧ D0 i = .lit (.string (strOf (V0 i)).data.toList) ∧ D1 i = .lit (.string (strOf (V1 i)).data.toList) := fun i hi => by
      obtain ⟨_, _, t0, t1⟩ := hall i (by omega)
      obtain ⟨s0, e0, x0, _⟩ := DataW.trod_string Tryz.underlying9 t0
      obtain ⟨s1, e1, x1, _⟩ := DataW.trod_string Tryz.underlying9 t1
      simp only [List.cons.injEq, and_true] at e0 e1
      simp only [Prod.mk.injEq] at x0 x1
      rw [e0, e1, x0.1, x1.1]
      exact ⟨rfl, rfl, rfl, rfl⟩
    obtain ⟨b, off, spot⟩ := a
    have hget : ∀ (j : Nat) (p : Par), ((List.range len).map fun i => ((strOf (V0 i), strOf (V1 i)) : Par))[j]? = some p → j < len ∧ p = (strOf (V0 j), strOf (V1 j)) := fun j p hp => by
      rw [List.getElem?_map] at hp
      by_cases hj : j < len
      · rw [List.getElem?_range hj] at hp
        simp only [Option.map_some, Option.some.injEq] at hp
        exact ⟨hj, hp.symm⟩
      · rw [List.getElem?_eq_none (by simp; omega)] at hp
        cases hp
    have hspot : 0 < len → spot = none := fun h0 => by simpa [Addr.add] using World.cell?_spot (hall 0 (by omega)).1
    refine ⟨some ⟨b, off, spot⟩, len, cap, b, off, (List.range len).map fun i => (strOf (V0 i), strOf (V1 i)), hcs, ⟨by omega, by omega⟩, ⟨by simp, fun h0 => ?_, fun j p hp => ?_, fun j p hp => ?_⟩, fun hr p hp => ?_⟩
    · obtain rfl := hspot h0
      refine ⟨rfl, ?_⟩
      have hc := (hall 0 (by omega)).1
      rcases Nat.lt_or_ge b W.heap.size with h1 | h1
      · exact h1
      · simp [World.cell?, Addr.add, Array.getElem?_eq_none h1] at hc
    · obtain ⟨hj, rfl⟩ := hget j p hp
      obtain rfl := hspot (by omega)
      rw [← add_plain]
      exact (hall j (by omega)).1.trans (congrArg some (hS j hj).1)
    · obtain ⟨hj, rfl⟩ := hget j p hp
      obtain rfl := hspot (by omega)
      rw [Nat.add_assoc, ← add_plain]
      exact (hall j (by omega)).2.1.trans (congrArg some (hS j hj).2.1)
    · obtain ⟨i, hi, rfl⟩ := List.mem_map.1 hp
      have hi' : i < len := List.mem_range.1 hi
      have hw : ∀ n ∈ (DataW.agg [D0 i, D1 i]).weights Tryz.prog 44, n ≤ 140737488355328 := fun n hn => by
        refine hr n ?_
        rw [hx]
        exact weights_slice Tryz.underlying32 (List.mem_map.2 ⟨i, hi, rfl⟩) n hn
      rw [(hS i hi').2.2.1, (hS i hi').2.2.2] at hw
      have w0 := hw (strOf (V0 i)).data.toList.length (by simp [DataW.weights, DataW.weightsEach, Tryz.underlying44])
      have w1 := hw (strOf (V1 i)).data.toList.length (by simp [DataW.weights, DataW.weightsEach, Tryz.underlying44])
      rw [Array.length_toList] at w0 w1
      exact ⟨w0, w1⟩
set_option maxRecDepth 100000 in
/-- A parameter that came in. -/
theorem open_param {b0 : Nat} {v : Value} {d : DataW H} {p : List MemPlace} (hv : Value.okWide Tryz.prog W .any b0 44 v) (h : DataW.Trod enc Tryz.prog W 0 (fun _ => true) true 44 v d p) :
    ∃ x y : ByteArray, v = .agg #[.string x, .string y] ∧ (Reach 44 d → x.size ≤ 140737488355328 ∧ y.size ≤ 140737488355328) := by
  obtain ⟨c0, c1, y0, y1, m, rfl, rfl, rfl, g0, g1⟩ := open_agg2 Tryz.underlying44 (by kernel_rfl) (by kernel_rfl) hv h
  obtain ⟨s0, e0, rfl, _⟩ := DataW.trod_string Tryz.underlying9 g0
  obtain ⟨s1, e1, rfl, _⟩ := DataW.trod_string Tryz.underlying9 g1
  simp only [List.cons.injEq, and_true] at e0 e1
  subst e0 e1
  refine ⟨s0, s1, rfl, fun hw => ?_⟩
  have w0 := hw s0.data.toList.length (by simp [DataW.weights, DataW.weightsEach, Tryz.underlying44])
  have w1 := hw s1.data.toList.length (by simp [DataW.weights, DataW.weightsEach, Tryz.underlying44])
  rw [Array.length_toList] at w0 w1
  exact ⟨w0, w1⟩
/-- A row of parameters that came in. -/
theorem open_parsT {v : Value} {d : DataW H} {p : List MemPlace} {a0 : Option Addr} {len cap : Nat} (h : DataW.Trod enc Tryz.prog W 0 (fun _ => true) true 32 v d p) (hv : v = .slice a0 len cap) :
    ∃ (b off : Nat) (ps : List Par), (len ≤ cap ∧ cap ≤ 9223372036854775807) ∧ Pars W a0 len b off ps ∧ (Reach 32 d → ∀ q ∈ ps, q.1.size ≤ 140737488355328 ∧ q.2.size ≤ 140737488355328) := by
  subst hv
  obtain ⟨fuel, hf⟩ := h
  obtain ⟨a1, n1, c1, b, off, ps, e, hl, hp, hr⟩ := open_pars (v := .slice a0 len cap) hf
  injection e with e1 e2 e3
  subst e1 e2 e3
  exact ⟨b, off, ps, hl, hp, hr⟩
end
end Go.Proofs.YtlmfhbffknganaaGreatDoor

/- Challenges that came in: opened down to their parameters. -/
namespace Go.Proofs.YtlmfhbffknganaaGreatDoor
open Go.ChangeShapes Go.WideShapes Go.ChangeAt Go.RowKit Go.Joins

theorem cellsC : Tryz.prog.cellsOf 34 = 3 := by kernel_rfl
section
variable {H : Type} {enc : TypeId × Value → H} {W : World}
theorem open_chalOf {n : Nat} {v0 v1 v2 : Value} {y0 y1 y2 : DataW H × List MemPlace} (h0 : DataW.trod enc Tryz.prog W 0 (fun _ => true) true n 9 [v0] = some y0) (h1 : DataW.trod enc Tryz.prog W 0 (fun _ => true) true n 9 [v1] = some y1) (h2 : DataW.trod enc Tryz.prog W 0 (fun _ => true) true n 32 [v2] = some y2) :
    ∃ c : ChV, v0 = .string c.x.scheme ∧ v1 = .string c.x.token ∧ v2 = .slice c.a c.len c.cap ∧ ChOk W c ∧ Room c ∧ (Reach 34 (.agg [y0.1, y1.1, y2.1]) → Held c.x) := by
  obtain ⟨s0, e0, rfl, _⟩ := DataW.trod_string Tryz.underlying9 h0
  obtain ⟨s1, e1, rfl, _⟩ := DataW.trod_string Tryz.underlying9 h1
  obtain ⟨a0, len, cap, b, off, ps, e2, hl, hp, hr⟩ := open_pars h2
  simp only [List.cons.injEq, and_true] at e0 e1
  have hlen := hp.len_eq
  refine ⟨⟨⟨s0, s1, ps⟩, a0, cap, b, off⟩, e0, e1, ?_, ?_, ?_, fun hw => ?_⟩
  · rw [e2, ← hlen]; rfl
  · show Pars W a0 ps.length b off ps
    rw [hlen]; exact hp
  · exact ⟨by show ps.length ≤ cap; omega, hl.2, by show ps.length ≤ _; omega⟩
  · have w0 := hw s0.data.toList.length (by simp [DataW.weights, DataW.weightsEach, Tryz.underlying34])
    have w1 := hw s1.data.toList.length (by simp [DataW.weights, DataW.weightsEach, Tryz.underlying34])
    rw [Array.length_toList] at w0 w1
    refine ⟨w0, w1, hr fun n hn => hw n ?_⟩
    simp [DataW.weights, DataW.weightsEach, Tryz.underlying34]
    exact .inr (.inr hn)
set_option maxRecDepth 100000 in
/-- A challenge that came in. -/
theorem open_chal {b0 : Nat} {v : Value} {d : DataW H} {p : List MemPlace} (hv : Value.okWide Tryz.prog W .any b0 34 v) (h : DataW.Trod enc Tryz.prog W 0 (fun _ => true) true 34 v d p) :
    ∃ c : ChV, v = .agg #[.string c.x.scheme, .string c.x.token, .slice c.a c.len c.cap] ∧ ChOk W c ∧ Room c ∧ (Reach 34 d → Held c.x) := by
  obtain ⟨c0, c1, c2, y0, y1, y2, m, rfl, rfl, rfl, g0, g1, g2⟩ := open_agg3 Tryz.underlying34 (by kernel_rfl) cellsC hv h
  obtain ⟨c, rfl, rfl, rfl, h1, h2, h3⟩ := open_chalOf g0 g1 g2
  exact ⟨c, rfl, h1, h2, h3⟩
end
end Go.Proofs.YtlmfhbffknganaaGreatDoor
