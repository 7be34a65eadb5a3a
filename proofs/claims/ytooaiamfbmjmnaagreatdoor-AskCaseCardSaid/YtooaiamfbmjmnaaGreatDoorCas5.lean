/- The law AskCase, walked. -/
import Derived.Test.YtooaiamfbmjmnaaGreatDoorAskd
import Derived.Test.YtooaiamfbmjmnaaGreatDoorFar
import Derived.Test.YtooaiamfbmjmnaaGreatDoorClp
import Derived.Test.YtooaiamfbmjmnaaGreatDoorCoded
import Derived.Test.YtooaiamfbmjmnaaGreatDoorKnw
import Derived.Test.YtooaiamfbmjmnaaGreatDoorEqs
import Derived.Test.YtooaiamfbmjmnaaGreatDoorCasK
import Derived.Test.YtooaiamfbmjmnaaGreatDoorHvyA
import Derived.Test.YtooaiamfbmjmnaaGreatDoorDra
import Derived.Deep.RegionHeld3
import Derived.RegionTactic
namespace Go.Proofs.YtooaiamfbmjmnaaGreatDoor
open Go.RowKit

def RowsP (cur : Array Value) (ps : List Par) : Prop := ∀ (k : Nat) (p : Par), ps[k]? = some p → cur[k * 2]? = some (.string p.1) ∧ cur[k * 2 + 1]? = some (.string p.2)
/-- A row of parameters in a block of its own, that may be written. -/
def RowPW (w : World) (g : Nat) (ps : List Par) : Prop := ∃ cur, w.heap[g]? = some (.cells cur 31 (0, 0)) ∧ RowsP cur ps
theorem RowPW.cells {w : World} {g : Nat} {ps : List Par} (h : RowPW w g ps) (k : Nat) (p : Par) (hk : ps[k]? = some p) : w.cell? ⟨g, k * 2, none⟩ = some (.string p.1) ∧ w.cell? ⟨g, k * 2 + 1, none⟩ = some (.string p.2) := by
  obtain ⟨cur, h1, h2⟩ := h
  obtain ⟨r1, r2⟩ := h2 k p hk
  exact ⟨by simp [World.cell?, h1, r1], by simp [World.cell?, h1, r2]⟩
theorem RowPW.free {w : World} {g : Nat} {ps : List Par} (h : RowPW w g ps) (j : Nat) : w.frozen? ⟨g, j, none⟩ = false := by
  obtain ⟨cur, h1, _⟩ := h
  simp [World.frozen?, h1]
theorem RowPW.lt {w : World} {g : Nat} {ps : List Par} (h : RowPW w g ps) : g < w.heap.size := by
  obtain ⟨cur, h1, _⟩ := h
  exact (Array.getElem?_eq_some_iff.1 h1).1
theorem RowPW.below {w w' : World} {g : Nat} {ps : List Par} (h : RowPW w g ps) (hb : Below w.heap.size w w') : RowPW w' g ps := by
  obtain ⟨cur, h1, h2⟩ := h
  exact ⟨cur, (hb.block g (Array.getElem?_eq_some_iff.1 h1).1).trans h1, h2⟩
theorem RowPW.name {w : World} {g : Nat} {ps : List Par} (h : RowPW w g ps) (i : Nat) (p : Par) (hi : ps[i]? = some p) (n : ByteArray) : RowPW (w.setCell ⟨g, i * 2, none⟩ (.string n)) g (ps.set i (n, p.2)) := by
  obtain ⟨cur, h1, h2⟩ := h
  refine ⟨cur.setIfInBounds (i * 2) (.string n), by simp [World.setCell, Array.getElem?_modify, h1], fun k q hq => ?_⟩
  have hs := (Array.getElem?_eq_some_iff.1 (h2 i p hi).1).1
  rw [List.getElem?_set] at hq
  by_cases e : i = k
  · subst e
    rw [if_pos rfl, if_pos (List.getElem?_eq_some_iff.1 hi).1] at hq
    cases hq
    refine ⟨by rw [Array.getElem?_setIfInBounds, if_pos rfl, if_pos hs], ?_⟩
    rw [Array.getElem?_setIfInBounds, if_neg (by omega)]
    exact (h2 i p hi).2
  · rw [if_neg e] at hq
    rw [Array.getElem?_setIfInBounds, if_neg (by omega), Array.getElem?_setIfInBounds, if_neg (by omega)]
    exact h2 k q hq
theorem rowPW_of {w : World} {B g n cap : Nat} {ps : List Par} (hl : ps.length = n) (h : w.ownsRow B 31 2 (.slice (some ⟨g, 0, none⟩) n cap) n (parCells ps)) : RowPW w g ps ∧ B ≤ g := by
  rcases h.2 with ⟨e, _⟩ | ⟨g', cap', cur, e, hB, hh, _, _, _, ht⟩
  · cases e
  · injection e with e1 e2 e3
    injection e1 with e1
    injection e1 with e1
    subst e1
    refine ⟨⟨cur, hh, fun k c hk => ?_⟩, hB⟩
    obtain ⟨h1, h2⟩ := parCells_at ps k c hk
    have hkl : k < n := by rw [← hl]; exact (List.getElem?_eq_some_iff.1 hk).1
    have tk : ∀ j v, j < n * 2 → (parCells ps)[j]? = some v → cur[j]? = some v := fun j v hj hv => by
      rw [← ht, List.getElem?_take, if_pos hj] at hv
      simpa using hv
    exact ⟨tk _ _ (by omega) h1, tk _ _ (by omega) h2⟩
theorem RowPW.pars {w : World} {g n : Nat} {ps : List Par} (h : RowPW w g ps) (hn : ps.length = n) : Pars w (some ⟨g, 0, none⟩) n g 0 ps :=
  ⟨hn, fun _ => ⟨rfl, h.lt⟩, fun j p hp => by rw [Nat.zero_add]; exact (h.cells j p hp).1, fun j p hp => by rw [Nat.zero_add]; exact (h.cells j p hp).2⟩
/-- The first k names in small letters. -/
def lowK (ps : List Par) (k : Nat) : List Par := (ps.take k).map lowP ++ ps.drop k
theorem lowK_at {ps : List Par} {k : Nat} {p : Par} (h : ps[k]? = some p) : (lowK ps k)[k]? = some p := by
  have hk := (List.getElem?_eq_some_iff.1 h).1
  unfold lowK
  rw [List.getElem?_append_right (by simp; omega), List.length_map, List.length_take, List.getElem?_drop]
  rw [show k + (k - min k ps.length) = k by omega]
  exact h
theorem lowK_step {ps : List Par} {k : Nat} {p : Par} (h : ps[k]? = some p) : (lowK ps k).set k (bs (p.1.data.toList.map low), p.2) = lowK ps (k + 1) := by
  obtain ⟨hk, e⟩ := List.getElem?_eq_some_iff.1 h
  unfold lowK
  rw [List.set_append_right _ _ (by simp; omega), List.length_map, List.length_take, show k - min k ps.length = 0 by omega, List.drop_eq_getElem_cons hk, List.set_cons_zero, List.take_succ_eq_append_getElem hk, List.map_append, e]
  simp [lowP]
theorem lowK_end {ps : List Par} {k : Nat} (h : ps.length ≤ k) : lowK ps k = ps.map lowP := by
  unfold lowK
  rw [List.take_of_length_le h, List.drop_of_length_le h, List.append_nil]
theorem lowK_len (ps : List Par) (k : Nat) : (lowK ps k).length = ps.length := by unfold lowK; simp; omega
theorem mild_low {x : Chal} (h : Mild x) : Mild (lowC x) := by
  refine ⟨⟨by rw [lowC_mild_len]; exact h.1.1, fun p hp => ?_⟩, ?_⟩
  · obtain ⟨q, hq, rfl⟩ := List.mem_map.1 (show p ∈ x.params.map lowP from hp)
    have := h.1.2 q hq
    refine ⟨?_, this.2⟩
    show (bs (q.1.data.toList.map low)).size ≤ _
    rw [bs_size, List.length_map]
    have e : q.1.data.toList.length = q.1.size := Array.length_toList
    omega
  · show (bs (x.scheme.data.toList.map low)).size ≤ _
    rw [bs_size, List.length_map]
    have e : x.scheme.data.toList.length = x.scheme.size := Array.length_toList
    have := h.2
    omega
theorem cloneP_none (a : Option Addr) (cap : Nat) (w : World) : Calls Tryz.prog 11 #[.slice a 0 cap] w fun e w' => (∃ a' cap', e = .returned (.slice a' 0 cap')) ∧ Below w.heap.size w w' := by
  have h1 := sliceNilP
  have h2 := sliceNoneP
  cases a with
  | none =>
    go_enter Tryz.func11, Tryz.ntmps11
    go_wp2
    go_ret
    exact ⟨⟨_, _, rfl⟩, Below.refl _ _⟩
  | some p =>
    go_enter Tryz.func11, Tryz.ntmps11
    go_wp2
    go_ret
    exact ⟨⟨_, _, rfl⟩, (Below.refl _ _).alloc (Nat.le_refl _) _⟩
/-- The row of names in small letters, where it lies. -/
def CloAns (w : World) (ps : List Par) (n : Nat) (v : Value) (B : Nat) : Prop := ∃ a cap, v = .slice a n cap ∧ (n = 0 ∨ ∃ g, a = some ⟨g, 0, none⟩ ∧ RowPW w g ps ∧ B ≤ g)
theorem cloneP_all (ps : List Par) (a0 : Option Addr) (len cap b off : Nat) (hlen : len ≤ 1000) (w : World) (hx : Pars w a0 len b off ps) :
    Calls Tryz.prog 11 #[.slice a0 len cap] w fun e w' => (∃ v, e = .returned v ∧ CloAns w' ps len v w.heap.size) ∧ Below w.heap.size w w' := by
  rcases Nat.eq_zero_or_pos len with h0 | h0
  · subst h0
    refine (cloneP_none a0 cap w).mono ?_
    rintro e w' ⟨⟨a', cap', rfl⟩, hb⟩
    exact ⟨⟨_, rfl, a', cap', rfl, .inl rfl⟩, hb⟩
  · refine (cloneP_any ps a0 len cap b off hlen w hx h0).mono ?_
    rintro e w' ⟨⟨g, cap', rfl, hown⟩, hb⟩
    obtain ⟨h1, h2⟩ := rowPW_of hx.len_eq hown
    exact ⟨⟨_, rfl, _, cap', rfl, .inr ⟨g, rfl, h1, h2⟩⟩, hb⟩
theorem chals_one (w : World) (c : ChV) (hx : ChOk w c) : Chals (w.alloc (.cells #[.string c.x.scheme, .string c.x.token, .slice c.a c.len c.cap] 24)) (some ⟨w.heap.size, 0, none⟩) 1 w.heap.size 0 [c] := by
  have hb1 : Below w.heap.size w (w.alloc (.cells #[.string c.x.scheme, .string c.x.token, .slice c.a c.len c.cap] 24)) := (Below.refl _ _).alloc (Nat.le_refl _) _
  refine ⟨rfl, fun _ => ⟨rfl, by simp⟩, fun j d hd => ?_, fun j d hd => ?_, fun j d hd => ?_, fun d hd => ?_⟩
  · match j, hd with
    | 0, hd => cases hd; exact World.cell?_alloc_mark _ _ _ _ _
    | j + 1, hd => simp at hd
  · match j, hd with
    | 0, hd => cases hd; exact World.cell?_alloc_mark _ _ _ _ _
    | j + 1, hd => simp at hd
  · match j, hd with
    | 0, hd => cases hd; exact World.cell?_alloc_mark _ _ _ _ _
    | j + 1, hd => simp at hd
  · rw [List.mem_singleton.1 hd]
    exact hx.below hb1
theorem fair_mild1 {x : Chal} (h : FairC x) : Mild x := by
  have h1 := h.1
  have h2 := h.2.1
  exact ⟨⟨by omega, fun p hp => by have := h.2.2.2 p hp; omega⟩, by omega⟩
theorem three_at {w : World} {g : Nat} {v0 v1 v2 : Value} {T : TypeId} (h : w.heap[g]? = some (.cells #[v0, v1, v2] T (0, 0))) : w.cell? ⟨g, 0, none⟩ = some v0 ∧ w.cell? ⟨g, 1, none⟩ = some v1 ∧ w.cell? ⟨g, 2, none⟩ = some v2 ∧ ∀ j, w.frozen? ⟨g, j, none⟩ = false :=
  ⟨by simp [World.cell?, h], by simp [World.cell?, h], by simp [World.cell?, h], fun j => by simp [World.frozen?, h]⟩
theorem splitL_le (d : UInt8) : ∀ l, (splitL d l).length ≤ l.length + 1
  | [] => by simp [splitL]
  | c :: t => by
    have ih := splitL_le d t
    unfold splitL
    split
    · simp only [List.length_cons]; omega
    · split
      · simp
      · rename_i p r e
        rw [e] at ih
        simp only [List.length_cons] at ih ⊢
        omega
theorem domL_le (t : List UInt8) : (domL t).length ≤ t.length + 1 := by
  unfold domL
  rw [List.length_map]
  exact Nat.le_trans (List.length_filter_le _ _) (splitL_le 32 t)
theorem known_dom (c : ChV) (hf : Few c.x.params) : ((knownL c.x).getD zeroA).domain.length ≤ 3001 := by
  have h1 := getD_size c kDomain hf
  have h2 := domL_le ((getL c.x.params kDomain).getD ⟨#[]⟩).data.toList
  have h3 : ((getL c.x.params kDomain).getD ⟨#[]⟩).data.toList.length = ((getL c.x.params kDomain).getD ⟨#[]⟩).size := Array.length_toList
  unfold knownL
  split
  · exact Nat.zero_le _
  · split
    · exact Nat.zero_le _
    · split
      · unfold digestL
        split
        · exact Nat.zero_le _
        · split
          · exact Nat.zero_le _
          · split
            · exact Nat.zero_le _
            · show (domL _).length ≤ 3001
              omega
      · exact Nat.zero_le _
set_option maxRecDepth 100000 in
set_option maxHeartbeats 8000000 in
theorem askCase_walk (c : ChV) (hh : Held c.x) (hr : Room c) (w : World) (hx : ChOk w c) :
    Calls Tryz.prog 3 #[.agg #[.string c.x.scheme, .string c.x.token, .slice c.a c.len c.cap]] w fun e w' => e = .returned (.bool true) ∧ Below w.heap.size w w' := by
  have hb0 : Below w.heap.size w (w.alloc (.cells #[.string c.x.scheme, .string c.x.token, .slice c.a c.len c.cap] 24)) := (Below.refl _ _).alloc (Nat.le_refl _) _
  have hn0 := heap_alloc_new w (.cells #[.string c.x.scheme, .string c.x.token, .slice c.a c.len c.cap] 24)
  have HX : Hid (ChOk w c) := hx
  have HR : Hid (Room c ∧ Held c.x) := ⟨hr, hh⟩
  have HN0 : Hid (∀ w', Below (w.alloc (.cells #[.string c.x.scheme, .string c.x.token, .slice c.a c.len c.cap] 24)).heap.size (w.alloc (.cells #[.string c.x.scheme, .string c.x.token, .slice c.a c.len c.cap] 24)) w' → Below w.heap.size w w' ∧ w'.heap[w.heap.size]? = some (.cells #[.string c.x.scheme, .string c.x.token, .slice c.a c.len c.cap] 24 (0, 0))) := fun w' hb => ⟨hb0.trans (hb.mono (by simp)), (hb.block _ (by simp)).trans hn0⟩
  clear hb0 hn0 hx hr hh
  go_enter Tryz.func3, Tryz.ntmps3
  go_wp2_with fail
  generalize hW0 : w.alloc (.cells #[.string c.x.scheme, .string c.x.token, .slice c.a c.len c.cap] 24) = W0 at HN0 ⊢
  clear hW0
  refine (asked_any _).mono ?_
  rintro e w1 ⟨rfl, hb1⟩
  have HB1 : Hid (Below W0.heap.size W0 w1) := hb1
  clear hb1
  go_wp2_with fail
  refine (coded_any _).mono ?_
  rintro e w2 ⟨rfl, hb2⟩
  have HB2 : Hid (Below W0.heap.size W0 w2) := HB1.out.trans (hb2.mono HB1.out.size)
  clear hb2 HB1
  obtain ⟨x0, x1, x2, _⟩ := three_at (HN0.out _ HB2.out).2
  go_wp2_with fail
  have hx2 : ChOk w2 c := HX.out.below (HN0.out _ HB2.out).1
  have hcs := chals_one w2 c hx2
  refine (fair_any [c] (fun d hd => by rw [List.mem_singleton.1 hd]; exact HR.out.2) _ 1 1 _ _ (by decide) (fun d hd => by rw [List.mem_singleton.1 hd]; exact HR.out.1) _ hcs).mono ?_
  rintro e w3 ⟨⟨r, rfl, hf⟩, hb3⟩
  have HB3 : Hid (Below W0.heap.size W0 w3) := by
    have h1 : Below W0.heap.size W0 (w2.alloc (.cells #[.string c.x.scheme, .string c.x.token, .slice c.a c.len c.cap] 24)) := HB2.out.alloc HB2.out.size _
    exact h1.trans (hb3.mono h1.size)
  clear hb3 hx2 hcs x0 x1 x2 HB2
  cases r
  · clear hf
    go_wp2
    go_ret
    exact ⟨rfl, (HN0.out _ HB3.out).1⟩
  have HM : Hid (Mild c.x) := fair_mild1 ((hf rfl).2 c (by simp))
  have HL : Hid (c.x.params.length ≤ 16) := ((hf rfl).2 c (by simp)).2.1
  clear hf
  obtain ⟨x0, x1, x2, _⟩ := three_at (HN0.out _ HB3.out).2
  have hsz : c.x.scheme.size ≤ 4000 := by have := HM.out.2; omega
  have hY := heap_alloc_new w3 (.cells #[.string c.x.scheme, .string c.x.token, .slice c.a c.len c.cap] 24)
  have HY3 : Hid (∀ w', Below (w3.alloc (.cells #[.string c.x.scheme, .string c.x.token, .slice c.a c.len c.cap] 24)).heap.size (w3.alloc (.cells #[.string c.x.scheme, .string c.x.token, .slice c.a c.len c.cap] 24)) w' → Below W0.heap.size W0 w' ∧ w3.heap.size < w'.heap.size ∧ w'.heap[w3.heap.size]? = some (.cells #[.string c.x.scheme, .string c.x.token, .slice c.a c.len c.cap] 24 (0, 0))) := fun w' hb => by
    have h1 : Below W0.heap.size W0 (w3.alloc (.cells #[.string c.x.scheme, .string c.x.token, .slice c.a c.len c.cap] 24)) := HB3.out.alloc HB3.out.size _
    have h2 := hb.size
    rw [show (w3.alloc (.cells #[.string c.x.scheme, .string c.x.token, .slice c.a c.len c.cap] 24)).heap.size = w3.heap.size + 1 by simp] at h2
    exact ⟨h1.trans (hb.mono h1.size), by omega, (hb.block _ (by simp)).trans hY⟩
  clear hY
  obtain ⟨q0, q1, q2, _⟩ := three_at (HN0.out _ (HB3.out.alloc HB3.out.size (.cells #[.string c.x.scheme, .string c.x.token, .slice c.a c.len c.cap] 24))).2
  have hlt0 : w.heap.size < w3.heap.size := by
    have h1 := HB3.out.size
    have h2 := (Array.getElem?_eq_some_iff.1 (HN0.out W0 (Below.refl _ _)).2).1
    omega
  go_wp2_with fail
  refine (lower_any _ _ hsz).mono ?_
  rintro e w4 ⟨rfl, hb4⟩
  obtain ⟨sc, HSC⟩ : ∃ sc, Hid (bs (c.x.scheme.data.toList.map low) = sc) := ⟨_, rfl⟩
  rw [HSC.out]
  have HB4 : Hid (Below W0.heap.size W0 w4 ∧ w3.heap.size < w4.heap.size ∧ w4.heap[w3.heap.size]? = some (.cells #[.string c.x.scheme, .string c.x.token, .slice c.a c.len c.cap] 24 (0, 0))) := HY3.out _ hb4
  clear hb4 HY3 x0 x1 x2 q0 q1 q2
  obtain ⟨x0, x1, x2, fx⟩ := three_at (HN0.out _ HB4.out.1).2
  obtain ⟨y0, y1, y2, fy⟩ := three_at HB4.out.2.2
  have hne : ¬ w3.heap.size = w.heap.size := by
    have h1 := HB3.out.size
    have h2 := (Array.getElem?_eq_some_iff.1 (HN0.out W0 (Below.refl _ _)).2).1
    omega
  have HNE : Hid (¬ w3.heap.size = w.heap.size) := hne
  have hlen : c.len ≤ 1000 := by
    have := HL.out
    unfold ChV.len
    omega
  have hx5 : ChOk (w4.setCell ⟨w3.heap.size, 0, none⟩ (.string sc)) c := by
    have hb5 : Below W0.heap.size W0 (w4.setCell ⟨w3.heap.size, 0, none⟩ (.string sc)) := HB4.out.1.setCell HB3.out.size _
    exact HX.out.below (HN0.out _ hb5).1
  unfold ChOk at hx5
  have HX5 : Hid (Pars (w4.setCell ⟨w3.heap.size, 0, none⟩ (.string sc)) c.a c.len c.b c.off c.x.params) := hx5
  clear hx5
  go_wp2_with fail
  refine (cloneP_all c.x.params c.a c.len c.cap c.b c.off hlen _ HX5.out).mono ?_
  rintro e w5 ⟨⟨v, rfl, hclo⟩, hb5⟩
  obtain ⟨ga, gcap, rfl, hg⟩ := hclo
  have HB4s : Hid (Below W0.heap.size W0 (w4.setCell ⟨w3.heap.size, 0, none⟩ (.string sc)) ∧ (w4.setCell ⟨w3.heap.size, 0, none⟩ (.string sc)).heap[w3.heap.size]? = some (.cells #[.string sc, .string c.x.token, .slice c.a c.len c.cap] 24 (0, 0)) ∧ w3.heap.size < (w4.setCell ⟨w3.heap.size, 0, none⟩ (.string sc)).heap.size) := by
    have h := heap_setCell_same w4 w3.heap.size 0 _ _ (.string sc) HB4.out.2.2
    exact ⟨HB4.out.1.setCell HB3.out.size _, h, (Array.getElem?_eq_some_iff.1 h).1⟩
  generalize w4.setCell ⟨w3.heap.size, 0, none⟩ (.string sc) = W5 at hb5 hg HB4s
  have HB5 : Hid (Below W0.heap.size W0 w5 ∧ w5.heap[w3.heap.size]? = some (.cells #[.string sc, .string c.x.token, .slice c.a c.len c.cap] 24 (0, 0))) := ⟨HB4s.out.1.trans (hb5.mono HB4s.out.1.size), (hb5.block _ HB4s.out.2.2).trans HB4s.out.2.1⟩
  have h6 := heap_setCell_same w5 w3.heap.size 2 _ _ (.slice ga c.len gcap) HB5.out.2
  have H6 : Hid (Below W0.heap.size W0 (w5.setCell ⟨w3.heap.size, 2, none⟩ (.slice ga c.len gcap)) ∧ (w5.setCell ⟨w3.heap.size, 2, none⟩ (.slice ga c.len gcap)).heap[w3.heap.size]? = some (.cells #[.string sc, .string c.x.token, .slice ga c.len gcap] 24 (0, 0)) ∧ (c.len = 0 ∨ ∃ g, ga = some ⟨g, 0, none⟩ ∧ RowPW (w5.setCell ⟨w3.heap.size, 2, none⟩ (.slice ga c.len gcap)) g c.x.params ∧ w3.heap.size < g)) := by
    refine ⟨HB5.out.1.setCell HB3.out.size _, h6, ?_⟩
    rcases hg with h | ⟨g, rfl, hrow, hB⟩
    · exact .inl h
    · have hgy : w3.heap.size < g := by have := HB4s.out.2.2; omega
      obtain ⟨cur, r1, r2⟩ := hrow
      exact .inr ⟨g, rfl, ⟨cur, (Below.heap_setCell w5 ⟨w3.heap.size, 2, none⟩ _ g (by show g ≠ w3.heap.size; omega)).trans r1, r2⟩, hgy⟩
  obtain ⟨y0', y1', y2', fy'⟩ := three_at HB5.out.2
  have HWZ : Hid (Below w5.heap.size w5 w5) := Below.refl _ _
  clear hb5 hg h6 HX5 x0 x1 x2 fx y0 y1 y2 fy
  go_wp2
  generalize w5.setCell ⟨w3.heap.size, 2, none⟩ (.slice ga c.len gcap) = W6 at H6 ⊢
  clear y0' y1' y2' fy' HB5 HB4s HWZ HB4
  go_loopw [31] (fun i wr => ∃ (k : Nat), k ≤ c.len ∧ i = .int .i64 k ∧ Hid (Below W0.heap.size W0 wr ∧ wr.heap[w3.heap.size]? = some (.cells #[.string sc, .string c.x.token, .slice ga c.len gcap] 24 (0, 0)) ∧ (c.len = 0 ∨ ∃ g, ga = some ⟨g, 0, none⟩ ∧ RowPW wr g (lowK c.x.params k) ∧ w3.heap.size < g))) (fun i _ => c.len - (intOf i).toNat)
  case atStart => exact ⟨0, Nat.zero_le _, rfl, ⟨H6.out.1, H6.out.2.1, by
    have e : lowK c.x.params 0 = c.x.params := by unfold lowK; simp
    rw [e]; exact H6.out.2.2⟩⟩
  case round =>
    obtain ⟨k, hk, rfl, HK⟩ := hrel
    by_cases hlt : k < c.len
    · have hkL : (k : Int) < (c.len : Int) := by omega
      obtain ⟨p, hpk⟩ : ∃ p, c.x.params[k]? = some p := ⟨c.x.params[k]'hlt, List.getElem?_eq_getElem hlt⟩
      obtain ⟨g, hga, hrow, hgy⟩ : ∃ g, ga = some ⟨g, 0, none⟩ ∧ RowPW wr g (lowK c.x.params k) ∧ w3.heap.size < g := by
        rcases HK.out.2.2 with h | h
        · omega
        · exact h
      subst hga
      have hat := lowK_at hpk
      have HS : Hid (c.x.params[k]? = some p ∧ RowPW wr g (lowK c.x.params k) ∧ w3.heap.size < g ∧ (lowK c.x.params k)[k]? = some p) := ⟨hpk, hrow, hgy, hat⟩
      have hc1 : wr.drew.cell? ⟨g, k * 2, none⟩ = some (.string p.1) := (hrow.cells k p hat).1
      have hp1 : p.1.size ≤ 4000 := by have := HM.out.1.2 p (List.mem_of_getElem? hpk); omega
      have hQ : wr.drew.cell? ⟨w3.heap.size, 2, none⟩ = some (.slice (some ⟨g, 0, none⟩) c.len gcap) ∧ wr.drew.cell? ⟨g, k * 2, none⟩ = some (.string p.1) := ⟨(three_at HK.out.2.1).2.2.1, hc1⟩
      have hlen2 : c.len ≤ gcap ∨ True := .inr trivial
      clear hpk hrow hat hgy
      obtain ⟨nm, HNM⟩ : ∃ nm, Hid (bs (p.1.data.toList.map low) = nm) := ⟨_, rfl⟩
      have hlow : ∀ W, Calls Tryz.prog 10 #[.string p.1] W fun e w' => e = .returned (.string nm) ∧ Below W.heap.size W w' := fun W => by
        have h := lower_any p.1 W hp1
        rw [HNM.out] at h
        exact h
      have HG : Hid (∀ w', Below wr.drew.heap.size wr.drew w' → RowPW w' g (lowK c.x.params k) ∧ w'.heap[w3.heap.size]? = some (.cells #[.string sc, .string c.x.token, .slice (some ⟨g, 0, none⟩) c.len gcap] 24 (0, 0)) ∧ Below W0.heap.size W0 w') := fun w' hb => by
        have hb' : Below wr.heap.size wr w' := (Below.refl _ _).drew.trans hb
        refine ⟨HS.out.2.1.below hb', (hb'.block _ (Array.getElem?_eq_some_iff.1 HK.out.2.1).1).trans HK.out.2.1, HK.out.1.trans (hb'.mono HK.out.1.size)⟩
      have HGY : Hid (w3.heap.size ≠ g ∧ W0.heap.size ≤ w3.heap.size) := ⟨by have := HS.out.2.2.1; omega, HB3.out.size⟩
      go_wp2_with fail
      obtain ⟨hQa, hQb⟩ := hQ
      go_region_with (go_at_call 10; refine (hlow _).mono ?_; rintro e w2 ⟨rfl, hb2⟩; have HF : Hid (RowPW w2 g (lowK c.x.params k) ∧ w2.heap[w3.heap.size]? = some (.cells #[.string sc, .string c.x.token, .slice (some ⟨g, 0, none⟩) c.len gcap] 24 (0, 0)) ∧ Below W0.heap.size W0 w2) := HG.out _ hb2; have n2 : w2.cell? ⟨g, k * 2, none⟩ = some (.string p.1) := (HF.out.1.cells k p HS.out.2.2.2).1; have f2 : ∀ j, w2.frozen? ⟨g, j, none⟩ = false := HF.out.1.free; have m2 : w2.cell? ⟨w3.heap.size, 2, none⟩ = some (.slice (some ⟨g, 0, none⟩) c.len gcap) := (three_at HF.out.2.1).2.2.1; clear hb2)
      all_goals
        have HE : Hid (Below W0.heap.size W0 (w2.setCell ⟨g, k * 2, none⟩ (.string nm)) ∧ (w2.setCell ⟨g, k * 2, none⟩ (.string nm)).heap[w3.heap.size]? = some (.cells #[.string sc, .string c.x.token, .slice (some ⟨g, 0, none⟩) c.len gcap] 24 (0, 0)) ∧ (c.len = 0 ∨ ∃ g', (some ⟨g, 0, none⟩ : Option Addr) = some ⟨g', 0, none⟩ ∧ RowPW (w2.setCell ⟨g, k * 2, none⟩ (.string nm)) g' (lowK c.x.params (k + 1)) ∧ w3.heap.size < g')) := by
          have h1 := HF.out.1.name k p HS.out.2.2.2 nm
          rw [← HNM.out, lowK_step HS.out.1, HNM.out] at h1
          exact ⟨HF.out.2.2.setCell (by show W0.heap.size ≤ g; have := HGY.out.2; have := HS.out.2.2.1; omega) _, (Below.heap_setCell w2 ⟨g, k * 2, none⟩ _ w3.heap.size HGY.out.1).trans HF.out.2.1, .inr ⟨g, rfl, h1, HS.out.2.2.1⟩⟩
        clear n2 f2 m2 hQa hQb hc1 hlow
        go_wp2
        go_roundw
        case rel => exact ⟨k + 1, by omega, by go_num, HE⟩
        case measure => simp [intOf]; omega
    · have hkL : ¬ (k : Int) < (c.len : Int) := by omega
      have hke : k = c.len := by omega
      obtain ⟨cy, HCY⟩ : ∃ cy : ChV, Hid (cy.x = ⟨sc, c.x.token, c.x.params.map lowP⟩ ∧ cy.a = ga ∧ cy.cap = gcap ∧ ChOk wr cy ∧ cy.x = lowC c.x) := by
        have e0 : lowC c.x = ⟨sc, c.x.token, c.x.params.map lowP⟩ := by unfold lowC; rw [HSC.out]
        rcases HK.out.2.2 with h | ⟨g, hga, hrow, hgy⟩
        · have hp0 : c.x.params = [] := List.eq_nil_of_length_eq_zero h
          refine ⟨⟨⟨sc, c.x.token, c.x.params.map lowP⟩, ga, gcap, 0, 0⟩, rfl, rfl, rfl, ?_, e0.symm⟩
          unfold ChOk
          refine ⟨rfl, fun h0 => ?_, fun j p hp => ?_, fun j p hp => ?_⟩
          · unfold ChV.len at h0; simp [hp0] at h0
          · simp [hp0] at hp
          · simp [hp0] at hp
        · refine ⟨⟨⟨sc, c.x.token, c.x.params.map lowP⟩, ga, gcap, g, 0⟩, rfl, rfl, rfl, ?_, e0.symm⟩
          unfold ChOk
          rw [lowK_end (by unfold ChV.len at hke; omega)] at hrow
          subst hga
          exact hrow.pars rfl
      have HKM : Hid (knownL cy.x = knownL c.x ∧ Mild cy.x ∧ cy.len = c.len) := by
        rw [show cy.x = lowC c.x from HCY.out.2.2.2.2]
        refine ⟨known_low _, mild_low HM.out, ?_⟩
        unfold ChV.len
        rw [show cy.x = lowC c.x from HCY.out.2.2.2.2, lowC_mild_len]
      have HXW : Hid (Below w.heap.size w wr ∧ ChOk wr c) := ⟨(HN0.out _ HK.out.1).1, HX.out.below (HN0.out _ HK.out.1).1⟩
      obtain ⟨x0, x1, x2, _⟩ := three_at (HN0.out _ HK.out.1).2
      clear hke
      go_wp2_with fail
      refine (known_any c HM.out _ HXW.out.2).mono ?_
      rintro e w5 ⟨⟨dv, rfl, hown⟩, hb5⟩
      obtain ⟨ea, ec, eg, rfl, hse⟩ := hown.strs
      have HB5 : Hid (Below W0.heap.size W0 w5 ∧ w5.heap[w3.heap.size]? = some (.cells #[.string sc, .string c.x.token, .slice ga c.len gcap] 24 (0, 0)) ∧ ChOk w5 cy) := ⟨HK.out.1.trans (hb5.mono HK.out.1.size), (hb5.block _ (Array.getElem?_eq_some_iff.1 HK.out.2.1).1).trans HK.out.2.1, (show ChOk wr cy from HCY.out.2.2.2.1).below hb5⟩
      have hky : ∀ W, ChOk W cy → Calls Tryz.prog 12 #[.agg #[.string sc, .string c.x.token, .slice ga c.len gcap]] W fun e w' => KnAns (knownL c.x) W.heap.size e w' ∧ Below W.heap.size W w' := fun W hW => by
        have h := known_any cy HKM.out.2.1 W hW
        rw [HKM.out.1, HKM.out.2.2, show cy.x = ⟨sc, c.x.token, c.x.params.map lowP⟩ from HCY.out.1, show cy.a = ga from HCY.out.2.1, show cy.cap = gcap from HCY.out.2.2.1] at h
        exact h
      obtain ⟨o, HO⟩ : ∃ o, Hid (knownL c.x = o) := ⟨_, rfl⟩
      rw [HO.out] at hse ⊢
      have hky' : ∀ W, ChOk W cy → Calls Tryz.prog 12 #[.agg #[.string sc, .string c.x.token, .slice ga c.len gcap]] W fun e w' => KnAns o W.heap.size e w' ∧ Below W.heap.size W w' := fun W hW => by
        have h := hky W hW
        rw [HO.out] at h
        exact h
      obtain ⟨B0, HB0⟩ : ∃ B0, Hid (o.getD zeroA = B0) := ⟨_, rfl⟩
      rw [HB0.out] at hse ⊢
      obtain ⟨el, HEL⟩ : ∃ el, Hid (B0.domain.length = el) := ⟨_, rfl⟩
      rw [HEL.out] at hse ⊢
      obtain ⟨ok, HOK⟩ : ∃ ok, Hid (o.isSome = ok) := ⟨_, rfl⟩
      rw [HOK.out]
      unfold askVal
      have HSE : Hid (Strs w5 ea el eg 0 B0.domain) := hse
      clear hown hb5 hky hse x0 x1 x2
      obtain ⟨y0, y1, y2, _⟩ := three_at HB5.out.2.1
      have hba : Below w5.heap.size w5 (w5.alloc (.cells #[.int .i64 (B0.scheme : Int), .string B0.realm, .string B0.nonce, .string B0.opq, .bool B0.sess, .string B0.qop, .bool B0.stale, .slice ea el ec] 34)) := (Below.refl _ _).alloc (Nat.le_refl _) _
      have hnew : (w5.alloc (.cells #[.int .i64 (B0.scheme : Int), .string B0.realm, .string B0.nonce, .string B0.opq, .bool B0.sess, .string B0.qop, .bool B0.stale, .slice ea el ec] 34)).heap[w5.heap.size]? = some (.cells #[.int .i64 (B0.scheme : Int), .string B0.realm, .string B0.nonce, .string B0.opq, .bool B0.sess, .string B0.qop, .bool B0.stale, .slice ea el ec] 34 (0, 0)) := heap_alloc_new w5 _
      have HA : Hid (Below W0.heap.size W0 (w5.alloc (.cells #[.int .i64 (B0.scheme : Int), .string B0.realm, .string B0.nonce, .string B0.opq, .bool B0.sess, .string B0.qop, .bool B0.stale, .slice ea el ec] 34)) ∧ ChOk (w5.alloc (.cells #[.int .i64 (B0.scheme : Int), .string B0.realm, .string B0.nonce, .string B0.opq, .bool B0.sess, .string B0.qop, .bool B0.stale, .slice ea el ec] 34)) cy ∧ Strs (w5.alloc (.cells #[.int .i64 (B0.scheme : Int), .string B0.realm, .string B0.nonce, .string B0.opq, .bool B0.sess, .string B0.qop, .bool B0.stale, .slice ea el ec] 34)) ea el eg 0 B0.domain ∧ _ ∧ w5.heap.size < (w5.alloc (.cells #[.int .i64 (B0.scheme : Int), .string B0.realm, .string B0.nonce, .string B0.opq, .bool B0.sess, .string B0.qop, .bool B0.stale, .slice ea el ec] 34)).heap.size) := ⟨HB5.out.1.trans (hba.mono HB5.out.1.size), (show ChOk w5 cy from HB5.out.2.2).below hba, (show Strs w5 ea el eg 0 B0.domain from HSE.out).below hba, hnew, by simp⟩
      have yz0 : (w5.alloc (.cells #[.int .i64 (B0.scheme : Int), .string B0.realm, .string B0.nonce, .string B0.opq, .bool B0.sess, .string B0.qop, .bool B0.stale, .slice ea el ec] 34)).heap[w3.heap.size]? = some (.cells #[.string sc, .string c.x.token, .slice ga c.len gcap] 24 (0, 0)) := (hba.block _ (Array.getElem?_eq_some_iff.1 HB5.out.2.1).1).trans HB5.out.2.1
      obtain ⟨z0, z1, z2, _⟩ := three_at yz0
      have hl35 : w3.heap.size < w5.heap.size := (Array.getElem?_eq_some_iff.1 HB5.out.2.1).1
      clear hba hnew yz0
      go_wp2_with fail
      refine (hky' _ HA.out.2.1).mono ?_
      rintro e w6 ⟨⟨dv, rfl, hown⟩, hb6⟩
      obtain ⟨fa, fc, fg, rfl, hsf⟩ := hown.strs
      rw [HB0.out, HEL.out] at hsf ⊢
      rw [HOK.out]
      unfold askVal
      have HB6 : Hid (Below W0.heap.size W0 w6 ∧ Strs w6 ea el eg 0 B0.domain ∧ Strs w6 fa el fg 0 B0.domain ∧ w6.heap[w5.heap.size]? = some (.cells #[.int .i64 (B0.scheme : Int), .string B0.realm, .string B0.nonce, .string B0.opq, .bool B0.sess, .string B0.qop, .bool B0.stale, .slice ea el ec] 34 (0, 0))) := ⟨HA.out.1.trans (hb6.mono HA.out.1.size), (show Strs _ ea el eg 0 B0.domain from HA.out.2.2.1).below hb6, hsf, (hb6.block _ HA.out.2.2.2.2).trans HA.out.2.2.2.1⟩
      clear hown hb6 hsf hky' z0 z1 z2 y0 y1 y2 hl35 HA
      have hbb : Below w6.heap.size w6 (w6.alloc (.cells #[.int .i64 (B0.scheme : Int), .string B0.realm, .string B0.nonce, .string B0.opq, .bool B0.sess, .string B0.qop, .bool B0.stale, .slice fa el fc] 34)) := (Below.refl _ _).alloc (Nat.le_refl _) _
      have hnb : (w6.alloc (.cells #[.int .i64 (B0.scheme : Int), .string B0.realm, .string B0.nonce, .string B0.opq, .bool B0.sess, .string B0.qop, .bool B0.stale, .slice fa el fc] 34)).heap[w6.heap.size]? = some (.cells #[.int .i64 (B0.scheme : Int), .string B0.realm, .string B0.nonce, .string B0.opq, .bool B0.sess, .string B0.qop, .bool B0.stale, .slice fa el fc] 34 (0, 0)) := heap_alloc_new w6 _
      have hna : (w6.alloc (.cells #[.int .i64 (B0.scheme : Int), .string B0.realm, .string B0.nonce, .string B0.opq, .bool B0.sess, .string B0.qop, .bool B0.stale, .slice fa el fc] 34)).heap[w5.heap.size]? = some (.cells #[.int .i64 (B0.scheme : Int), .string B0.realm, .string B0.nonce, .string B0.opq, .bool B0.sess, .string B0.qop, .bool B0.stale, .slice ea el ec] 34 (0, 0)) := (hbb.block _ (Array.getElem?_eq_some_iff.1 HB6.out.2.2.2).1).trans HB6.out.2.2.2
      have HF : Hid (Below W0.heap.size W0 (w6.alloc (.cells #[.int .i64 (B0.scheme : Int), .string B0.realm, .string B0.nonce, .string B0.opq, .bool B0.sess, .string B0.qop, .bool B0.stale, .slice fa el fc] 34)) ∧ Strs (w6.alloc (.cells #[.int .i64 (B0.scheme : Int), .string B0.realm, .string B0.nonce, .string B0.opq, .bool B0.sess, .string B0.qop, .bool B0.stale, .slice fa el fc] 34)) ea el eg 0 B0.domain ∧ Strs (w6.alloc (.cells #[.int .i64 (B0.scheme : Int), .string B0.realm, .string B0.nonce, .string B0.opq, .bool B0.sess, .string B0.qop, .bool B0.stale, .slice fa el fc] 34)) fa el fg 0 B0.domain) := ⟨HB6.out.1.trans (hbb.mono HB6.out.1.size), (show Strs w6 ea el eg 0 B0.domain from HB6.out.2.1).below hbb, (show Strs w6 fa el fg 0 B0.domain from HB6.out.2.2.1).below hbb⟩
      generalize hWB : (w6.alloc (.cells #[.int .i64 (B0.scheme : Int), .string B0.realm, .string B0.nonce, .string B0.opq, .bool B0.sess, .string B0.qop, .bool B0.stale, .slice fa el fc] 34)) = WB at hnb hna HF
      obtain ⟨⟨s0, s1, s2, s3, s4, s5, s6, s7⟩, _⟩ := eight hna
      obtain ⟨⟨t0, t1, t2, t3, t4, t5, t6, t7⟩, _⟩ := eight hnb
      clear hbb hnb hna
      go_wp2_with fail
      refine (equal_same ea fa el ec eg 0 fc fg 0 B0.domain _ (by have := HEL.out; have h := known_dom c HM.out.1; rw [HO.out, HB0.out] at h; omega) HF.out.2.1 HF.out.2.2).mono ?_
      rintro e w7 ⟨rfl, q, rfl⟩
      go_wp2
      go_ret
      exact ⟨rfl, drewN_at (HN0.out _ HF.out.1).1 q⟩
end Go.Proofs.YtooaiamfbmjmnaaGreatDoor
