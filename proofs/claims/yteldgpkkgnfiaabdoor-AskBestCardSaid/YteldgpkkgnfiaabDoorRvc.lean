/- A row of challenges turned around, by the library's own function. -/
import Derived.Test.YteldgpkkgnfiaabDoorClc
import Derived.Test.YteldgpkkgnfiaabDoorRdp
import Derived.RegionTactic
namespace Go.Proofs.YteldgpkkgnfiaabDoor
open Go.RowKit

/-- These challenges' own cells stand in the array. -/
def RowsC (cur : Array Value) (ds : List ChV) : Prop := ∀ (k : Nat) (c : ChV), ds[k]? = some c → cur[k * 3]? = some (.string c.x.scheme) ∧ cur[k * 3 + 1]? = some (.string c.x.token) ∧ cur[k * 3 + 2]? = some (.slice c.a c.len c.cap)
def put3 (cur : Array Value) (i : Nat) (c : ChV) : Array Value := ((cur.setIfInBounds (i * 3) (.string c.x.scheme)).setIfInBounds (i * 3 + 1) (.string c.x.token)).setIfInBounds (i * 3 + 2) (.slice c.a c.len c.cap)
theorem put3_rows {cur : Array Value} {ds : List ChV} (h : RowsC cur ds) (i : Nat) (hi : i < ds.length) (c : ChV) : RowsC (put3 cur i c) (ds.set i c) := by
  have hz : i * 3 + 2 < cur.size := by
    have := (h i _ (List.getElem?_eq_getElem hi)).2.2
    exact (Array.getElem?_eq_some_iff.1 this).1
  intro k d hk
  rw [List.getElem?_set] at hk
  unfold put3
  simp only [Array.getElem?_setIfInBounds, Array.size_setIfInBounds]
  by_cases e : i = k
  · subst e
    rw [if_pos rfl, if_pos hi] at hk
    cases hk
    refine ⟨?_, ?_, ?_⟩
    · rw [if_neg (by omega), if_neg (by omega), if_pos rfl, if_pos (by omega)]
    · rw [if_neg (by omega), if_pos rfl, if_pos (by omega)]
    · rw [if_pos rfl, if_pos (by omega)]
  · rw [if_neg e] at hk
    obtain ⟨h1, h2, h3⟩ := h k d hk
    refine ⟨?_, ?_, ?_⟩
    · rw [if_neg (by omega), if_neg (by omega), if_neg (by omega)]; exact h1
    · rw [if_neg (by omega), if_neg (by omega), if_neg (by omega)]; exact h2
    · rw [if_neg (by omega), if_neg (by omega), if_neg (by omega)]; exact h3
/-- The first k, and the last k, have changed places. -/
def RevK (cs ds : List ChV) (n k : Nat) : Prop := ds.length = n ∧ ∀ m, m < n → ds[m]? = if m < k ∨ n < m + 1 + k then cs[n - 1 - m]? else cs[m]?
theorem revK_zero (cs : List ChV) : RevK cs cs cs.length 0 := ⟨rfl, fun m hm => by rw [if_neg (by omega)]⟩
theorem revK_step {cs ds : List ChV} {n k : Nat} {ci cj : ChV} (h : RevK cs ds n k) (hk : 2 * k + 1 < n) (hi : ds[k]? = some ci) (hj : ds[n - 1 - k]? = some cj) : RevK cs ((ds.set k cj).set (n - 1 - k) ci) n (k + 1) := by
  have h1 := h.2 k (by omega)
  rw [if_neg (by omega), hi] at h1
  have h2 := h.2 (n - 1 - k) (by omega)
  rw [if_neg (by omega), hj] at h2
  refine ⟨by simp [h.1], fun m hm => ?_⟩
  rw [List.getElem?_set, List.getElem?_set, List.length_set, h.1]
  by_cases e1 : n - 1 - k = m
  · rw [if_pos e1, if_pos (by omega), if_pos (by omega), h1]
    congr 1
    omega
  · rw [if_neg e1]
    by_cases e2 : k = m
    · rw [if_pos e2, if_pos (by omega), if_pos (by omega), h2]
      congr 1
      omega
    · rw [if_neg e2, h.2 m hm]
      by_cases e3 : m < k ∨ n < m + 1 + k
      · rw [if_pos e3, if_pos (by omega)]
      · rw [if_neg e3, if_neg (by omega)]
theorem revK_end {cs ds : List ChV} {n k : Nat} (hc : cs.length = n) (h : RevK cs ds n k) (hk : n ≤ 2 * k + 1) : ds = cs.reverse := by
  refine List.ext_getElem? fun m => ?_
  by_cases hm : m < n
  · rw [List.getElem?_reverse (by omega), hc, h.2 m hm]
    by_cases e : m < k ∨ n < m + 1 + k
    · rw [if_pos e]
    · rw [if_neg e]
      congr 1
      omega
  · rw [List.getElem?_eq_none (by rw [h.1]; omega), List.getElem?_eq_none (by simp; omega)]
/-- A row of challenges in a block of its own, that may be written. -/
def RowW (w : World) (g : Nat) (ds : List ChV) : Prop := ∃ cur, w.heap[g]? = some (.cells cur 33 (0, 0)) ∧ RowsC cur ds
theorem RowW.cells {w : World} {g : Nat} {ds : List ChV} (h : RowW w g ds) (k : Nat) (c : ChV) (hk : ds[k]? = some c) : w.cell? ⟨g, k * 3, none⟩ = some (.string c.x.scheme) ∧ w.cell? ⟨g, k * 3 + 1, none⟩ = some (.string c.x.token) ∧ w.cell? ⟨g, k * 3 + 2, none⟩ = some (.slice c.a c.len c.cap) := by
  obtain ⟨cur, h1, h2⟩ := h
  obtain ⟨r1, r2, r3⟩ := h2 k c hk
  exact ⟨by simp [World.cell?, h1, r1], by simp [World.cell?, h1, r2], by simp [World.cell?, h1, r3]⟩
theorem RowW.free {w : World} {g : Nat} {ds : List ChV} (h : RowW w g ds) (j : Nat) : w.frozen? ⟨g, j, none⟩ = false := by
  obtain ⟨cur, h1, _⟩ := h
  simp [World.frozen?, h1]
def setC (w : World) (g i : Nat) (c : ChV) : World := ((w.setCell ⟨g, i * 3, none⟩ (.string c.x.scheme)).setCell ⟨g, i * 3 + 1, none⟩ (.string c.x.token)).setCell ⟨g, i * 3 + 2, none⟩ (.slice c.a c.len c.cap)
theorem RowW.set {w : World} {g : Nat} {ds : List ChV} (h : RowW w g ds) (i : Nat) (hi : i < ds.length) (c : ChV) : RowW (setC w g i c) g (ds.set i c) := by
  obtain ⟨cur, h1, h2⟩ := h
  refine ⟨put3 cur i c, ?_, put3_rows h2 i hi c⟩
  unfold setC put3
  simp [World.setCell, Array.getElem?_modify, h1]
theorem setC_grown (w : World) (g i : Nat) (c : ChV) : w.grownBy (setC w g i c) (some g) := by
  unfold setC
  exact grown_trans (grown_trans (grown_set _ g _ _) (grown_set _ g _ _)) (grown_set _ g _ _)
theorem RowW.drew {w : World} {g : Nat} {ds : List ChV} (h : RowW w g ds) : RowW w.drew g ds := h
set_option maxRecDepth 100000 in
set_option maxHeartbeats 4000000 in
theorem reverseC_any (cs : List ChV) (g n cap : Nat) (hl : cs.length = n) (hn : n ≤ 1000) (w : World) (hx : RowW w g cs) :
    Calls Tryd.prog 14 #[.slice (some ⟨g, 0, none⟩) n cap] w fun e w' => e = .returned (.tuple #[]) ∧ Hid (RowW w' g cs.reverse ∧ w.grownBy w' (some g)) := by
  have HX : Hid (RowW w g cs) := hx
  have HL : Hid (cs.length = n) := hl
  clear hx hl
  go_enter Tryd.func14, Tryd.ntmps14
  go_wp2
  go_loopw [2, 3] (fun i j wr => ∃ (k : Nat) (jz : Int) (ds : List ChV), k ≤ n ∧ i = .int .i64 k ∧ j = .int .i64 jz ∧ jz = (n : Int) - 1 - (k : Int) ∧ Hid (RevK cs ds n k ∧ RowW wr g ds ∧ w.grownBy wr (some g))) (fun i _ _ => n - (intOf i).toNat)
  case atStart => exact ⟨0, _, cs, Nat.zero_le _, rfl, rfl, by omega, ⟨by rw [← HL.out]; exact revK_zero cs, HX.out, grown_drewN w 0 _⟩⟩
  case round =>
    obtain ⟨k, jz, ds, hk, rfl, rfl, hjz, HI⟩ := hrel
    by_cases hlt : (k : Int) < jz
    · obtain ⟨jn, hjn⟩ : ∃ jn : Nat, jz = jn := ⟨jz.toNat, by omega⟩
      subst hjn
      have hkn : 2 * k + 1 < n := by omega
      have hjk : jn = n - 1 - k := by omega
      have hdl : ds.length = n := HI.out.1.1
      obtain ⟨ci, hci⟩ : ∃ c, ds[k]? = some c := ⟨ds[k]'(by omega), List.getElem?_eq_getElem (by omega)⟩
      obtain ⟨cj, hcj⟩ : ∃ c, ds[jn]? = some c := ⟨ds[jn]'(by omega), List.getElem?_eq_getElem (by omega)⟩
      have HST : Hid (RevK cs ((ds.set k cj).set jn ci) n (k + 1)) := by
        have := revK_step HI.out.1 hkn hci (by rw [← hjk]; exact hcj)
        rw [← hjk] at this
        exact this
      obtain ⟨a1, a2, a3⟩ := HI.out.2.1.cells k ci hci
      obtain ⟨b1, b2, b3⟩ := HI.out.2.1.cells jn cj hcj
      have HDL : Hid (ds.length = n) := hdl
      have fr : ∀ j, wr.frozen? ⟨g, j, none⟩ = false := HI.out.2.1.free
      clear hci hcj hdl hjk
      have hkL : (k : Int) < (n : Int) := by omega
      have hjL : (jn : Int) < (n : Int) := by omega
      have HJZ : Hid ((jn : Int) = (n : Int) - 1 - (k : Int)) := hjz
      have hk3 : ¬ jn * 3 = k * 3 := by omega
      clear hjz hkn
      go_wp2
      go_region
      have z1 := (HI.out.2.1.set k (by have := HDL.out; omega) cj).set jn (by rw [List.length_set]; have := HDL.out; omega) ci
      have z2 := grown_trans (setC_grown wr g k cj) (setC_grown (setC wr g k cj) g jn ci)
      unfold setC at z1 z2
      have HZ : Hid (RowW _ g ((ds.set k cj).set jn ci) ∧ w.grownBy _ (some g)) := ⟨z1.drew, grown_trans (grown_trans HI.out.2.2 z2) (grown_drewN _ 1 _)⟩
      clear z1 z2 a1 a2 a3 b1 b2 b3 fr
      go_wp2
      go_roundw
      case rel => exact ⟨k + 1, _, _, by omega, by go_num, rfl, by have := HJZ.out; push_cast; omega, ⟨HST.out, HZ.out.1, HZ.out.2⟩⟩
      case measure => simp [intOf]; omega
    · have HE : Hid (ds = cs.reverse) := revK_end HL.out HI.out.1 (by omega)
      clear hjz
      go_wp2
      go_end0
      exact ⟨rfl, ⟨by rw [← HE.out]; exact HI.out.2.1, HI.out.2.2⟩⟩
end Go.Proofs.YteldgpkkgnfiaabDoor
