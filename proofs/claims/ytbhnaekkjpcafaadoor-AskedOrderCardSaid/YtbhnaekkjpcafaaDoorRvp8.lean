/- A row of parameters turned around, by the library's own function. -/
import Derived.Test.YtbhnaekkjpcafaaDoorRwP
import Derived.RegionTactic
namespace Go.Proofs.YtbhnaekkjpcafaaDoor
open Go.RowKit

def put2p (cur : Array Value) (i : Nat) (c : Par) : Array Value := (cur.setIfInBounds (i * 2) (.string c.1)).setIfInBounds (i * 2 + 1) (.string c.2)
theorem put2p_rows {cur : Array Value} {ds : List Par} (h : RowsP cur ds) (i : Nat) (hi : i < ds.length) (c : Par) : RowsP (put2p cur i c) (ds.set i c) := by
  have hz : i * 2 + 1 < cur.size := by
    have := (h i _ (List.getElem?_eq_getElem hi)).2
    exact (Array.getElem?_eq_some_iff.1 this).1
  intro k d hk
  rw [List.getElem?_set] at hk
  unfold put2p
  simp only [Array.getElem?_setIfInBounds, Array.size_setIfInBounds]
  by_cases e : i = k
  · subst e
    rw [if_pos rfl, if_pos hi] at hk
    cases hk
    refine ⟨?_, ?_⟩
    · rw [if_neg (by omega), if_pos rfl, if_pos (by omega)]
    · rw [if_pos rfl, if_pos (by omega)]
  · rw [if_neg e] at hk
    obtain ⟨h1, h2⟩ := h k d hk
    refine ⟨?_, ?_⟩
    · rw [if_neg (by omega), if_neg (by omega)]; exact h1
    · rw [if_neg (by omega), if_neg (by omega)]; exact h2
/-- The first k, and the last k, have changed places. -/
def RevP (cs ds : List Par) (n k : Nat) : Prop := ds.length = n ∧ ∀ m, m < n → ds[m]? = if m < k ∨ n < m + 1 + k then cs[n - 1 - m]? else cs[m]?
theorem revP_zero (cs : List Par) : RevP cs cs cs.length 0 := ⟨rfl, fun m hm => by rw [if_neg (by omega)]⟩
theorem revP_step {cs ds : List Par} {n k : Nat} {ci cj : Par} (h : RevP cs ds n k) (hk : 2 * k + 1 < n) (hi : ds[k]? = some ci) (hj : ds[n - 1 - k]? = some cj) : RevP cs ((ds.set k cj).set (n - 1 - k) ci) n (k + 1) := by
  have h1 := h.2 k (by omega)
  rw [if_neg (by omega), hi] at h1
  have h2 := h.2 (n - 1 - k) (by omega)
  rw [if_neg (by omega), hj] at h2
  refine ⟨by simp [h.1], fun m hm => ?_⟩
  rw [List.getElem?_set, List.getElem?_set, List.length_set, h.1]
  by_cases e1 : n - 1 - k = m
  · rw [if_pos e1, if_pos (by omega), if_pos (by omega), h1]
    congr 1
    omega
  · rw [if_neg e1]
    by_cases e2 : k = m
    · rw [if_pos e2, if_pos (by omega), if_pos (by omega), h2]
      congr 1
      omega
    · rw [if_neg e2, h.2 m hm]
      by_cases e3 : m < k ∨ n < m + 1 + k
      · rw [if_pos e3, if_pos (by omega)]
      · rw [if_neg e3, if_neg (by omega)]
theorem revP_end {cs ds : List Par} {n k : Nat} (hc : cs.length = n) (h : RevP cs ds n k) (hk : n ≤ 2 * k + 1) : ds = cs.reverse := by
  refine List.ext_getElem? fun m => ?_
  by_cases hm : m < n
  · rw [List.getElem?_reverse (by omega), hc, h.2 m hm]
    by_cases e : m < k ∨ n < m + 1 + k
    · rw [if_pos e]
    · rw [if_neg e]
      congr 1
      omega
  · rw [List.getElem?_eq_none (by rw [h.1]; omega), List.getElem?_eq_none (by simp; omega)]
def setP (w : World) (g i : Nat) (c : Par) : World := (w.setCell ⟨g, i * 2, none⟩ (.string c.1)).setCell ⟨g, i * 2 + 1, none⟩ (.string c.2)
theorem RowPW.set {w : World} {g : Nat} {ds : List Par} (h : RowPW w g ds) (i : Nat) (hi : i < ds.length) (c : Par) : RowPW (setP w g i c) g (ds.set i c) := by
  obtain ⟨cur, h1, h2⟩ := h
  refine ⟨put2p cur i c, ?_, put2p_rows h2 i hi c⟩
  unfold setP put2p
  simp [World.setCell, Array.getElem?_modify, h1]
theorem grown8_drewN (w : World) (n : Nat) (row : Option Nat) : w.grownBy (w.drewN n) row := ⟨rfl, rfl, rfl, Nat.le_refl _, fun _ _ _ => rfl⟩
theorem grown8_set (w : World) (b i : Nat) (v : Value) : w.grownBy (w.setCell ⟨b, i, none⟩ v) (some b) :=
  ⟨rfl, rfl, rfl, by simp, fun k _ hne => Below.heap_setCell w ⟨b, i, none⟩ v k (by show k ≠ b; exact fun e => hne (by rw [e]))⟩
theorem grown8_trans {a b c : World} {row : Option Nat} (h : a.grownBy b row) (k : b.grownBy c row) : a.grownBy c row :=
  ⟨k.os.trans h.os, k.tape.trans h.tape, k.output.trans h.output, Nat.le_trans h.size k.size, fun i hi hne => (k.block i (Nat.lt_of_lt_of_le hi h.size) hne).trans (h.block i hi hne)⟩
theorem setP_grown (w : World) (g i : Nat) (c : Par) : w.grownBy (setP w g i c) (some g) := by
  unfold setP
  exact grown8_trans (grown8_set _ g _ _) (grown8_set _ g _ _)
theorem RowPW.drew {w : World} {g : Nat} {ds : List Par} (h : RowPW w g ds) : RowPW w.drew g ds := h
set_option maxRecDepth 100000 in
set_option maxHeartbeats 4000000 in
theorem reverseP_any (cs : List Par) (g n cap : Nat) (hl : cs.length = n) (hn : n ≤ 1000) (w : World) (hx : RowPW w g cs) :
    Calls Tryd.prog 24 #[.slice (some ⟨g, 0, none⟩) n cap] w fun e w' => e = .returned (.tuple #[]) ∧ Hid (RowPW w' g cs.reverse ∧ w.grownBy w' (some g)) := by
  have HX : Hid (RowPW w g cs) := hx
  have HL : Hid (cs.length = n) := hl
  clear hx hl
  go_enter Tryd.func24, Tryd.ntmps24
  go_wp2
  go_loopw [2, 3] (fun i j wr => ∃ (k : Nat) (jz : Int) (ds : List Par), k ≤ n ∧ i = .int .i64 k ∧ j = .int .i64 jz ∧ jz = (n : Int) - 1 - (k : Int) ∧ Hid (RevP cs ds n k ∧ RowPW wr g ds ∧ w.grownBy wr (some g))) (fun i _ _ => n - (intOf i).toNat)
  case atStart => exact ⟨0, _, cs, Nat.zero_le _, rfl, rfl, by omega, ⟨by rw [← HL.out]; exact revP_zero cs, HX.out, grown8_drewN w 0 _⟩⟩
  case round =>
    obtain ⟨k, jz, ds, hk, rfl, rfl, hjz, HI⟩ := hrel
    by_cases hlt : (k : Int) < jz
    · obtain ⟨jn, hjn⟩ : ∃ jn : Nat, jz = jn := ⟨jz.toNat, by omega⟩
      subst hjn
      have hkn : 2 * k + 1 < n := by omega
      have hjk : jn = n - 1 - k := by omega
      have hdl : ds.length = n := HI.out.1.1
      obtain ⟨ci, hci⟩ : ∃ c, ds[k]? = some c := ⟨ds[k]'(by omega), List.getElem?_eq_getElem (by omega)⟩
      obtain ⟨ci1, ci2⟩ := ci
      obtain ⟨cj, hcj⟩ : ∃ c, ds[jn]? = some c := ⟨ds[jn]'(by omega), List.getElem?_eq_getElem (by omega)⟩
      obtain ⟨cj1, cj2⟩ := cj
      have HST : Hid (RevP cs ((ds.set k (cj1, cj2)).set jn (ci1, ci2)) n (k + 1)) := by
        have := revP_step HI.out.1 hkn hci (by rw [← hjk]; exact hcj)
        rw [← hjk] at this
        exact this
      obtain ⟨a1, a2⟩ := HI.out.2.1.cells k _ hci
      obtain ⟨b1, b2⟩ := HI.out.2.1.cells jn _ hcj
      have HDL : Hid (ds.length = n) := hdl
      have fr : ∀ j, wr.frozen? ⟨g, j, none⟩ = false := HI.out.2.1.free
      clear hci hcj hdl hjk
      have hkL : (k : Int) < (n : Int) := by omega
      have hjL : (jn : Int) < (n : Int) := by omega
      have HJZ : Hid ((jn : Int) = (n : Int) - 1 - (k : Int)) := hjz
      have hk3 : ¬ jn * 2 = k * 2 := by omega
      clear hjz hkn
      go_wp2
      go_region
      have z1 := (HI.out.2.1.set k (by have := HDL.out; omega) (cj1, cj2)).set jn (by rw [List.length_set]; have := HDL.out; omega) (ci1, ci2)
      have z2 := grown8_trans (setP_grown wr g k (cj1, cj2)) (setP_grown (setP wr g k (cj1, cj2)) g jn (ci1, ci2))
      unfold setP at z1 z2
      have HZ : Hid (RowPW _ g ((ds.set k (cj1, cj2)).set jn (ci1, ci2)) ∧ w.grownBy _ (some g)) := ⟨z1.drew, grown8_trans (grown8_trans HI.out.2.2 z2) (grown8_drewN _ 1 _)⟩
      clear z1 z2 a1 a2 b1 b2 fr
      go_wp2
      go_roundw
      case rel => exact ⟨k + 1, _, _, by omega, by go_num, rfl, by have := HJZ.out; push_cast; omega, ⟨HST.out, HZ.out.1, HZ.out.2⟩⟩
      case measure => simp [intOf]; omega
    · have HE : Hid (ds = cs.reverse) := revP_end HL.out HI.out.1 (by omega)
      clear hjz
      go_wp2
      go_end0
      exact ⟨rfl, ⟨by rw [← HE.out]; exact HI.out.2.1, HI.out.2.2⟩⟩
end Go.Proofs.YtbhnaekkjpcafaaDoor
