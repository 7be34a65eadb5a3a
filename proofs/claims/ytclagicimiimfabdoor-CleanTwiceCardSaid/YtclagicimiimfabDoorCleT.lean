/- Clean is clean, by the program. -/
import Derived.Test.YtclagicimiimfabDoorSplP
import Derived.Test.YtclagicimiimfabDoorUrlB
namespace Go.Proofs.YtclagicimiimfabDoor
open Go.RowKit

theorem part_ne {ps : List ByteArray} {l : List UInt8} (h : ps.map (·.data.toList) = splitL 47 (cleanL l)) (p : ByteArray) (hp : p ∈ ps) : (p.toList == [46]) = false ∧ (p.toList == [46, 46]) = false := by
  obtain ⟨qs, _, hq, _, hsp⟩ := cleanL_parts l
  have hm : p.data.toList ∈ splitL 47 (cleanL l) := by rw [← h]; exact List.mem_map.2 ⟨p, hp, rfl⟩
  rw [hsp] at hm
  rw [ByteArray.toList_eq]
  rcases List.mem_cons.1 hm with e | e
  · rw [e]
    exact ⟨rfl, rfl⟩
  · obtain ⟨h1, h2, _⟩ := hq _ e
    exact ⟨beq_eq_false_iff_ne.2 h1, beq_eq_false_iff_ne.2 h2⟩

set_option maxRecDepth 100000 in
set_option maxHeartbeats 1000000 in
theorem cleanTwice_walk (s : ByteArray) (hs : s.size ≤ 140737488355328) (w : World) (h : Env w) :
    Calls Tryd.prog 7 #[.string s] w fun e w' => e = .returned (.bool true) ∧ Below w.heap.size w w' := by
  by_cases h1 : (400 : Int) < (s.size : Int)
  · go_enter Tryd.func7, Tryd.ntmps7
    go_wp2_with fail
    refine (named_any _ h).mono ?_
    rintro e w1 ⟨rfl, hb1⟩
    go_wp2
    go_ret
    exact ⟨rfl, hb1⟩
  · have hs4 : s.size ≤ 400 := by omega
    obtain ⟨c, hc⟩ : ∃ c, bs (cleanL s.data.toList) = c := ⟨_, rfl⟩
    have hcl : c.data.toList = cleanL s.data.toList := by rw [← hc]; rfl
    have hcs : c.size ≤ 401 := by
      have e1 := cleanL_length s.data.toList
      rw [← hcl] at e1
      have e2 : c.data.toList.length = c.size := Array.length_toList
      have e3 : s.data.toList.length = s.size := Array.length_toList
      omega
    have hcc : bs (cleanL c.data.toList) = c := by rw [hcl, cleanL_twice, hc]
    have c1 := fun W => clean_any s (by omega) W
    rw [hc] at c1
    have c2 := fun W => clean_any c (by omega) W
    rw [hcc] at c2
    have c3 := fun W => split_one c 47 (by omega) W
    have c4 := fun W => @slash_any c (joinL 47 (cleanParts [] (splitL 47 (bodyL s.data.toList)))) (by rw [hcl]; rfl) W
    clear hc hcc
    go_enter Tryd.func7, Tryd.ntmps7
    go_wp2_with fail
    refine (named_any _ h).mono ?_
    rintro e w1 ⟨rfl, hb1⟩
    go_wp2_with fail
    refine (c1 _).mono ?_
    rintro e w2 ⟨rfl, hb2⟩
    have hb12 := hb1.trans (hb2.mono hb1.size)
    clear hb1 hb2 h c1
    go_wp2_with fail
    refine (c3 _).mono ?_
    rintro e w3 ⟨ps, rfl, hpl, rfl, HP⟩
    have HN : Hid (∀ p ∈ ps, (p.toList == [46]) = false ∧ (p.toList == [46, 46]) = false) := fun p hp => part_ne (l := s.data.toList) (by rw [HP.out, hcl]) p hp
    have hb3 : Below w.heap.size w (w2.alloc (.cells (ps.map Value.string).toArray 9)) := hb12.alloc hb12.size _
    have hcell : ∀ k, (hk : k < ps.length) → (w2.alloc (.cells (ps.map Value.string).toArray 9)).cell? ⟨w2.heap.size, k, none⟩ = some (.string ps[k]) := fun k hk => by
      rw [cells_new _ _ _ k]
      simp [hk]
    have HC : Hid (∀ k, (hk : k < ps.length) → (w2.alloc (.cells (ps.map Value.string).toArray 9)).cell? ⟨w2.heap.size, k, none⟩ = some (.string ps[k])) := hcell
    clear hcell HP hcl hb12 c3
    generalize w2.alloc (.cells (ps.map Value.string).toArray 9) = w4 at hb3 HC
    go_wp2_with fail
    go_loop [16] (fun i => ∃ k : Nat, k ≤ ps.length ∧ i = .int .i64 k) (fun i => ps.length - (intOf i).toNat)
    case atStart => exact ⟨0, Nat.zero_le _, rfl⟩
    case round =>
      obtain ⟨k, hk, rfl⟩ := hrel
      by_cases hlt : k < ps.length
      · obtain ⟨p, hp⟩ : ∃ p, ps[k] = p := ⟨_, rfl⟩
        have hcp := HC.out k hlt
        rw [hp] at hcp
        have hn := HN.out p (by rw [← hp]; exact List.getElem_mem _)
        obtain ⟨n1, n2⟩ := hn
        go_wp2
        go_round
        case rel => exact ⟨k + 1, by omega, by simp⟩
        case measure => simp [intOf]; omega
      · go_wp2_with fail
        refine (c2 _).mono ?_
        rintro e w5 ⟨rfl, hb5⟩
        go_wp2_with (go_at_call 12; refine (c4 _).mono ?_; rintro e w' ⟨rfl, rfl⟩)
        go_ret
        exact ⟨rfl, hb3.trans (hb5.mono hb3.size)⟩
end Go.Proofs.YtclagicimiimfabDoor
