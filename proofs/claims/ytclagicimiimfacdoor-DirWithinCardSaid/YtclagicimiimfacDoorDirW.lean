/- A directory is one of its own; to lie within goes on. -/
import Derived.Test.YtclagicimiimfacDoorDirP
import Derived.Test.YtclagicimiimfacDoorNmd
namespace Go.Proofs.YtclagicimiimfacDoor
open Go.RowKit

theorem within_at (s p : ByteArray) (b : Bool) (h : begins s p = b) (w : World) :
    Calls Tryd.prog 6 #[.string s, .string p] w fun e w' => e = .returned (.bool b) ∧ w' = w := by
  rw [← h]
  exact within_p s p w
theorem dir_at (s d : ByteArray) (h : bs (dirL s.data.toList) = d) (hs : s.size ≤ 4000) (w : World) :
    Calls Tryd.prog 5 #[.string s] w fun e w' => e = .returned (.string d) ∧ Below w.heap.size w w' := by
  rw [← h]
  exact dir_any s w hs
theorem begins_false {s p : ByteArray} (h : ¬ begins s p = true) : begins s p = false := by simpa using h
theorem begins_trans {s p q : ByteArray} (h1 : begins s p = true) (h2 : begins p q = true) : begins s q = true := by
  rw [begins_iff] at *
  exact h2.trans h1
theorem begins_same {s p : ByteArray} (h1 : begins s p = true) (h2 : begins p s = true) : s = p := by
  rw [begins_iff] at *
  apply data_inj
  exact h2.eq_of_length (Nat.le_antisymm h2.length_le h1.length_le)

theorem wrap_sum (a b c : Nat) (ha : a ≤ 140737488355328) (hb : b ≤ 140737488355328) (hc : c ≤ 140737488355328) :
    IntKind.i64.wrap ((a : Int) + b) = (a : Int) + b ∧ IntKind.i64.wrap ((a : Int) + b + c) = (a : Int) + b + c :=
  ⟨IntWalk.i64_in _ ⟨by omega, by omega⟩, IntWalk.i64_in _ ⟨by omega, by omega⟩⟩

set_option maxHeartbeats 1000000 in
set_option maxRecDepth 100000 in
theorem dirWithin_walk (s : ByteArray) (hs : s.size ≤ 140737488355328) (p : ByteArray) (hp : p.size ≤ 140737488355328) (q : ByteArray) (hq : q.size ≤ 140737488355328) (w : World) (h : Env w) :
    Calls Tryd.prog 3 #[.string s, .string p, .string q] w fun e w' => e = .returned (.bool true) ∧ Below w.heap.size w w' := by
  have hn := fun W hW => named_any W hW
  by_cases h1 : (400 : Int) < (s.size : Int) + (p.size : Int) + (q.size : Int)
  · go_enter Tryd.func3, Tryd.ntmps3
    go_wp2_with fail
    refine (hn _ h).mono ?_
    rintro e w1 ⟨rfl, hb1⟩
    go_wp2
    go_ret
    exact ⟨rfl, hb1⟩
  · have hs' : s.size ≤ 4000 := by omega
    obtain ⟨d, hd⟩ : ∃ d, bs (dirL s.data.toList) = d := ⟨_, rfl⟩
    have hdl : d.data.toList = dirL s.data.toList := by rw [← hd]; rfl
    have hds : d.size ≤ 4000 := by
      have e1 := (dirL_prefix s.data.toList).length_le
      rw [← hdl] at e1
      have e2 : d.data.toList.length = d.size := Array.length_toList
      have e3 : s.data.toList.length = s.size := Array.length_toList
      omega
    have hsd : begins s d = true := by rw [begins_iff, hdl]; exact dirL_prefix _
    have hdd : bs (dirL d.data.toList) = d := by rw [hdl, dirL_twice, hd]
    have c1 := fun W => dir_at s d hd hs' W
    have c2 := fun W => within_at s d _ hsd W
    have c3 := fun W => dir_at d d hdd hds W
    clear hdl hds hsd hdd hd
    by_cases hsp : begins s p = true
    · have c4 := fun W => within_at s p _ hsp W
      by_cases hps : begins p s = true
      · obtain rfl := begins_same hsp hps
        by_cases hpq : begins s q = true
        · have c5 := fun W => within_at s q _ hpq W
          clear hsp hps hpq
          go_enter Tryd.func3, Tryd.ntmps3
          go_wp2_with fail
          refine (hn _ h).mono ?_
          rintro e w1 ⟨rfl, hb1⟩
          go_wp2_with fail
          refine (c1 _).mono ?_
          rintro e w2 ⟨rfl, hb2⟩
          go_wp2_with fail
          refine (c2 _).mono ?_
          rintro e w' ⟨rfl, rfl⟩
          go_wp2_with fail
          refine (c3 _).mono ?_
          rintro e w3 ⟨rfl, hb3⟩
          go_wp2_with fail
          refine (c4 _).mono ?_
          rintro e w' ⟨rfl, rfl⟩
          go_wp2_with fail
          refine (c5 _).mono ?_
          rintro e w' ⟨rfl, rfl⟩
          go_wp2_with fail
          refine (c5 _).mono ?_
          rintro e w' ⟨rfl, rfl⟩
          go_wp2_with fail
          refine (c4 _).mono ?_
          rintro e w' ⟨rfl, rfl⟩
          go_wp2_with fail
          refine (c4 _).mono ?_
          rintro e w' ⟨rfl, rfl⟩
          go_wp2
          go_ret
          exact ⟨by simp, (hb1.trans (hb2.mono hb1.size)).trans (hb3.mono (Nat.le_trans hb1.size hb2.size))⟩
        · have c5 := fun W => within_at s q _ (begins_false hpq) W
          clear hsp hps hpq
          go_enter Tryd.func3, Tryd.ntmps3
          go_wp2_with fail
          refine (hn _ h).mono ?_
          rintro e w1 ⟨rfl, hb1⟩
          go_wp2_with fail
          refine (c1 _).mono ?_
          rintro e w2 ⟨rfl, hb2⟩
          go_wp2_with fail
          refine (c2 _).mono ?_
          rintro e w' ⟨rfl, rfl⟩
          go_wp2_with fail
          refine (c3 _).mono ?_
          rintro e w3 ⟨rfl, hb3⟩
          go_wp2_with fail
          refine (c4 _).mono ?_
          rintro e w' ⟨rfl, rfl⟩
          go_wp2_with fail
          refine (c5 _).mono ?_
          rintro e w' ⟨rfl, rfl⟩
          go_wp2_with fail
          refine (c4 _).mono ?_
          rintro e w' ⟨rfl, rfl⟩
          go_wp2_with fail
          refine (c4 _).mono ?_
          rintro e w' ⟨rfl, rfl⟩
          go_wp2
          go_ret
          exact ⟨by simp, (hb1.trans (hb2.mono hb1.size)).trans (hb3.mono (Nat.le_trans hb1.size hb2.size))⟩
      · have c7 := fun W => within_at p s _ (begins_false hps) W
        by_cases hpq : begins p q = true
        · have c5 := fun W => within_at p q _ hpq W
          have c6 := fun W => within_at s q _ (begins_trans hsp hpq) W
          clear hsp hps hpq
          go_enter Tryd.func3, Tryd.ntmps3
          go_wp2_with fail
          refine (hn _ h).mono ?_
          rintro e w1 ⟨rfl, hb1⟩
          go_wp2_with fail
          refine (c1 _).mono ?_
          rintro e w2 ⟨rfl, hb2⟩
          go_wp2_with fail
          refine (c2 _).mono ?_
          rintro e w' ⟨rfl, rfl⟩
          go_wp2_with fail
          refine (c3 _).mono ?_
          rintro e w3 ⟨rfl, hb3⟩
          go_wp2_with fail
          refine (c4 _).mono ?_
          rintro e w' ⟨rfl, rfl⟩
          go_wp2_with fail
          refine (c5 _).mono ?_
          rintro e w' ⟨rfl, rfl⟩
          go_wp2_with fail
          refine (c6 _).mono ?_
          rintro e w' ⟨rfl, rfl⟩
          go_wp2_with fail
          refine (c4 _).mono ?_
          rintro e w' ⟨rfl, rfl⟩
          go_wp2_with fail
          refine (c7 _).mono ?_
          rintro e w' ⟨rfl, rfl⟩
          go_wp2
          go_ret
          exact ⟨by simp, (hb1.trans (hb2.mono hb1.size)).trans (hb3.mono (Nat.le_trans hb1.size hb2.size))⟩
        · have c5 := fun W => within_at p q _ (begins_false hpq) W
          clear hsp hps hpq
          go_enter Tryd.func3, Tryd.ntmps3
          go_wp2_with fail
          refine (hn _ h).mono ?_
          rintro e w1 ⟨rfl, hb1⟩
          go_wp2_with fail
          refine (c1 _).mono ?_
          rintro e w2 ⟨rfl, hb2⟩
          go_wp2_with fail
          refine (c2 _).mono ?_
          rintro e w' ⟨rfl, rfl⟩
          go_wp2_with fail
          refine (c3 _).mono ?_
          rintro e w3 ⟨rfl, hb3⟩
          go_wp2_with fail
          refine (c4 _).mono ?_
          rintro e w' ⟨rfl, rfl⟩
          go_wp2_with fail
          refine (c5 _).mono ?_
          rintro e w' ⟨rfl, rfl⟩
          go_wp2_with fail
          refine (c4 _).mono ?_
          rintro e w' ⟨rfl, rfl⟩
          go_wp2_with fail
          refine (c7 _).mono ?_
          rintro e w' ⟨rfl, rfl⟩
          go_wp2
          go_ret
          exact ⟨by simp, (hb1.trans (hb2.mono hb1.size)).trans (hb3.mono (Nat.le_trans hb1.size hb2.size))⟩
    · have c4 := fun W => within_at s p _ (begins_false hsp) W
      clear hsp
      go_enter Tryd.func3, Tryd.ntmps3
      go_wp2_with fail
      refine (hn _ h).mono ?_
      rintro e w1 ⟨rfl, hb1⟩
      go_wp2_with fail
      refine (c1 _).mono ?_
      rintro e w2 ⟨rfl, hb2⟩
      go_wp2_with fail
      refine (c2 _).mono ?_
      rintro e w' ⟨rfl, rfl⟩
      go_wp2_with fail
      refine (c3 _).mono ?_
      rintro e w3 ⟨rfl, hb3⟩
      go_wp2_with fail
      refine (c4 _).mono ?_
      rintro e w' ⟨rfl, rfl⟩
      go_wp2_with fail
      refine (c4 _).mono ?_
      rintro e w' ⟨rfl, rfl⟩
      go_wp2
      go_ret
      exact ⟨by simp, (hb1.trans (hb2.mono hb1.size)).trans (hb3.mono (Nat.le_trans hb1.size hb2.size))⟩
end Go.Proofs.YtclagicimiimfacDoor
