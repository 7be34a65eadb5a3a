/- What stands between a text's marks, one piece behind the other: the program's own iterator. -/
import Derived.RangeFuncNested
import Derived.RangeFuncBound
import Derived.RangeFuncCalls
import Derived.RangeFuncLeaves
import Derived.Shelf.Abstract
import Derived.Shelf.RegionOpen
import Derived.OwnWalkIn
import Derived.TacticsInMore
import Derived.LoopNIn
import Derived.LoopIn
import Derived.Test.YtooaiamfbmjmnaaGreatDoorIb
import Derived.Test.YtooaiamfbmjmnaaGreatDoorSpl
namespace Go.Proofs.YtooaiamfbmjmnaaGreatDoor
open Go.RowKit Go.Shelf
attribute [local go_sem] Oper.semAt_some

/-- What a round keeps: the cell in which the mark lies. -/
def KeepsCell (p : Addr) (W W' : World) : Prop := ∀ v, W.cell? p = some v → W'.cell? p = some v
theorem keepsCell_t {p : Addr} {A B C : World} (h : KeepsCell p A B) (k : KeepsCell p B C) : KeepsCell p A C := fun v hv => k v (h v hv)
theorem keepsCell_b {p : Addr} (w W : World) (l : Nat) (o o' : Obj) (_ : w.heap.size ≤ l) (h : W.heap[l]? = some o) (ho : o.isCells = false) (_ : o.isWalk = false) : KeepsCell p W (W.putObj l o') :=
  fun v hv => cell_kept hv (grownBy_putObj' W l o') (fun r e => by cases e; exact ⟨o, h, ho⟩)

/-- A piece: no mark stands in it, and it is no longer than what is cut. -/
abbrev Part (c : UInt8) := { x : ByteArray // x.size ≤ 4000 ∧ c ∉ x.data.toList }
def vals {c : UInt8} (l : List (Part c)) : List ByteArray := l.map (·.1)
theorem vals_length {c : UInt8} (l : List (Part c)) : (vals l).length = l.length := by simp [vals]
theorem vals_snoc {c : UInt8} (l : List (Part c)) (x : Part c) : vals (l ++ [x]) = vals l ++ [x.1] := by simp [vals]

theorem pieces_any (s : ByteArray) (c : Int) (w : World) :
    Calls Tryz.prog 130 #[.string s, .int .u8 c] w fun e w' => e = .returned (.func (.func 148) #[] #[.pointer (some ⟨w.heap.size, 0, none⟩), .pointer (some ⟨w.heap.size + 1, 0, none⟩)]) ∧ w' = (w.alloc (.cells #[.string s] 9)).alloc (.cells #[.int .u8 c] 5) := by
  go_enter Tryz.func130, Tryz.ntmps130
  go_wp2
  go_ret
  exact ⟨rfl, rfl⟩

set_option maxHeartbeats 1000000 in
set_option maxRecDepth 100000 in
theorem pieces1_in (n : Nat) (hn : 1 ≤ n) (l Bs Bm : Nat) (s : ByteArray) (c : UInt8) (hs : s.size ≤ 4000) (J Jx : List (Part c) → World → Prop)
    (hY : ∀ (pre : List (Part c)) (x : Part c) (W : World), J pre W → pre.length < (partsOf c s).length → YieldAt Fence.wide (n - 1) Tryz.prog l #[.string x.1] W fun e W' =>
      (e = .returned (.bool true) ∧ J (pre ++ [x]) W' ∧ KeepsCell ⟨Bm, 0, none⟩ W W') ∨ (e = .returned (.bool false) ∧ Jx (pre ++ [x]) W'))
    (W : World) (hBs : W.cell? ⟨Bs, 0, none⟩ = some (.string s)) (hBm : W.cell? ⟨Bm, 0, none⟩ = some (.int .u8 (c.toNat : Int))) (h0 : J [] W) :
    CallsIn Fence.wide n Tryz.prog 148 #[.func (.yield l) #[] #[], .pointer (some ⟨Bs, 0, none⟩), .pointer (some ⟨Bm, 0, none⟩)] W fun e W' => (∃ v, e = .returned v) ∧
      ((∃ ys, vals ys = partsOf c s ∧ J ys W') ∨ (∃ pre, vals pre <+: partsOf c s ∧ Jx pre W')) := by
  refine callsIn_of_wp Tryz.func148 rfl trivial ?_ rfl
  simp only [Tryz.ntmps148, List.size_toArray, List.length_cons, List.length_nil, Nat.reduceAdd, Nat.reduceSub, Array.replicate_succ, Array.replicate_zero, List.push_toArray, List.append_toArray, List.nil_append, List.cons_append]
  gi_wp2
  gi_loopw [4] (fun v wr => ∃ (pre : List (Part c)) (r : ByteArray), v = .string r ∧ r.size ≤ s.size ∧ Hid (partsOf c s = vals pre ++ partsOf c r) ∧ wr.cell? ⟨Bm, 0, none⟩ = some (.int .u8 (c.toNat : Int)) ∧ J pre wr)
    (fun v _ => match v with | .string r => r.size | _ => 0)
  case atStart => exact ⟨[], s, rfl, Nat.le_refl _, rfl, hBm, h0⟩
  case round =>
    obtain ⟨pre, r, rfl, hr, HP, hm, hJ⟩ := hrel
    rcases ixOf_first r.data.toList c with ⟨hi, hno⟩ | ⟨k, hk, hi, hno, hsp⟩
    · have HE : Hid (partsOf c r = [r]) := partsOf_none c r hno
      obtain ⟨fn, tmps, assign, body, hy, hR⟩ := hY pre ⟨r, by omega, hno⟩ wr hJ (by rw [HP.out, HE.out, List.length_append, vals_length]; simp)
      dsimp only at hy
      gi_wp2_with (refine ⟨trivial, ?_⟩; gi_at_call 55; refine (callsIn_wide.2 (ix_of r c _ rfl _)).mono ?_; rintro e w' ⟨rfl, rfl⟩)
      refine hR.mono ?_
      rintro e W3 (⟨rfl, hJ3, hk3⟩ | ⟨rfl, hJx3⟩)
      · gi_wp2
        refine bodyPost_ret (results_none rfl _ _ _) rfl ?_
        exact ⟨⟨_, rfl⟩, .inl ⟨_, by rw [HP.out, HE.out, vals_snoc], hJ3⟩⟩
      · gi_wp2
        refine bodyPost_ret (results_none rfl _ _ _) rfl ?_
        exact ⟨⟨_, rfl⟩, .inr ⟨_, ⟨[], by rw [HP.out, HE.out, vals_snoc]; simp⟩, hJx3⟩⟩
    · have hk' : k < r.size := by simpa using hk
      have HE : Hid (partsOf c r = r.extract 0 k :: partsOf c (r.extract (k + 1) r.size)) := partsOf_more c r k hk' hno hsp
      obtain ⟨fn, tmps, assign, body, hy, hR⟩ := hY pre ⟨r.extract 0 k, by simp; omega, by rw [upto_data]; exact hno⟩ wr hJ (by rw [HP.out, HE.out, List.length_append, vals_length]; simp)
      dsimp only at hy
      clear hsp hk
      gi_wp2_with (refine ⟨trivial, ?_⟩; gi_at_call 55; refine (callsIn_wide.2 (ix_of r c _ rfl _)).mono ?_; rintro e w' ⟨rfl, rfl⟩)
      refine hR.mono ?_
      rintro e W3 (⟨rfl, hJ3, hk3⟩ | ⟨rfl, hJx3⟩)
      · have hm3 := hk3 _ hm
        gi_wp2
        go_roundw
        case rel => exact ⟨_, _, rfl, by simp; omega, by show _ = _; rw [HP.out, HE.out, vals_snoc]; simp, hm3, hJ3⟩
        case measure => simp; omega
      · gi_wp2
        refine bodyPost_ret (results_none rfl _ _ _) rfl ?_
        exact ⟨⟨_, rfl⟩, .inr ⟨_, ⟨partsOf c (r.extract (k + 1) r.size), by rw [HP.out, HE.out, vals_snoc]; simp⟩, hJx3⟩⟩

theorem pieces_stops (n : Nat) (hn : 1 ≤ n) (Bs Bm : Nat) (s : ByteArray) (c : UInt8) (hs : s.size ≤ 4000) (w : World) (hs1 : Bs < w.heap.size) (hm1 : Bm < w.heap.size)
    (hBs : w.cell? ⟨Bs, 0, none⟩ = some (.string s)) (hBm : w.cell? ⟨Bm, 0, none⟩ = some (.int .u8 (c.toNat : Int))) :
    SeqStopsK Fence.wide n Tryz.prog 148 #[.pointer (some ⟨Bs, 0, none⟩), .pointer (some ⟨Bm, 0, none⟩)] (fun x : Part c => #[Value.string x.1]) (KeepsCell ⟨Bm, 0, none⟩) (fun ys => vals ys = partsOf c s) (fun pre => vals pre <+: partsOf c s) (partsOf c s).length w := fun l J Jx W hW _ _ hY h0 =>
  pieces1_in n hn l Bs Bm s c hs J Jx hY W ((hW.cell (p := ⟨Bs, 0, none⟩) hs1).trans hBs) ((hW.cell (p := ⟨Bm, 0, none⟩) hm1).trans hBm) h0
end Go.Proofs.YtooaiamfbmjmnaaGreatDoor
