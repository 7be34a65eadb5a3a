/- Needs: whether a request must be asked for first, by the program. -/
import Derived.Test.YtoblpjknnchlmabGreatDoorCov9
namespace Go.Proofs.YtoblpjknnchlmabGreatDoor
open Go.RowKit

def sameO (fs : Bool) (fh : ByteArray) (fp : Int) (us : Bool) (uh : ByteArray) (up : Int) : Bool := fs == us && (fh.toList == uh.toList && fp == up)
theorem eqR9 (a c : Bool) (x y : ByteArray) (n m : Int) (E : Bool) (hE : sameO a x n c y m = E) (w : World) :
    (Op.equalIn 10000 23 (.agg #[.bool a, .string x, .int .i64 n]) (.agg #[.bool c, .string y, .int .i64 m])).run Tryz.prog w = .ok E w := by
  have u3 := Tryz.underlying3
  have u4 := Tryz.underlying4
  have u9 := Tryz.underlying9
  have a3 := Tryz.isAgg3
  have z3 := Tryz.sizeOf3
  have hS : Tryz.prog.underlying 23 = some (.struct (Tryz.prog.fieldsOf 23)) := by kernel_rfl
  have hp : Tryz.prog.stoodInHeld 23 = false := by kernel_rfl
  unfold sameO at hE
  rw [show (10000 : Nat) = 9999 + 1 from rfl, run_equalIn_agg w 9999 23 _ _ hS hp, ← hE]
  simp only [Program.fieldsOf, Tryz.underlying23]
  go_simp
  rw [← hE]
  by_cases h1 : a = c <;> by_cases h2 : x.toList = y.toList <;> by_cases h3 : n = m <;> simp [h1, h2, h3]
set_option maxRecDepth 100000 in
set_option maxHeartbeats 4000000 in
theorem needs9_any (hs : List Par) (hps : Small8 hs) (ra : Option Addr) (rl rc rb ro : Nat) (hrl : rl ≤ 60) (pt fp up : Int) (fs us wi : Bool) (fh uh pa qu me bo : ByteArray) (hme : me.size ≤ 3000)
    (w : World) (hm : Methods w) (hh : Pars w ra rl rb ro hs) :
    Calls Tryz.prog 10 #[.agg #[.int .i64 pt, .bool fs, .string fh, .int .i64 fp, .bool us, .string uh, .int .i64 up, .string pa, .string qu, .string me, .slice ra rl rc, .bool wi, .string bo]] w fun e w' => e = .returned (.bool (!sameO fs fh fp us uh up && !coversL wi (methodB me) (askedL hs) [])) ∧ Below w.heap.size w w' := by
  have HQ : Hid (BoxQ 28 w #[.int .i64 pt, .bool fs, .string fh, .int .i64 fp, .bool us, .string uh, .int .i64 up, .string pa, .string qu, .string me, .slice ra rl rc, .bool wi, .string bo] (w.alloc (.cells #[.int .i64 pt, .bool fs, .string fh, .int .i64 fp, .bool us, .string uh, .int .i64 up, .string pa, .string qu, .string me, .slice ra rl rc, .bool wi, .string bo] 28))) := BoxQ.new _ _ _
  obtain ⟨t, HT⟩ : ∃ t, Hid (coversL wi (methodB me) (askedL hs) [] = t) := ⟨_, rfl⟩
  have hcv := covers9_any hs hps ra rl rc rb ro hrl pt fp up fs us wi fh uh pa qu me bo hme [] none 0 0 0 0 (by decide) _ (hm.below HQ.out.bel (Nat.le_refl _)) (hh.below HQ.out.bel) (pss_nil _)
  rw [HT.out] at hcv
  rw [HT.out]
  obtain ⟨q, HE⟩ : ∃ q, Hid (sameO fs fh fp us uh up = q) := ⟨_, rfl⟩
  have eo := fun W => eqR9 fs us fh uh fp up q HE.out W
  rw [HE.out]
  have c0 := HQ.out.at 0 _ rfl
  have c1 := HQ.out.at 1 _ rfl
  have c2 := HQ.out.at 2 _ rfl
  have c3 := HQ.out.at 3 _ rfl
  have c4 := HQ.out.at 4 _ rfl
  have c5 := HQ.out.at 5 _ rfl
  have c6 := HQ.out.at 6 _ rfl
  have c7 := HQ.out.at 7 _ rfl
  have c8 := HQ.out.at 8 _ rfl
  have c9 := HQ.out.at 9 _ rfl
  have c10 := HQ.out.at 10 _ rfl
  have c11 := HQ.out.at 11 _ rfl
  have c12 := HQ.out.at 12 _ rfl
  clear hm hh hps
  go_enter Tryz.func10, Tryz.ntmps10
  cases q
  · go_wp2_with fail
    refine hcv.mono ?_
    rintro e w1 ⟨rfl, hb1⟩
    have HB1 : Hid (Below w.heap.size w w1) := HQ.out.inB hb1
    clear hb1 hcv c0 c1 c2 c3 c4 c5 c6 c7 c8 c9 c10 c11 c12
    go_wp2
    go_ret
    exact ⟨ret_bool (by simp), HB1.out⟩
  · go_wp2
    go_ret
    exact ⟨ret_bool (by simp), HQ.out.bel⟩
end Go.Proofs.YtoblpjknnchlmabGreatDoor
