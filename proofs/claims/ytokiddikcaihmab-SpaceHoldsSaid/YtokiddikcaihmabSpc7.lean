/- bank.Space of what is asked for without a domain; whether a path is in it. -/
import Derived.Test.YtokiddikcaihmabBkd7
import Derived.Test.YtokiddikcaihmabDirP
import Derived.Test.YtokiddikcaihmabWth
namespace Go.Proofs.Ytokiddikcaihmab
open Go.RowKit
set_option linter.unusedVariables false

set_option maxHeartbeats 1000000 in
theorem hasPre_any (s p : ByteArray) (w : World) :
    Calls Try.prog 14 #[.string s, .string p] w fun e w' => e = .returned (.bool (begins s p)) ∧ w' = w := by
  by_cases h : p.size ≤ s.size
  · have hb : begins s p = ((s.extract 0 p.size).toList == p.toList) := by unfold begins; rw [decide_eq_true h]; rfl
    rw [hb]
    go_enter Try.func14, Try.ntmps14
    go_wp2
    go_ret
    exact ⟨rfl, rfl⟩
  · have hb : begins s p = false := by unfold begins; rw [decide_eq_false h]; rfl
    rw [hb]
    go_enter Try.func14, Try.ntmps14
    go_wp2
    go_ret
    exact ⟨rfl, rfl⟩
set_option maxHeartbeats 1000000 in
theorem spIs (path x : ByteArray) (a : Nat) (w : World) (ha : w.cell? ⟨a, 0, none⟩ = some (.string path)) :
    Calls Try.prog 17 #[.string x, .pointer (some ⟨a, 0, none⟩)] w fun e w' => e = .returned (.bool (begins path x)) ∧ w' = w := by
  go_enter Try.func17, Try.ntmps17
  go_wp2_with fail
  refine (within_p path x _).mono ?_
  rintro e w1 ⟨rfl, hw⟩
  obtain rfl := hw.symm
  go_wp2
  go_ret
  exact ⟨rfl, rfl⟩
set_option maxRecDepth 100000 in
set_option maxHeartbeats 2000000 in
theorem idx1_any (path x : ByteArray) (a k : Nat) (w : World) (ha : w.cell? ⟨a, 0, none⟩ = some (.string path)) (hk : w.cell? ⟨k, 0, none⟩ = some (.string x)) (hb : begins path x = true) :
    Calls Try.prog 37 #[.slice (some ⟨k, 0, none⟩) 1 1, .func (.func 17) #[] #[.pointer (some ⟨a, 0, none⟩)]] w fun e w' => e = .returned (.int .i64 0) ∧ w' = w := by
  have hc := spIs path x a w ha
  rw [hb] at hc
  clear hb
  go_enter Try.func37, Try.ntmps37
  go_wp2
  refine wp_loop_rounds 1 ?_
  rw [rounds_succ]
  go_wp2_with fail
  refine hc.mono ?_
  rintro e w1 ⟨rfl, hw⟩
  obtain rfl := hw.symm
  go_wp2
  go_ret
  exact ⟨rfl, rfl⟩
set_option maxHeartbeats 1000000 in
theorem ctn1_any (path x : ByteArray) (a k : Nat) (w : World) (ha : w.cell? ⟨a, 0, none⟩ = some (.string path)) (hk : w.cell? ⟨k, 0, none⟩ = some (.string x)) (hb : begins path x = true) :
    Calls Try.prog 15 #[.slice (some ⟨k, 0, none⟩) 1 1, .func (.func 17) #[] #[.pointer (some ⟨a, 0, none⟩)]] w fun e w' => e = .returned (.bool true) ∧ w' = w := by
  have hc := idx1_any path x a k w ha hk hb
  go_enter Try.func15, Try.ntmps15
  go_wp2_with fail
  refine hc.mono ?_
  rintro e w1 ⟨rfl, hw⟩
  obtain rfl := hw.symm
  go_wp2
  go_ret
  exact ⟨rfl, rfl⟩
/-- A row of one text that the path lies in. -/
def SpcAns (path : ByteArray) (w : World) (e : Ending) (w' : World) : Prop :=
  ∃ k x, e = .returned (.slice (some ⟨k, 0, none⟩) 1 1) ∧ Hid (w'.cell? ⟨k, 0, none⟩ = some (.string x) ∧ begins path x = true ∧ Below w.heap.size w w')
set_option maxRecDepth 100000 in
set_option maxHeartbeats 2000000 in
theorem space_any (path : ByteArray) (hp : begins path ⟨#[47]⟩ = true) (hs : path.size ≤ 4000) (sch : Int) (r no op q : ByteArray) (se st pr : Bool) (dp : Option Addr) (dc : Nat) (w : World) :
    Calls Try.prog 16 #[.agg #[.int .i64 sch, .string r, .string no, .string op, .bool se, .string q, .bool st, .slice dp 0 dc], .bool pr, .string path] w fun e w' => SpcAns path w e w' := by
  have hb1 : Below w.heap.size w (w.alloc (.cells #[.int .i64 sch, .string r, .string no, .string op, .bool se, .string q, .bool st, .slice dp 0 dc] 36)) := (Below.refl _ _).alloc (Nat.le_refl _) _
  have hn := heap_alloc_new w (.cells #[.int .i64 sch, .string r, .string no, .string op, .bool se, .string q, .bool st, .slice dp 0 dc] 36)
  have n0 := cell_of (i := 0) hn
  have n7 := cell_of (i := 7) hn
  simp only [List.getElem?_toArray, List.getElem?_cons_zero, List.getElem?_cons_succ] at n0 n7
  have HB : Hid (Below w.heap.size w (w.alloc (.cells #[.int .i64 sch, .string r, .string no, .string op, .bool se, .string q, .bool st, .slice dp 0 dc] 36))) := hb1
  have HP : Hid (begins path ⟨#[47]⟩ = true ∧ path.size ≤ 4000) := ⟨hp, hs⟩
  have HA : ∀ (W : World) (x : ByteArray), Below w.heap.size w W → (W.alloc (.cells #[.string x] 9)).cell? ⟨W.heap.size, 0, none⟩ = some (.string x) ∧ Below w.heap.size w (W.alloc (.cells #[.string x] 9)) := fun W x h => ⟨cell_of (i := 0) (heap_alloc_new W _), h.trans (((Below.refl _ _).alloc (Nat.le_refl _) _).mono h.size)⟩
  have HQ : Hid ((((w.alloc (.cells #[.int .i64 sch, .string r, .string no, .string op, .bool se, .string q, .bool st, .slice dp 0 dc] 36)).alloc (.cells #[.string ⟨#[47]⟩] 9)).cell? ⟨w.heap.size + 1, 0, none⟩ = some (.string ⟨#[47]⟩)) ∧ Below w.heap.size w ((w.alloc (.cells #[.int .i64 sch, .string r, .string no, .string op, .bool se, .string q, .bool st, .slice dp 0 dc] 36)).alloc (.cells #[.string ⟨#[47]⟩] 9))) := by
    have h2 := HA _ ⟨#[47]⟩ HB.out
    refine ⟨?_, h2.2⟩
    have h3 := h2.1
    simp only [World.size_alloc] at h3
    exact h3
  clear hn hb1 hp hs
  go_enter Try.func16, Try.ntmps16
  cases pr with
  | true =>
    go_wp2
    go_ret
    exact ⟨_, _, rfl, ⟨HQ.out.1, HP.out.1, HQ.out.2⟩⟩
  | false =>
    by_cases h1 : sch = 1
    · subst h1
      go_wp2_with fail
      refine (dir_any path _ HP.out.2).mono ?_
      rintro e w1 ⟨rfl, hb⟩
      have HX : Hid (Below w.heap.size w w1 ∧ begins path (bs (dirL path.data.toList)) = true) := ⟨HB.out.trans (hb.mono HB.out.size), (begins_iff _ _).2 (dirL_prefix _)⟩
      clear hb n0 n7
      go_wp2
      go_ret
      exact ⟨_, _, rfl, ⟨(HA _ _ HX.out.1).1, HX.out.2, (HA _ _ HX.out.1).2⟩⟩
    · go_wp2
      go_ret
      exact ⟨_, _, rfl, ⟨HQ.out.1, HP.out.1, HQ.out.2⟩⟩
end Go.Proofs.Ytokiddikcaihmab
