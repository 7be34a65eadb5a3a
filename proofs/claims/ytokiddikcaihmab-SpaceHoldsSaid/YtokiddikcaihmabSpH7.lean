/- SpaceHolds, walked. -/
import Derived.Test.YtokiddikcaihmabSpc7
namespace Go.Proofs.Ytokiddikcaihmab
open Go.RowKit
set_option linter.unusedVariables false

set_option maxRecDepth 100000 in
set_option maxHeartbeats 4000000 in
theorem spaceHolds_walk (sch : Int) (r no op q : ByteArray) (se st : Bool) (dp : Option Addr) (dn dc : Nat) (pr : Bool) (path : ByteArray) (hs : path.size ≤ 140737488355328) (w : World) :
    Calls Try.prog 4 #[.agg #[.int .i64 sch, .string r, .string no, .string op, .bool se, .string q, .bool st, .slice dp dn dc], .bool pr, .string path] w fun e w' => e = .returned (.bool true) ∧ Below w.heap.size w w' := by
  have HB0 : Hid (_ ∧ _ ∧ _) := boxes2 w #[.int .i64 sch, .string r, .string no, .string op, .bool se, .string q, .bool st, .slice dp dn dc] #[.string path] 36 9
  go_enter Try.func4, Try.ntmps4
  go_wp2_with fail
  refine (banked_any _).mono ?_
  rintro e w1 ⟨rfl, hb1⟩
  have HB1 : Hid (Below w.heap.size w w1 ∧ w1.heap[w.heap.size]? = some (.cells #[.int .i64 sch, .string r, .string no, .string op, .bool se, .string q, .bool st, .slice dp dn dc] 36 (0, 0)) ∧ w1.heap[w.heap.size + 1]? = some (.cells #[.string path] 9 (0, 0))) :=
    ⟨HB0.out.1.trans (hb1.mono HB0.out.1.size), (hb1.block _ (Array.getElem?_eq_some_iff.1 HB0.out.2.1).1).trans HB0.out.2.1, (hb1.block _ (Array.getElem?_eq_some_iff.1 HB0.out.2.2).1).trans HB0.out.2.2⟩
  clear hb1 HB0
  have cp := cell_of (i := 0) HB1.out.2.2
  have c0 := cell_of (i := 0) HB1.out.2.1
  have c1 := cell_of (i := 1) HB1.out.2.1
  have c2 := cell_of (i := 2) HB1.out.2.1
  have c3 := cell_of (i := 3) HB1.out.2.1
  have c4 := cell_of (i := 4) HB1.out.2.1
  have c5 := cell_of (i := 5) HB1.out.2.1
  have c6 := cell_of (i := 6) HB1.out.2.1
  have c7 := cell_of (i := 7) HB1.out.2.1
  simp only [List.getElem?_toArray, List.getElem?_cons_zero, List.getElem?_cons_succ] at cp c0 c1 c2 c3 c4 c5 c6 c7
  by_cases h100 : (100 : Int) < (path.size : Int)
  · go_wp2
    go_ret
    exact ⟨rfl, HB1.out.1⟩
  · obtain ⟨E, hE⟩ : ∃ E, begins path ⟨#[47]⟩ = E := ⟨_, rfl⟩
    have hpre := hasPre_any path ⟨#[47]⟩ w1
    rw [hE] at hpre
    have HE : Hid (begins path ⟨#[47]⟩ = E) := hE
    clear hE
    go_wp2_with fail
    refine hpre.mono ?_
    rintro e w2 ⟨rfl, hw⟩
    obtain rfl := hw.symm
    clear hpre
    cases E with
    | false =>
      go_wp2
      go_ret
      exact ⟨rfl, HB1.out.1⟩
    | true =>
      by_cases hd : dn = 0
      · subst hd
        have hsp := space_any path HE.out (by omega) sch r no op q se st pr dp dc w1
        go_wp2_with fail
        refine hsp.mono ?_
        rintro e w3 ⟨k, x, rfl, H3⟩
        have ha : w3.cell? ⟨w.heap.size + 1, 0, none⟩ = some (.string path) := (H3.out.2.2.cell (p := ⟨w.heap.size + 1, 0, none⟩) (Array.getElem?_eq_some_iff.1 HB1.out.2.2).1).trans cp
        have hc := ctn1_any path x (w.heap.size + 1) k w3 ha H3.out.1 H3.out.2.1
        clear hsp
        go_wp2_with fail
        refine hc.mono ?_
        rintro e w4 ⟨rfl, hw⟩
        obtain rfl := hw.symm
        have HZ : Hid (Below w.heap.size w w3) := HB1.out.1.trans (H3.out.2.2.mono HB1.out.1.size)
        clear hc
        go_wp2
        go_ret
        exact ⟨rfl, HZ.out⟩
      · have hd2 : (0 : Int) < (dn : Int) := by omega
        go_wp2
        go_ret
        exact ⟨rfl, HB1.out.1⟩
end Go.Proofs.Ytokiddikcaihmab
