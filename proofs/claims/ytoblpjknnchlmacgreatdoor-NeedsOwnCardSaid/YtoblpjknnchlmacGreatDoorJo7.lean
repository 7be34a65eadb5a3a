/- Texts of one claim, joined: each begins with what it proves. -/
import Derived.Test.YtoblpjknnchlmacGreatDoorJo1
import Derived.Test.YtoblpjknnchlmacGreatDoorJo5
import Derived.Test.YtoblpjknnchlmacGreatDoorJo6
import Derived.Test.YtoblpjknnchlmacGreatDoorJo3
import Derived.Deep.RegionHeld3
import Derived.Deep.DeepCutAuto
import Derived.RegionTactic
import Derived.Deep.QuietTactic
import Derived.BigQuiet
import Derived.Deep.LoopGhost
import Derived.ProofKit
import Derived.OpenShut
import Derived.SliceStrings
import Derived.Carry
import Derived.SizedLaws
import Derived.Deep.Slices
import Derived.Deep.SlicePairs
import Derived.Deep.Strs
import Derived.Lib.SmallJoins
import Derived.Lib.LaidTab
/- A region driven by hand: an operation taken first. -/
namespace Go.Proofs.YtoblpjknnchlmacGreatDoor
open Go.RowKit

section
variable {P : Program} {ops : Array Oper} {Q : Exit → Act → World → Prop} {md : Region.Mode} {S : World → Prop}
theorem takeH {i : Nat} {oi : Oper} {d : Option Tmp} {v : Value} {fuel : Nat} {listed : Array Bool} {a : Act} {w : World} (hi : ops[i]? = some oi) (hd : oi.dst = d)
    (hs : Region.noSelect ops = true) (hf : Region.free md ops listed i = true) (hr : (Region.ready md ops listed).contains i = true)
    (hQ : ∀ c a w, Q (.panic c) (a.put oi.dst v) w → Q (.panic c) a w) (hw : Region.wanted oi (yielded ops a.tmps) = true) (hy : ∀ w, S w → (execOp a.eval oi).run P w = .ok (.value v) w) (hS : S w)
    (h : wpAnyH P md ops Q S fuel (listed.setIfInBounds i true) (a.put d v) w) : wpAnyH P md ops Q S (fuel + 1) listed a w := by
  subst hd
  exact wpAnyH_take hi hs hf hr hQ (Or.inl ⟨hw, hy⟩) hS h
theorem skipH {i : Nat} {oi : Oper} {d : Option Tmp} {fuel : Nat} {listed : Array Bool} {a : Act} {w : World} (hi : ops[i]? = some oi) (hd : oi.dst = d)
    (hs : Region.noSelect ops = true) (hf : Region.free md ops listed i = true) (hr : (Region.ready md ops listed).contains i = true)
    (hQ : ∀ c a w, Q (.panic c) (a.put oi.dst undef) w → Q (.panic c) a w) (hw : Region.wanted oi (yielded ops a.tmps) = false) (hS : S w)
    (h : wpAnyH P md ops Q S fuel (listed.setIfInBounds i true) (a.put d undef) w) : wpAnyH P md ops Q S (fuel + 1) listed a w := by
  subst hd
  exact wpAnyH_take hi hs hf hr hQ (Or.inr ⟨hw, rfl⟩) hS h
end
end Go.Proofs.YtoblpjknnchlmacGreatDoor

/- passesFor, by the program. -/
namespace Go.Proofs.YtoblpjknnchlmacGreatDoor
open Go.RowKit
set_option linter.unusedVariables false
set_option linter.unusedSimpArgs false

/-- The request's block and the passes' one. -/
structure PfS (w : World) (x : Array Value) (W : World) : Prop where
  box : BoxQ 28 w x W
  row : W.heap[w.heap.size + 1]? = some (.cells #[.slice none 0 0] 36 (0, 0))
theorem PfS.step {w W W' : World} {x : Array Value} (h : PfS w x W) (hb : Below W.heap.size W W') : PfS w x W' :=
  ⟨h.box.step hb, by rw [hb.block _ (Array.getElem?_eq_some_iff.1 h.row).1]; exact h.row⟩
theorem PfS.new (w : World) (x : Array Value) : PfS w x ((w.alloc (.cells x 28)).alloc (.cells #[.slice none 0 0] 36)) := by
  refine ⟨(BoxQ.new 28 w x).step ((Below.refl _ _).alloc (Nat.le_refl _) _), ?_⟩
  have := heap_alloc_new (w.alloc (.cells x 28)) (.cells #[.slice none 0 0] 36)
  simpa using this
theorem PfS.grown {w W W' : World} {x : Array Value} {g : Nat} (h : PfS w x W) (hg : W.grownBy W' (some g)) (hl : w.heap.size + 1 < g) : PfS w x W' := by
  have h1 : w.heap.size + 1 < W.heap.size := (Array.getElem?_eq_some_iff.1 h.row).1
  refine ⟨⟨h.box.bel.grown hg h.box.bel.size (fun i hi => by injection hi with hi; omega), ?_⟩, ?_⟩
  · rw [hg.block _ (by omega) (by intro e; injection e with e; omega)]
    exact h.box.row
  · rw [hg.block _ h1 (by intro e; injection e with e; omega)]
    exact h.row
theorem store12 {W : World} {g : Nat} {y : Array Value} {T : TypeId} (h : W.heap[g]? = some (.cells y T (0, 0))) (x : List Value) (hs : y.size = x.length) (h1 : ∀ u ∈ x, u.oneCell' = true) :
    Sem.run Tryz.prog (storeCells ⟨g, 0, none⟩ x 0) W = .ok () (W.setCells g 0 x) ∧ (W.setCells g 0 x).heap[g]? = some (.cells x.toArray T (0, 0)) ∧ W.grownBy (W.setCells g 0 x) (some g) := by
  have hr := run_storeCells_cells (P := Tryz.prog) g 0 x 0 W (fun j hj => by
    rw [Nat.add_zero, Nat.zero_add, cell_of h, Array.getElem?_eq_getElem (by omega)]
    rfl) (fun j _ => free_of h _) h1
  rw [Nat.add_zero] at hr
  exact ⟨hr, setAll x h hs⟩
theorem PfS.lt {w W : World} {x : Array Value} (h : PfS w x W) : w.heap.size + 1 < W.heap.size := (Array.getElem?_eq_some_iff.1 h.row).1
set_option maxRecDepth 100000 in
set_option maxHeartbeats 8000000 in
theorem passesFor9_any (pt fp up : Int) (fs us wi : Bool) (fh uh pa qu me bo : ByteArray) (ra : Option Addr) (rl rc : Nat) (h1 : fh.size ≤ 140737488355328) (h2 : uh.size ≤ 140737488355328) (h3 : pa.size ≤ 140737488355328) (h4 : qu.size ≤ 140737488355328) (un : Int)
    (ms hs : List ByteArray) (hms : ms.length ≤ 100) (hhs : hs.length ≤ 100) (hz : ∀ x ∈ hs, x.size ≤ 20000) (ma ha : Option Addr) (mn mc mb mo hn hc hb ho : Nat) (w : World) (hm : Strs w ma mn mb mo ms) (hh : Strs w ha hn hb ho hs) :
    Calls Tryz.prog 25 #[.agg #[.int .i64 pt, .bool fs, .string fh, .int .i64 fp, .bool us, .string uh, .int .i64 up, .string pa, .string qu, .string me, .slice ra rl rc, .bool wi, .string bo], .int .i64 un, .slice ma mn mc, .slice ha hn hc] w fun e w' => (∃ v, e = .returned v ∧ OwnX ⟨fs, fh, fp, us, uh, up, pa, qu, wi, ⟨#[]⟩, ⟨#[]⟩, un⟩ w' w.heap.size v (passL ms hs)) ∧ Below w.heap.size w w' := by
  have HM : Hid (Strs w ma mn mb mo ms ∧ ms.length = mn) := ⟨hm, hm.len_eq⟩
  have HH : Hid (Strs w ha hn hb ho hs ∧ hs.length = hn) := ⟨hh, hh.len_eq⟩
  have HZ : Hid (∀ x ∈ hs, x.size ≤ 20000) := hz
  have hmn : mn ≤ 100 := by rw [← hm.len_eq]; exact hms
  have hhn : hn ≤ 100 := by rw [← hh.len_eq]; exact hhs
  have hP := PfS.new w #[.int .i64 pt, .bool fs, .string fh, .int .i64 fp, .bool us, .string uh, .int .i64 up, .string pa, .string qu, .string me, .slice ra rl rc, .bool wi, .string bo]
  have hen := enters_at Tryz.func53 (by kernel_rfl) rfl
  obtain ⟨p, HPB⟩ : ∃ p : PsV, Hid (p = ⟨fs, fh, fp, us, uh, up, pa, qu, wi, ⟨#[]⟩, ⟨#[]⟩, un⟩) := ⟨_, rfl⟩
  clear hm hh hz hms hhs
  go_enter Tryz.func25, Tryz.ntmps25
  go_upto_region 2 with fail
  generalize hW0 : ((w.alloc (.cells #[.int .i64 pt, .bool fs, .string fh, .int .i64 fp, .bool us, .string uh, .int .i64 up, .string pa, .string qu, .string me, .slice ra rl rc, .bool wi, .string bo] 28)).alloc (.cells #[.slice none 0 0] 36)) = W0 at hP ⊢
  clear hW0
  have HP : Hid (PfS w #[.int .i64 pt, .bool fs, .string fh, .int .i64 fp, .bool us, .string uh, .int .i64 up, .string pa, .string qu, .string me, .slice ra rl rc, .bool wi, .string bo] W0.drew) := hP.step (Below.refl _ _).drew
  clear hP
  have hbase : ∀ W, PfS w #[.int .i64 pt, .bool fs, .string fh, .int .i64 fp, .bool us, .string uh, .int .i64 up, .string pa, .string qu, .string me, .slice ra rl rc, .bool wi, .string bo] W → W.cell? ⟨w.heap.size, 1, none⟩ = some (.bool fs) ∧ W.cell? ⟨w.heap.size, 2, none⟩ = some (.string fh) ∧ W.cell? ⟨w.heap.size, 3, none⟩ = some (.int .i64 fp) ∧ W.cell? ⟨w.heap.size, 4, none⟩ = some (.bool us) ∧ W.cell? ⟨w.heap.size, 5, none⟩ = some (.string uh) ∧ W.cell? ⟨w.heap.size, 6, none⟩ = some (.int .i64 up) ∧ W.cell? ⟨w.heap.size, 7, none⟩ = some (.string pa) ∧ W.cell? ⟨w.heap.size, 8, none⟩ = some (.string qu) ∧ W.cell? ⟨w.heap.size, 11, none⟩ = some (.bool wi) ∧ Hid (PfS w #[.int .i64 pt, .bool fs, .string fh, .int .i64 fp, .bool us, .string uh, .int .i64 up, .string pa, .string qu, .string me, .slice ra rl rc, .bool wi, .string bo] W) := fun W h => ⟨(PfS.box h).at 1 _ rfl, (PfS.box h).at 2 _ rfl, (PfS.box h).at 3 _ rfl, (PfS.box h).at 4 _ rfl, (PfS.box h).at 5 _ rfl, (PfS.box h).at 6 _ rfl, (PfS.box h).at 7 _ rfl, (PfS.box h).at 8 _ rfl, (PfS.box h).at 11 _ rfl, h⟩
  go_cut [10] (fun v wc => ∃ gp : Nat, v = .pointer (some ⟨gp, 0, none⟩) ∧ Hid (PfS w #[.int .i64 pt, .bool fs, .string fh, .int .i64 fp, .bool us, .string uh, .int .i64 up, .string pa, .string qu, .string me, .slice ra rl rc, .bool wi, .string bo] wc ∧ wc.heap[gp]? = some (.cells p.vals.toArray 40 (0, 0)) ∧ w.heap.size + 1 < gp))
  case first =>
    refine wp_region_held_drew (S := fun W => W.cell? ⟨w.heap.size, 1, none⟩ = some (.bool fs) ∧ W.cell? ⟨w.heap.size, 2, none⟩ = some (.string fh) ∧ W.cell? ⟨w.heap.size, 3, none⟩ = some (.int .i64 fp) ∧ W.cell? ⟨w.heap.size, 4, none⟩ = some (.bool us) ∧ W.cell? ⟨w.heap.size, 5, none⟩ = some (.string uh) ∧ W.cell? ⟨w.heap.size, 6, none⟩ = some (.int .i64 up) ∧ W.cell? ⟨w.heap.size, 7, none⟩ = some (.string pa) ∧ W.cell? ⟨w.heap.size, 8, none⟩ = some (.string qu) ∧ W.cell? ⟨w.heap.size, 11, none⟩ = some (.bool wi) ∧ Hid (PfS w #[.int .i64 pt, .bool fs, .string fh, .int .i64 fp, .bool us, .string uh, .int .i64 up, .string pa, .string qu, .string me, .slice ra rl rc, .bool wi, .string bo] W)) (by kernel_rfl) (hbase _ (show PfS _ _ _ from HP.out)) (fun hHeld => ?_)
    refine takeH (i := 0) (d := some 16) (v := ?_) rfl rfl (by kernel_rfl) (by kernel_rfl) (by kernel_rfl) (fun _ _ _ h => h) (by rfl) ?_ (by assumption) ?_
    rotate_left
    · intro w hSw; (try dsimp only at hSw); obtain ⟨q1, q2, q3, q4, q5, q6, q7, q8, q11, _⟩ := hSw; go_simp; with_reducible rfl
    try simp only [Act.put, List.setIfInBounds_toArray, List.set_cons_zero, List.set_cons_succ]
    refine takeH (i := 1) (d := some 17) (v := ?_) rfl rfl (by kernel_rfl) (by kernel_rfl) (by kernel_rfl) (fun _ _ _ h => h) (by rfl) ?_ (by assumption) ?_
    rotate_left
    · intro w hSw; (try dsimp only at hSw); obtain ⟨q1, q2, q3, q4, q5, q6, q7, q8, q11, _⟩ := hSw; go_simp; with_reducible rfl
    try simp only [Act.put, List.setIfInBounds_toArray, List.set_cons_zero, List.set_cons_succ]
    refine takeH (i := 3) (d := some 19) (v := ?_) rfl rfl (by kernel_rfl) (by kernel_rfl) (by kernel_rfl) (fun _ _ _ h => h) (by rfl) ?_ (by assumption) ?_
    rotate_left
    · intro w hSw; (try dsimp only at hSw); obtain ⟨q1, q2, q3, q4, q5, q6, q7, q8, q11, _⟩ := hSw; go_simp; with_reducible rfl
    try simp only [Act.put, List.setIfInBounds_toArray, List.set_cons_zero, List.set_cons_succ]
    refine takeH (i := 4) (d := some 20) (v := ?_) rfl rfl (by kernel_rfl) (by kernel_rfl) (by kernel_rfl) (fun _ _ _ h => h) (by rfl) ?_ (by assumption) ?_
    rotate_left
    · intro w hSw; (try dsimp only at hSw); obtain ⟨q1, q2, q3, q4, q5, q6, q7, q8, q11, _⟩ := hSw; go_simp; with_reducible rfl
    try simp only [Act.put, List.setIfInBounds_toArray, List.set_cons_zero, List.set_cons_succ]
    refine takeH (i := 6) (d := some 22) (v := ?_) rfl rfl (by kernel_rfl) (by kernel_rfl) (by kernel_rfl) (fun _ _ _ h => h) (by rfl) ?_ (by assumption) ?_
    rotate_left
    · intro w hSw; (try dsimp only at hSw); obtain ⟨q1, q2, q3, q4, q5, q6, q7, q8, q11, _⟩ := hSw; go_simp; with_reducible rfl
    try simp only [Act.put, List.setIfInBounds_toArray, List.set_cons_zero, List.set_cons_succ]
    refine takeH (i := 7) (d := some 23) (v := ?_) rfl rfl (by kernel_rfl) (by kernel_rfl) (by kernel_rfl) (fun _ _ _ h => h) (by rfl) ?_ (by assumption) ?_
    rotate_left
    · intro w hSw; (try dsimp only at hSw); obtain ⟨q1, q2, q3, q4, q5, q6, q7, q8, q11, _⟩ := hSw; go_simp; with_reducible rfl
    try simp only [Act.put, List.setIfInBounds_toArray, List.set_cons_zero, List.set_cons_succ]
    refine takeH (i := 8) (d := some 24) (v := ?_) rfl rfl (by kernel_rfl) (by kernel_rfl) (by kernel_rfl) (fun _ _ _ h => h) (by rfl) ?_ (by assumption) ?_
    rotate_left
    · intro w hSw; (try dsimp only at hSw); obtain ⟨q1, q2, q3, q4, q5, q6, q7, q8, q11, _⟩ := hSw; go_simp; with_reducible rfl
    try simp only [Act.put, List.setIfInBounds_toArray, List.set_cons_zero, List.set_cons_succ]
    refine wpAnyH_ready (rs := [2, 10]) (by kernel_rfl) (by simp) ?_
    refine AllReadyH.cons (by rfl) (fun K hKK => ?_) (AllReadyH.cons (by rfl) (fun K hKK => ?_) AllReadyH.nil)
    · skip
      go_simp
      refine (fresh9_any fs fh fp h1 _).mono ?_
      rintro e w1 ⟨rfl, hbw1⟩
      have P1 : Hid (PfS w #[.int .i64 pt, .bool fs, .string fh, .int .i64 fp, .bool us, .string uh, .int .i64 up, .string pa, .string qu, .string me, .slice ra rl rc, .bool wi, .string bo] w1) := (show PfS _ _ _ from HP.out).step hbw1
      clear hbw1
      go_wp2_with fail
      refine hKK.out _ _ (hbase _ (show PfS _ _ _ from P1.out)) (fun hHeld => ?_)
      clear hKK K
      try simp only [Act.put, List.setIfInBounds_toArray, List.set_cons_zero, List.set_cons_succ]
      refine wpAnyH_ready (rs := [5, 10]) (by kernel_rfl) (by simp) ?_
      refine AllReadyH.cons (by rfl) (fun K hKK => ?_) (AllReadyH.cons (by rfl) (fun K hKK => ?_) AllReadyH.nil)
      · skip
        go_simp
        refine (freshU9_any us uh up pa qu h2 h3 h4 _).mono ?_
        rintro e w2 ⟨rfl, hbw2⟩
        have P2 : Hid (PfS w #[.int .i64 pt, .bool fs, .string fh, .int .i64 fp, .bool us, .string uh, .int .i64 up, .string pa, .string qu, .string me, .slice ra rl rc, .bool wi, .string bo] w2) := (show PfS _ _ _ from P1.out).step hbw2
        clear hbw2
        go_wp2_with fail
        refine hKK.out _ _ (hbase _ (show PfS _ _ _ from P2.out)) (fun hHeld => ?_)
        clear hKK K
        try simp only [Act.put, List.setIfInBounds_toArray, List.set_cons_zero, List.set_cons_succ]
        refine takeH (i := 9) (d := some 25) (v := .agg p.vals.toArray) rfl rfl (by kernel_rfl) (by kernel_rfl) (by kernel_rfl) (fun _ _ _ h => h) (by rfl) ?_ (by assumption) ?_
        · intro w hSw; (try dsimp only at hSw); obtain ⟨q1, q2, q3, q4, q5, q6, q7, q8, q11, _⟩ := hSw; go_simp; rw [HPB.out]; rfl
        try simp only [Act.put, List.setIfInBounds_toArray, List.set_cons_zero, List.set_cons_succ]
        refine wpAnyH_ready (rs := [10]) (by kernel_rfl) (by simp) ?_
        refine AllReadyH.cons (by rfl) (fun K hKK => ?_) AllReadyH.nil
        go_simp
        have P3 : Hid (PfS w #[.int .i64 pt, .bool fs, .string fh, .int .i64 fp, .bool us, .string uh, .int .i64 up, .string pa, .string qu, .string me, .slice ra rl rc, .bool wi, .string bo] (w2.alloc (.cells #[.bool false, .string ⟨#[]⟩, .int .i64 0, .bool false, .string ⟨#[]⟩, .int .i64 0, .string ⟨#[]⟩, .string ⟨#[]⟩, .bool false, .string ⟨#[]⟩, .string ⟨#[]⟩, .int .i64 0] 40))) := (show PfS _ _ _ from P2.out).step ((Below.refl _ _).alloc (Nat.le_refl _) _)
        have R3 : Hid ((w2.alloc (.cells #[.bool false, .string ⟨#[]⟩, .int .i64 0, .bool false, .string ⟨#[]⟩, .int .i64 0, .string ⟨#[]⟩, .string ⟨#[]⟩, .bool false, .string ⟨#[]⟩, .string ⟨#[]⟩, .int .i64 0] 40)).heap[w2.heap.size]? = some (.cells #[.bool false, .string ⟨#[]⟩, .int .i64 0, .bool false, .string ⟨#[]⟩, .int .i64 0, .string ⟨#[]⟩, .string ⟨#[]⟩, .bool false, .string ⟨#[]⟩, .string ⟨#[]⟩, .int .i64 0] 40 (0, 0))) := heap_alloc_new _ _
        have LR3 : Hid (w.heap.size + 1 < w2.heap.size) := (show PfS _ _ _ from P2.out).lt
        refine hKK.out _ _ (hbase _ (show PfS _ _ _ from P3.out)) (fun hHeld => ?_)
        clear hKK K
        try simp only [Act.put, List.setIfInBounds_toArray, List.set_cons_zero, List.set_cons_succ]
        refine wpAnyH_ready (rs := [11]) (by kernel_rfl) (by simp) ?_
        refine AllReadyH.cons (by rfl) (fun K hKK => ?_) AllReadyH.nil
        obtain ⟨hst, z1, z2⟩ := store12 (show (w2.alloc (.cells #[.bool false, .string ⟨#[]⟩, .int .i64 0, .bool false, .string ⟨#[]⟩, .int .i64 0, .string ⟨#[]⟩, .string ⟨#[]⟩, .bool false, .string ⟨#[]⟩, .string ⟨#[]⟩, .int .i64 0] 40)).heap[w2.heap.size]? = some (.cells #[.bool false, .string ⟨#[]⟩, .int .i64 0, .bool false, .string ⟨#[]⟩, .int .i64 0, .string ⟨#[]⟩, .string ⟨#[]⟩, .bool false, .string ⟨#[]⟩, .string ⟨#[]⟩, .int .i64 0] 40 (0, 0)) from R3.out) p.vals rfl (vals_one p)
        have PZ := (show PfS _ _ _ from P3.out).grown z2 (show _ < _ from LR3.out)
        have HZ1 : Hid (_ = _) := z1
        clear z1 z2
        go_simp
        refine hKK.out _ _ (hbase _ PZ) (fun hHeld => ?_)
        clear hKK K hst
        try simp only [Act.put, List.setIfInBounds_toArray, List.set_cons_zero, List.set_cons_succ]
        refine wpAnyH_done (by kernel_rfl) ?_ _
        go_wp2_with fail
        go_meet
        exact ⟨_, rfl, ⟨PZ, HZ1.out, (show _ < _ from LR3.out)⟩⟩
      · skip
        go_simp
        have P3 : Hid (PfS w #[.int .i64 pt, .bool fs, .string fh, .int .i64 fp, .bool us, .string uh, .int .i64 up, .string pa, .string qu, .string me, .slice ra rl rc, .bool wi, .string bo] (w1.alloc (.cells #[.bool false, .string ⟨#[]⟩, .int .i64 0, .bool false, .string ⟨#[]⟩, .int .i64 0, .string ⟨#[]⟩, .string ⟨#[]⟩, .bool false, .string ⟨#[]⟩, .string ⟨#[]⟩, .int .i64 0] 40))) := (show PfS _ _ _ from P1.out).step ((Below.refl _ _).alloc (Nat.le_refl _) _)
        have R3 : Hid ((w1.alloc (.cells #[.bool false, .string ⟨#[]⟩, .int .i64 0, .bool false, .string ⟨#[]⟩, .int .i64 0, .string ⟨#[]⟩, .string ⟨#[]⟩, .bool false, .string ⟨#[]⟩, .string ⟨#[]⟩, .int .i64 0] 40)).heap[w1.heap.size]? = some (.cells #[.bool false, .string ⟨#[]⟩, .int .i64 0, .bool false, .string ⟨#[]⟩, .int .i64 0, .string ⟨#[]⟩, .string ⟨#[]⟩, .bool false, .string ⟨#[]⟩, .string ⟨#[]⟩, .int .i64 0] 40 (0, 0))) := heap_alloc_new _ _
        have LR3 : Hid (w.heap.size + 1 < w1.heap.size) := (show PfS _ _ _ from P1.out).lt
        refine hKK.out _ _ (hbase _ (show PfS _ _ _ from P3.out)) (fun hHeld => ?_)
        clear hKK K
        try simp only [Act.put, List.setIfInBounds_toArray, List.set_cons_zero, List.set_cons_succ]
        refine wpAnyH_ready (rs := [5]) (by kernel_rfl) (by simp) ?_
        refine AllReadyH.cons (by rfl) (fun K hKK => ?_) AllReadyH.nil
        go_simp
        refine (freshU9_any us uh up pa qu h2 h3 h4 _).mono ?_
        rintro e w2 ⟨rfl, hbw2⟩
        have P2 : Hid (PfS w #[.int .i64 pt, .bool fs, .string fh, .int .i64 fp, .bool us, .string uh, .int .i64 up, .string pa, .string qu, .string me, .slice ra rl rc, .bool wi, .string bo] w2) := (show PfS _ _ _ from P3.out).step hbw2
        have Rw2 : Hid (w2.heap[w1.heap.size]? = some (.cells #[.bool false, .string ⟨#[]⟩, .int .i64 0, .bool false, .string ⟨#[]⟩, .int .i64 0, .string ⟨#[]⟩, .string ⟨#[]⟩, .bool false, .string ⟨#[]⟩, .string ⟨#[]⟩, .int .i64 0] 40 (0, 0))) := (show _ = _ from (hbw2.block _ (Array.getElem?_eq_some_iff.1 R3.out).1).trans R3.out)
        clear hbw2
        go_wp2_with fail
        refine hKK.out _ _ (hbase _ (show PfS _ _ _ from P2.out)) (fun hHeld => ?_)
        clear hKK K
        try simp only [Act.put, List.setIfInBounds_toArray, List.set_cons_zero, List.set_cons_succ]
        refine takeH (i := 9) (d := some 25) (v := .agg p.vals.toArray) rfl rfl (by kernel_rfl) (by kernel_rfl) (by kernel_rfl) (fun _ _ _ h => h) (by rfl) ?_ (by assumption) ?_
        · intro w hSw; (try dsimp only at hSw); obtain ⟨q1, q2, q3, q4, q5, q6, q7, q8, q11, _⟩ := hSw; go_simp; rw [HPB.out]; rfl
        try simp only [Act.put, List.setIfInBounds_toArray, List.set_cons_zero, List.set_cons_succ]
        refine wpAnyH_ready (rs := [11]) (by kernel_rfl) (by simp) ?_
        refine AllReadyH.cons (by rfl) (fun K hKK => ?_) AllReadyH.nil
        obtain ⟨hst, z1, z2⟩ := store12 (show w2.heap[w1.heap.size]? = some (.cells #[.bool false, .string ⟨#[]⟩, .int .i64 0, .bool false, .string ⟨#[]⟩, .int .i64 0, .string ⟨#[]⟩, .string ⟨#[]⟩, .bool false, .string ⟨#[]⟩, .string ⟨#[]⟩, .int .i64 0] 40 (0, 0)) from Rw2.out) p.vals rfl (vals_one p)
        have PZ := (show PfS _ _ _ from P2.out).grown z2 (show _ < _ from LR3.out)
        have HZ1 : Hid (_ = _) := z1
        clear z1 z2
        go_simp
        refine hKK.out _ _ (hbase _ PZ) (fun hHeld => ?_)
        clear hKK K hst
        try simp only [Act.put, List.setIfInBounds_toArray, List.set_cons_zero, List.set_cons_succ]
        refine wpAnyH_done (by kernel_rfl) ?_ _
        go_wp2_with fail
        go_meet
        exact ⟨_, rfl, ⟨PZ, HZ1.out, (show _ < _ from LR3.out)⟩⟩
    · skip
      go_simp
      have P3 : Hid (PfS w #[.int .i64 pt, .bool fs, .string fh, .int .i64 fp, .bool us, .string uh, .int .i64 up, .string pa, .string qu, .string me, .slice ra rl rc, .bool wi, .string bo] (W0.drew.alloc (.cells #[.bool false, .string ⟨#[]⟩, .int .i64 0, .bool false, .string ⟨#[]⟩, .int .i64 0, .string ⟨#[]⟩, .string ⟨#[]⟩, .bool false, .string ⟨#[]⟩, .string ⟨#[]⟩, .int .i64 0] 40))) := (show PfS _ _ _ from HP.out).step ((Below.refl _ _).alloc (Nat.le_refl _) _)
      have R3 : Hid ((W0.drew.alloc (.cells #[.bool false, .string ⟨#[]⟩, .int .i64 0, .bool false, .string ⟨#[]⟩, .int .i64 0, .string ⟨#[]⟩, .string ⟨#[]⟩, .bool false, .string ⟨#[]⟩, .string ⟨#[]⟩, .int .i64 0] 40)).heap[W0.drew.heap.size]? = some (.cells #[.bool false, .string ⟨#[]⟩, .int .i64 0, .bool false, .string ⟨#[]⟩, .int .i64 0, .string ⟨#[]⟩, .string ⟨#[]⟩, .bool false, .string ⟨#[]⟩, .string ⟨#[]⟩, .int .i64 0] 40 (0, 0))) := heap_alloc_new _ _
      have LR3 : Hid (w.heap.size + 1 < W0.drew.heap.size) := (show PfS _ _ _ from HP.out).lt
      refine hKK.out _ _ (hbase _ (show PfS _ _ _ from P3.out)) (fun hHeld => ?_)
      clear hKK K
      try simp only [Act.put, List.setIfInBounds_toArray, List.set_cons_zero, List.set_cons_succ]
      refine wpAnyH_ready (rs := [2]) (by kernel_rfl) (by simp) ?_
      refine AllReadyH.cons (by rfl) (fun K hKK => ?_) AllReadyH.nil
      go_simp
      refine (fresh9_any fs fh fp h1 _).mono ?_
      rintro e w1 ⟨rfl, hbw1⟩
      have P1 : Hid (PfS w #[.int .i64 pt, .bool fs, .string fh, .int .i64 fp, .bool us, .string uh, .int .i64 up, .string pa, .string qu, .string me, .slice ra rl rc, .bool wi, .string bo] w1) := (show PfS _ _ _ from P3.out).step hbw1
      have Rw1 : Hid (w1.heap[W0.heap.size]? = some (.cells #[.bool false, .string ⟨#[]⟩, .int .i64 0, .bool false, .string ⟨#[]⟩, .int .i64 0, .string ⟨#[]⟩, .string ⟨#[]⟩, .bool false, .string ⟨#[]⟩, .string ⟨#[]⟩, .int .i64 0] 40 (0, 0))) := (show _ = _ from (hbw1.block _ (Array.getElem?_eq_some_iff.1 R3.out).1).trans R3.out)
      clear hbw1
      go_wp2_with fail
      refine hKK.out _ _ (hbase _ (show PfS _ _ _ from P1.out)) (fun hHeld => ?_)
      clear hKK K
      try simp only [Act.put, List.setIfInBounds_toArray, List.set_cons_zero, List.set_cons_succ]
      refine wpAnyH_ready (rs := [5]) (by kernel_rfl) (by simp) ?_
      refine AllReadyH.cons (by rfl) (fun K hKK => ?_) AllReadyH.nil
      go_simp
      refine (freshU9_any us uh up pa qu h2 h3 h4 _).mono ?_
      rintro e w2 ⟨rfl, hbw2⟩
      have P2 : Hid (PfS w #[.int .i64 pt, .bool fs, .string fh, .int .i64 fp, .bool us, .string uh, .int .i64 up, .string pa, .string qu, .string me, .slice ra rl rc, .bool wi, .string bo] w2) := (show PfS _ _ _ from P1.out).step hbw2
      have Rw2 : Hid (w2.heap[W0.heap.size]? = some (.cells #[.bool false, .string ⟨#[]⟩, .int .i64 0, .bool false, .string ⟨#[]⟩, .int .i64 0, .string ⟨#[]⟩, .string ⟨#[]⟩, .bool false, .string ⟨#[]⟩, .string ⟨#[]⟩, .int .i64 0] 40 (0, 0))) := (show _ = _ from (hbw2.block _ (Array.getElem?_eq_some_iff.1 Rw1.out).1).trans Rw1.out)
      clear hbw2
      go_wp2_with fail
      refine hKK.out _ _ (hbase _ (show PfS _ _ _ from P2.out)) (fun hHeld => ?_)
      clear hKK K
      try simp only [Act.put, List.setIfInBounds_toArray, List.set_cons_zero, List.set_cons_succ]
      refine takeH (i := 9) (d := some 25) (v := .agg p.vals.toArray) rfl rfl (by kernel_rfl) (by kernel_rfl) (by kernel_rfl) (fun _ _ _ h => h) (by rfl) ?_ (by assumption) ?_
      · intro w hSw; (try dsimp only at hSw); obtain ⟨q1, q2, q3, q4, q5, q6, q7, q8, q11, _⟩ := hSw; go_simp; rw [HPB.out]; rfl
      try simp only [Act.put, List.setIfInBounds_toArray, List.set_cons_zero, List.set_cons_succ]
      refine wpAnyH_ready (rs := [11]) (by kernel_rfl) (by simp) ?_
      refine AllReadyH.cons (by rfl) (fun K hKK => ?_) AllReadyH.nil
      obtain ⟨hst, z1, z2⟩ := store12 (show w2.heap[W0.heap.size]? = some (.cells #[.bool false, .string ⟨#[]⟩, .int .i64 0, .bool false, .string ⟨#[]⟩, .int .i64 0, .string ⟨#[]⟩, .string ⟨#[]⟩, .bool false, .string ⟨#[]⟩, .string ⟨#[]⟩, .int .i64 0] 40 (0, 0)) from Rw2.out) p.vals rfl (vals_one p)
      have PZ := (show PfS _ _ _ from P2.out).grown z2 (show _ < _ from LR3.out)
      have HZ1 : Hid (_ = _) := z1
      clear z1 z2
      go_simp
      refine hKK.out _ _ (hbase _ PZ) (fun hHeld => ?_)
      clear hKK K hst
      try simp only [Act.put, List.setIfInBounds_toArray, List.set_cons_zero, List.set_cons_succ]
      refine wpAnyH_done (by kernel_rfl) ?_ _
      go_wp2_with fail
      go_meet
      exact ⟨_, rfl, ⟨PZ, HZ1.out, (show _ < _ from LR3.out)⟩⟩
  case rest =>
  obtain ⟨gp, rfl, HC⟩ := hcut
  have hg := HC.out.1.row
  have HLT : Hid (w.heap.size + 1 < gp ∧ gp < wc.heap.size ∧ w.heap.size + 1 < wc.heap.size) := ⟨HC.out.2.2, (Array.getElem?_eq_some_iff.1 HC.out.2.1).1, (Array.getElem?_eq_some_iff.1 hg).1⟩
  have hpv : p.vals.toArray = #[.bool p.fs, .string p.fh, .int .i64 p.fp, .bool p.us, .string p.uh, .int .i64 p.up, .string p.pa, .string p.qu, .bool p.wi, .string ⟨#[]⟩, .string ⟨#[]⟩, .int .i64 p.un] := by rw [HPB.out]; rfl
  have HH0 : Hid (HoldX p gp (w.heap.size + 1) wc.heap.size [] wc) := ⟨by rw [← hpv]; exact HC.out.2.1, ⟨_, hg, ownX_nil p wc _⟩, HLT.out.2.1, HLT.out.2.2, (by have := HLT.out.1; omega), Nat.le_refl _⟩
  have HBW : Hid (Below w.heap.size w wc) := HC.out.1.box.bel
  have HADD : Hid (∀ (l : List (ByteArray × ByteArray)) (x y : ByteArray) (W : World), l.length ≤ 500 → HoldX p gp (w.heap.size + 1) wc.heap.size l W → Calls Tryz.prog 53 #[.string x, .string y, .pointer (some ⟨gp, 0, none⟩), .pointer (some ⟨w.heap.size + 1, 0, none⟩)] W fun e w' => e = .returned (.tuple #[]) ∧ HoldX p gp (w.heap.size + 1) wc.heap.size (addX l (x, y)) w' ∧ Below (w.heap.size + 1) W w') := fun l x y W hl h => add9_any p gp _ _ l hl x y W h
  clear hg hpv HC HLT hbase HP
  go_wp2
  go_loopw [29] (fun i wr => ∃ k : Nat, k ≤ mn ∧ i = .int .i64 k ∧ Hid (HoldX p gp (w.heap.size + 1) wc.heap.size (passM (ms.take k)) wr ∧ Below w.heap.size w wr)) (fun i _ => mn - (intOf i).toNat)
  case atStart => exact ⟨0, Nat.zero_le _, rfl, HH0.out, HBW.out⟩
  case round =>
    obtain ⟨k, hk, rfl, HI⟩ := hrel
    by_cases hlt : k < mn
    · have hltz : (k : Int) < (mn : Int) := by omega
      obtain ⟨x, hx⟩ : ∃ x, ms[k]? = some x := ⟨ms[k]'(by have := HM.out.2; omega), List.getElem?_eq_getElem _⟩
      have HXK : Hid (ms[k]? = some x) := hx
      obtain ⟨ha0, _⟩ := HM.out.1.lies (by omega)
      subst ha0
      have cx := (HM.out.1.below HI.out.2).cells k x hx
      have hcall := HADD.out (passM (ms.take k)) x ⟨#[]⟩ wr (by have := passM_len (ms.take k); rw [List.length_take] at this; omega) HI.out.1
      clear hx
      go_wp2_with fail
      refine hcall.mono ?_
      rintro e w4 ⟨rfl, h4, hb4⟩
      have HI4 : Hid (HoldX p gp (w.heap.size + 1) wc.heap.size (passM (ms.take (k + 1))) w4 ∧ Below w.heap.size w w4) := ⟨by have e4 := foldX_snoc mX [] HXK.out; unfold passM at h4 ⊢; rw [e4]; exact h4, HI.out.2.trans (hb4.mono (by omega))⟩
      clear hcall h4 hb4 cx
      go_wp2
      go_roundw
      case rel => exact ⟨k + 1, by omega, by go_num, HI4⟩
      case measure => simp [intOf]; omega
    · have hltz : ¬ (k : Int) < (mn : Int) := by omega
      have HI1 : Hid (HoldX p gp (w.heap.size + 1) wc.heap.size (passM ms) wr ∧ Below w.heap.size w wr) := by
        have := HI.out
        rw [List.take_of_length_le (by have := HM.out.2; omega)] at this
        exact this
      clear HI
      generalize hwx : wr = wx at HI1 ⊢
      clear hwx
      go_wp2
      go_loopw [39] (fun i wr => ∃ k : Nat, k ≤ hn ∧ i = .int .i64 k ∧ Hid (HoldX p gp (w.heap.size + 1) wc.heap.size (((hs.take k).map hX).foldl addX (passM ms)) wr ∧ Below w.heap.size w wr)) (fun i _ => hn - (intOf i).toNat)
      case atStart => exact ⟨0, Nat.zero_le _, rfl, HI1.out.1, HI1.out.2⟩
      case round =>
        obtain ⟨k, hk, rfl, HI⟩ := hrel
        by_cases hlt : k < hn
        · have hltz : (k : Int) < (hn : Int) := by omega
          obtain ⟨x, hx⟩ : ∃ x, hs[k]? = some x := ⟨hs[k]'(by have := HH.out.2; omega), List.getElem?_eq_getElem _⟩
          have HXK : Hid (hs[k]? = some x) := hx
          obtain ⟨ha0, _⟩ := HH.out.1.lies (by omega)
          subst ha0
          have cx := (HH.out.1.below HI.out.2).cells k x hx
          have hxz := HZ.out x (List.mem_of_getElem? hx)
          have HLN : Hid ((((hs.take k).map hX).foldl addX (passM ms)).length ≤ 500) := by
            show _ ≤ _
            have e1 := foldX_len (passM ms) ((hs.take k).map hX)
            have e2 := passM_len ms
            have e3 := HM.out.2
            rw [List.length_map, List.length_take] at e1
            omega
          obtain ⟨y, HY⟩ : ∃ y, Hid (bs (x.data.toList.map low) = y) := ⟨_, rfl⟩
          have hlow := lower_any x wr (by omega)
          rw [HY.out] at hlow
          clear hx hxz
          go_wp2_with fail
          refine hlow.mono ?_
          rintro e w4 ⟨rfl, hb4⟩
          have HI4 : Hid (HoldX p gp (w.heap.size + 1) wc.heap.size (((hs.take k).map hX).foldl addX (passM ms)) w4 ∧ Below w.heap.size w w4) := ⟨HI.out.1.below hb4, HI.out.2.trans (hb4.mono HI.out.2.size)⟩
          have hcall := HADD.out _ ⟨#[]⟩ y w4 HLN.out HI4.out.1
          clear hlow hb4 cx
          go_wp2_with fail
          refine hcall.mono ?_
          rintro e w5 ⟨rfl, h5, hb5⟩
          have HI5 : Hid (HoldX p gp (w.heap.size + 1) wc.heap.size (((hs.take (k + 1)).map hX).foldl addX (passM ms)) w5 ∧ Below w.heap.size w w5) := ⟨by rw [foldX_snoc hX (passM ms) HXK.out]; unfold hX; rw [HY.out]; exact h5, HI4.out.2.trans (hb5.mono (by omega))⟩
          clear hcall h5 hb5
          go_wp2
          go_roundw
          case rel => exact ⟨k + 1, by omega, by go_num, HI5⟩
          case measure => simp [intOf]; omega
        · have hltz : ¬ (k : Int) < (hn : Int) := by omega
          have HI2 : Hid (HoldX p gp (w.heap.size + 1) wc.heap.size (passL ms hs) wr ∧ Below w.heap.size w wr) := by
            have := HI.out
            rw [List.take_of_length_le (by have := HH.out.2; omega)] at this
            exact this
          clear HI
          obtain ⟨v, hv, hown⟩ := HI2.out.1.own
          have sv : wr.cell? ⟨w.heap.size + 1, 0, none⟩ = some v := cell_of hv
          have HOW : Hid (OwnX ⟨fs, fh, fp, us, uh, up, pa, qu, wi, ⟨#[]⟩, ⟨#[]⟩, un⟩ wr w.heap.size v (passL ms hs)) := by
            have := OwnK.mono hown (B' := w.heap.size) HBW.out.size
            rw [HPB.out] at this
            exact this
          clear hv hown
          go_wp2
          go_ret
          exact ⟨⟨v, rfl, HOW.out⟩, HI2.out.2⟩
end Go.Proofs.YtoblpjknnchlmacGreatDoor

/- Grant: what an answer allows a request, by the program. -/
namespace Go.Proofs.YtoblpjknnchlmacGreatDoor
open Go.RowKit
set_option linter.unusedVariables false

/-- What Grant answers. -/
def GraAns (p : PsV) (o : Except Int (List (ByteArray × ByteArray))) (B : Nat) (e : Ending) (w' : World) : Prop :=
  (∃ l v, o = .ok l ∧ l.length ≤ 80 ∧ e = .returned (.tuple #[v, .nilIface]) ∧ OwnX p w' B v l) ∨ (∃ n : Int, o = .error n ∧ e = .returned (.tuple #[.slice none 0 0, .iface 49 (.int .i64 n)]))
theorem wrap64_id {n : Int} (h0 : -9223372036854775808 ≤ n) (h1 : n ≤ 9223372036854775807) : IntKind.i64.wrap n = n := by
  simp [IntKind.wrap, IntKind.bits, IntKind.signed]
  omega
theorem strs_one (W : World) (x : ByteArray) : Strs (W.alloc (.cells #[.string x] 9)) (some ⟨W.heap.size, 0, none⟩) 1 W.heap.size 0 [x] := by
  refine ⟨rfl, fun _ => ⟨rfl, by simp⟩, fun j p hp => ?_⟩
  match j, hp with
  | 0, hp => cases hp; exact World.cell?_alloc_mark _ _ _ _ _
  | j + 1, hp => simp at hp
set_option maxRecDepth 100000 in
set_option maxHeartbeats 8000000 in
theorem grant9_any (ps : List Par) (hf : Few9 ps) (a0 : Option Addr) (len cap b off : Nat) (hq : List Par) (hps : Small8 hq) (ra : Option Addr) (rl rc rb ro : Nat) (hrl : rl ≤ 60) (pt fp up : Int) (fs us wi : Bool) (fh uh pa qu me bo : ByteArray)
    (z1 : fh.size ≤ 4000) (z2 : uh.size ≤ 4000) (z3 : pa.size ≤ 4000) (z4 : qu.size ≤ 4000) (z5 : me.size ≤ 3000) (h0 : -9223372036854775808 ≤ fp) (h1 : fp ≤ 9223372036854775807) (now : Int) (n0 : 0 ≤ now) (n1 : now ≤ 1099511627776)
    (w : World) (he : Env w) (hm : Methods w) (hx : Pars w a0 len b off ps) (hh : Pars w ra rl rb ro hq) :
    Calls Tryz.prog 9 #[.agg #[.int .i64 pt, .bool fs, .string fh, .int .i64 fp, .bool us, .string uh, .int .i64 up, .string pa, .string qu, .string me, .slice ra rl rc, .bool wi, .string bo], .slice a0 len cap, .int .i64 now] w fun e w' => GraAns ⟨fs, fh, fp, us, uh, up, pa, qu, wi, ⟨#[]⟩, ⟨#[]⟩, now + ageL ps⟩ (grantL ⟨fs, fh, fp, us, uh, up, pa, qu, wi, ⟨#[]⟩, ⟨#[]⟩, now + ageL ps⟩ (mayL wi (textL fs fh.data.toList fp) ps) wi (methodB me) (askedL hq) ps) w.heap.size e w' ∧ Below w.heap.size w w' := by
  obtain ⟨p, HPB⟩ : ∃ p : PsV, Hid (p = ⟨fs, fh, fp, us, uh, up, pa, qu, wi, ⟨#[]⟩, ⟨#[]⟩, now + ageL ps⟩) := ⟨_, rfl⟩
  rw [← HPB.out]
  obtain ⟨m, HM⟩ : ∃ m, Hid (methodB me = m) := ⟨_, rfl⟩
  rw [HM.out]
  obtain ⟨xs, HXS⟩ : ∃ xs, Hid (askedL hq = xs) := ⟨_, rfl⟩
  rw [HXS.out]
  obtain ⟨y, HMY⟩ : ∃ y, Hid (mayL wi (textL fs fh.data.toList fp) ps = y) := ⟨_, rfl⟩
  rw [HMY.out]
  obtain ⟨ag, HAG⟩ : ∃ ag, Hid (ageL ps = ag) := ⟨_, rfl⟩
  have hag := ageL_bounds ps
  rw [HAG.out] at hag HPB
  obtain ⟨ag0, ag1⟩ := hag
  have HQ : Hid (BoxQ 28 w #[.int .i64 pt, .bool fs, .string fh, .int .i64 fp, .bool us, .string uh, .int .i64 up, .string pa, .string qu, .string me, .slice ra rl rc, .bool wi, .string bo] (w.alloc (.cells #[.int .i64 pt, .bool fs, .string fh, .int .i64 fp, .bool us, .string uh, .int .i64 up, .string pa, .string qu, .string me, .slice ra rl rc, .bool wi, .string bo] 28))) := BoxQ.new _ _ _
  have HWM : Hid (∀ W, Below w.heap.size w W → Calls Tryz.prog 24 #[.slice a0 len cap, .string ⟨#[65, 99, 99, 101, 115, 115, 45, 67, 111, 110, 116, 114, 111, 108, 45, 65, 108, 108, 111, 119, 45, 77, 101, 116, 104, 111, 100, 115]⟩] W fun e w' => WdsAns (wordsO (fieldT mN ps)) W.heap.size e w' ∧ Below W.heap.size W w') := fun W hW => by
    have := words9_any ps hf ⟨#[65, 99, 99, 101, 115, 115, 45, 67, 111, 110, 116, 114, 111, 108, 45, 65, 108, 108, 111, 119, 45, 77, 101, 116, 104, 111, 100, 115]⟩ (by decide) a0 len cap b off W (hx.below hW)
    rw [← mN_is] at this
    exact this
  have HWH : Hid (∀ W, Below w.heap.size w W → Calls Tryz.prog 24 #[.slice a0 len cap, .string ⟨#[65, 99, 99, 101, 115, 115, 45, 67, 111, 110, 116, 114, 111, 108, 45, 65, 108, 108, 111, 119, 45, 72, 101, 97, 100, 101, 114, 115]⟩] W fun e w' => WdsAns (wordsO (fieldT hN ps)) W.heap.size e w' ∧ Below W.heap.size W w') := fun W hW => by
    have := words9_any ps hf ⟨#[65, 99, 99, 101, 115, 115, 45, 67, 111, 110, 116, 114, 111, 108, 45, 65, 108, 108, 111, 119, 45, 72, 101, 97, 100, 101, 114, 115]⟩ (by decide) a0 len cap b off W (hx.below hW)
    rw [← hN_is] at this
    exact this
  have HMA : Hid (∀ W, Below w.heap.size w W → Calls Tryz.prog 10 #[.agg #[.int .i64 pt, .bool fs, .string fh, .int .i64 fp, .bool us, .string uh, .int .i64 up, .string pa, .string qu, .string me, .slice ra rl rc, .bool wi, .string bo], .slice a0 len cap] W fun e w' => e = .returned (.bool y) ∧ Below W.heap.size W w') := fun W hW => by
    have := may9_any ps hf a0 len cap b off pt fp up fs us fh uh pa qu me bo ra rl rc wi z1 h0 h1 W (he.below hW (Nat.le_refl _)) (hx.below hW)
    rw [HMY.out] at this
    exact this
  have HAE : Hid (∀ W, Below w.heap.size w W → Calls Tryz.prog 26 #[.slice a0 len cap] W fun e w' => e = .returned (.int .i64 ag) ∧ Below W.heap.size W w') := fun W hW => by
    have := age9_any ps hf a0 len cap b off W (hx.below hW)
    rw [HAG.out] at this
    exact this
  have HME : Hid (∀ W, Below w.heap.size w W → Calls Tryz.prog 12 #[.string me] W fun e w' => e = .returned (.string m) ∧ Below W.heap.size W w') := fun W hW => by
    have := method_any me z5 W (hm.below hW (Nat.le_refl _))
    rw [HM.out] at this
    exact this
  have HCV : Hid (∀ (l : List PsV) (a : Option Addr) (n c g o : Nat) (W : World), n ≤ 1000000 → Below w.heap.size w W → Pss W a n g o l → Calls Tryz.prog 7 #[.agg #[.int .i64 pt, .bool fs, .string fh, .int .i64 fp, .bool us, .string uh, .int .i64 up, .string pa, .string qu, .string me, .slice ra rl rc, .bool wi, .string bo], .slice a n c] W fun e w' => e = .returned (.bool (coversL wi m xs l)) ∧ Below W.heap.size W w') := fun l a n c g o W hn hW hp => by
    have := covers9_any hq hps ra rl rc rb ro hrl pt fp up fs us wi fh uh pa qu me bo z5 l a n c g o hn W (hm.below hW (Nat.le_refl _)) (hh.below hW) hp
    rw [HM.out, HXS.out] at this
    exact this
  have HPF : Hid (∀ (ms hs : List ByteArray) (ma ha : Option Addr) (mn mc mb mo hn hc hb ho : Nat) (W : World), ms.length ≤ 100 → hs.length ≤ 100 → (∀ x ∈ hs, x.size ≤ 20000) → Strs W ma mn mb mo ms → Strs W ha hn hb ho hs → Calls Tryz.prog 25 #[.agg #[.int .i64 pt, .bool fs, .string fh, .int .i64 fp, .bool us, .string uh, .int .i64 up, .string pa, .string qu, .string me, .slice ra rl rc, .bool wi, .string bo], .int .i64 (now + ag), .slice ma mn mc, .slice ha hn hc] W fun e w' => (∃ v, e = .returned v ∧ OwnX p w' W.heap.size v (passL ms hs)) ∧ Below W.heap.size W w') := fun ms hs ma ha mn mc mb mo hn hc hb ho W l1 l2 l3 s1 s2 => by
    have := passesFor9_any pt fp up fs us wi fh uh pa qu me bo ra rl rc (by omega) (by omega) (by omega) (by omega) (now + ag) ms hs l1 l2 l3 ma ha mn mc mb mo hn hc hb ho W s1 s2
    rw [← HPB.out] at this
    exact this
  have HFT : Hid ((fieldT hN ps).length ≤ 13590) := hf.len hN
  clear hf hps he hm hx hh z1 z2 z3 z4 z5 h0 h1 HPB HM HXS HMY HAG
  go_enter Tryz.func9, Tryz.ntmps9
  go_wp2_with fail
  refine (HWM.out _ HQ.out.bel).mono ?_
  rintro e w1 ⟨ha1, hb1⟩
  have HQ1 : Hid (BoxQ 28 w #[.int .i64 pt, .bool fs, .string fh, .int .i64 fp, .bool us, .string uh, .int .i64 up, .string pa, .string qu, .string me, .slice ra rl rc, .bool wi, .string bo] w1) := HQ.out.step hb1
  have HA1 : Hid (WdsAns (wordsO (fieldT mN ps)) w.heap.size e w1) := by
    rcases ha1 with ⟨ms, v, e1, e2, e3⟩ | h
    · exact .inl ⟨ms, v, e1, e2, World.ownsRow.mono e3 HQ.out.bel.size⟩
    · exact .inr h
  clear ha1 hb1 HQ
  rcases HA1.out with ⟨ms, v, hms, rfl, hown⟩ | ⟨hms, rfl⟩
  case' inr =>
    have HE : Hid (grantL p y wi m xs ps = .error 3) := grantL_bad1 hms
    clear hms HA1
    go_wp2_with fail
    refine (HWH.out _ HQ1.out.bel).mono ?_
    rintro e w2 ⟨ha2, hb2⟩
    have HQ2 : Hid (BoxQ 28 w #[.int .i64 pt, .bool fs, .string fh, .int .i64 fp, .bool us, .string uh, .int .i64 up, .string pa, .string qu, .string me, .slice ra rl rc, .bool wi, .string bo] w2) := HQ1.out.step hb2
    clear hb2
    rcases ha2 with ⟨hs, v2, _, rfl, _⟩ | ⟨_, rfl⟩
    · go_wp2
      go_ret2
      exact ⟨.inr ⟨3, HE.out, rfl⟩, HQ2.out.bel⟩
    · go_wp2
      go_ret2
      exact ⟨.inr ⟨3, HE.out, rfl⟩, HQ2.out.bel⟩
  obtain ⟨ma, mc, mg, rfl, hmst⟩ := OwnS.strs hown
  have HMS : Hid (wordsO (fieldT mN ps) = some ms ∧ Strs w1 ma ms.length mg 0 ms) := ⟨hms, hmst⟩
  have hml : ms.length ≤ 40 := (wordsO_len hms).1
  obtain ⟨mn, HMN⟩ : ∃ mn, Hid (ms.length = mn) := ⟨_, rfl⟩
  rw [HMN.out] at HMS hml
  clear hms hown hmst HA1
  rw [HMN.out]
  go_wp2_with fail
  refine (HWH.out _ HQ1.out.bel).mono ?_
  rintro e w2 ⟨ha2, hb2⟩
  have HQ2 : Hid (BoxQ 28 w #[.int .i64 pt, .bool fs, .string fh, .int .i64 fp, .bool us, .string uh, .int .i64 up, .string pa, .string qu, .string me, .slice ra rl rc, .bool wi, .string bo] w2) := HQ1.out.step hb2
  have HMS2 : Hid (Strs w2 ma mn mg 0 ms) := HMS.out.2.below hb2
  clear hb2
  rcases ha2 with ⟨hs, v2, hhs, rfl, hown⟩ | ⟨hhs, rfl⟩
  case' inr =>
    have HE : Hid (grantL p y wi m xs ps = .error 3) := grantL_bad2 hhs
    clear hhs
    go_wp2
    go_ret2
    exact ⟨.inr ⟨3, HE.out, rfl⟩, HQ2.out.bel⟩
  obtain ⟨hha, hhc, hhg, rfl, hhst⟩ := OwnS.strs hown
  have HHS : Hid (wordsO (fieldT hN ps) = some hs ∧ Strs w2 hha hs.length hhg 0 hs) := ⟨hhs, hhst⟩
  have hhl : hs.length ≤ 40 := (wordsO_len hhs).1
  have HHZ : Hid (∀ x ∈ hs, x.size ≤ 20000) := fun x hx => Nat.le_trans ((wordsO_len hhs).2 x hx) (Nat.le_trans HFT.out (by decide))
  obtain ⟨hn, HHN⟩ : ∃ hn, Hid (hs.length = hn) := ⟨_, rfl⟩
  rw [HHN.out] at HHS hhl
  clear hhs hown hhst HQ1
  rw [HHN.out]
  have c0 := HQ2.out.at 0 _ rfl
  have c1 := HQ2.out.at 1 _ rfl
  have c2 := HQ2.out.at 2 _ rfl
  have c3 := HQ2.out.at 3 _ rfl
  have c4 := HQ2.out.at 4 _ rfl
  have c5 := HQ2.out.at 5 _ rfl
  have c6 := HQ2.out.at 6 _ rfl
  have c7 := HQ2.out.at 7 _ rfl
  have c8 := HQ2.out.at 8 _ rfl
  have c9 := HQ2.out.at 9 _ rfl
  have c10 := HQ2.out.at 10 _ rfl
  have c11 := HQ2.out.at 11 _ rfl
  have c12 := HQ2.out.at 12 _ rfl
  go_wp2_with fail
  refine (HMA.out _ HQ2.out.bel).mono ?_
  rintro e w3 ⟨rfl, hb3⟩
  have HQ3 : Hid (BoxQ 28 w #[.int .i64 pt, .bool fs, .string fh, .int .i64 fp, .bool us, .string uh, .int .i64 up, .string pa, .string qu, .string me, .slice ra rl rc, .bool wi, .string bo] w3) := HQ2.out.step hb3
  have HR3 : Hid (Strs w3 ma mn mg 0 ms ∧ Strs w3 hha hn hhg 0 hs) := ⟨HMS2.out.below hb3, HHS.out.2.below hb3⟩
  clear hb3 HQ2 HMS2 c0 c1 c2 c3 c4 c5 c6 c7 c8 c9 c10 c11 c12
  cases y
  · have HE : Hid (grantL p false wi m xs ps = .error 6) := grantL_no HMS.out.1 HHS.out.1
    go_wp2
    go_ret2
    exact ⟨.inr ⟨6, HE.out, rfl⟩, HQ3.out.bel⟩
  have c9 := HQ3.out.at 9 _ rfl
  go_upto_if 37 with fail
  go_cut [8] (fun v wc => ∃ (a : Option Addr) (n c g : Nat), v = .slice a n c ∧ n ≤ 40 ∧ Hid (Strs wc a n g 0 (msOf ms m) ∧ Strs wc hha hn hhg 0 hs ∧ BoxQ 28 w #[.int .i64 pt, .bool fs, .string fh, .int .i64 fp, .bool us, .string uh, .int .i64 up, .string pa, .string qu, .string me, .slice ra rl rc, .bool wi, .string bo] wc))
  case first =>
    by_cases hz : mn = 0
    · subst hz
      have HE : Hid (msOf ms m = [m]) := by show _ = _; unfold msOf; rw [if_pos HMN.out]
      go_wp2_with fail
      refine (HME.out _ HQ3.out.bel).mono ?_
      rintro e w4 ⟨rfl, hb4⟩
      have HB5 : Hid (Below w3.heap.size w3 (w4.alloc (.cells #[.string m] 9))) := hb4.alloc hb4.size _
      clear hb4
      go_wp2
      go_meet
      exact ⟨_, 1, _, w4.heap.size, rfl, by omega, ⟨by rw [HE.out]; exact strs_one w4 m, HR3.out.2.below HB5.out, HQ3.out.step HB5.out⟩⟩
    · have HE : Hid (msOf ms m = ms) := by show _ = _; unfold msOf; rw [if_neg (by rw [HMN.out]; exact hz)]
      have hzz : ¬ (mn : Int) = 0 := by omega
      go_wp2
      go_meet
      exact ⟨ma, mn, mc, mg, rfl, hml, ⟨by rw [HE.out]; exact HR3.out.1, HR3.out.2, HQ3.out⟩⟩
  case rest =>
    obtain ⟨qa, qn, qc, qg, rfl, hqn, HC⟩ := hcut
    obtain ⟨wp, rfl⟩ : ∃ x, x = wc := ⟨_, rfl⟩
    clear c9 HQ3 HR3
    obtain ⟨mt, HMT⟩ : ∃ mt, Hid (msOf ms m = mt) := ⟨_, rfl⟩
    have HC' : Hid (Strs wp qa qn qg 0 mt ∧ Strs wp hha hn hhg 0 hs ∧ BoxQ 28 w #[.int .i64 pt, .bool fs, .string fh, .int .i64 fp, .bool us, .string uh, .int .i64 up, .string pa, .string qu, .string me, .slice ra rl rc, .bool wi, .string bo] wp) := by rw [← HMT.out]; exact HC.out
    clear HC
    have hbase : ∀ W, Below wp.heap.size wp W → W.cell? ⟨w.heap.size, 0, none⟩ = some (.int .i64 pt) ∧ W.cell? ⟨w.heap.size, 1, none⟩ = some (.bool fs) ∧ W.cell? ⟨w.heap.size, 2, none⟩ = some (.string fh) ∧ W.cell? ⟨w.heap.size, 3, none⟩ = some (.int .i64 fp) ∧ W.cell? ⟨w.heap.size, 4, none⟩ = some (.bool us) ∧ W.cell? ⟨w.heap.size, 5, none⟩ = some (.string uh) ∧ W.cell? ⟨w.heap.size, 6, none⟩ = some (.int .i64 up) ∧ W.cell? ⟨w.heap.size, 7, none⟩ = some (.string pa) ∧ W.cell? ⟨w.heap.size, 8, none⟩ = some (.string qu) ∧ W.cell? ⟨w.heap.size, 9, none⟩ = some (.string me) ∧ W.cell? ⟨w.heap.size, 10, none⟩ = some (.slice ra rl rc) ∧ W.cell? ⟨w.heap.size, 11, none⟩ = some (.bool wi) ∧ W.cell? ⟨w.heap.size, 12, none⟩ = some (.string bo) ∧ Hid (Below wp.heap.size wp W) := fun W hW => (have hq := HC'.out.2.2.step hW; ⟨hq.at 0 _ rfl, hq.at 1 _ rfl, hq.at 2 _ rfl, hq.at 3 _ rfl, hq.at 4 _ rfl, hq.at 5 _ rfl, hq.at 6 _ rfl, hq.at 7 _ rfl, hq.at 8 _ rfl, hq.at 9 _ rfl, hq.at 10 _ rfl, hq.at 11 _ rfl, hq.at 12 _ rfl, hW⟩)
    have hS := hbase _ (Below.refl _ _).drew
    go_upto_region 9 with fail
    go_cut [12] (fun s12 w5 => ∃ v5 : Value, v5 = s12 ∧ Hid (Below wp.heap.size wp w5 ∧ OwnX p w5 wp.heap.size v5 (passL mt hs)))
    case first =>
      refine wp_region_held_drew (S := fun W => W.cell? ⟨w.heap.size, 0, none⟩ = some (.int .i64 pt) ∧ W.cell? ⟨w.heap.size, 1, none⟩ = some (.bool fs) ∧ W.cell? ⟨w.heap.size, 2, none⟩ = some (.string fh) ∧ W.cell? ⟨w.heap.size, 3, none⟩ = some (.int .i64 fp) ∧ W.cell? ⟨w.heap.size, 4, none⟩ = some (.bool us) ∧ W.cell? ⟨w.heap.size, 5, none⟩ = some (.string uh) ∧ W.cell? ⟨w.heap.size, 6, none⟩ = some (.int .i64 up) ∧ W.cell? ⟨w.heap.size, 7, none⟩ = some (.string pa) ∧ W.cell? ⟨w.heap.size, 8, none⟩ = some (.string qu) ∧ W.cell? ⟨w.heap.size, 9, none⟩ = some (.string me) ∧ W.cell? ⟨w.heap.size, 10, none⟩ = some (.slice ra rl rc) ∧ W.cell? ⟨w.heap.size, 11, none⟩ = some (.bool wi) ∧ W.cell? ⟨w.heap.size, 12, none⟩ = some (.string bo) ∧ Hid (Below wp.heap.size wp W)) (by kernel_rfl) hS (fun hHeld => ?_)
      refine takeH (i := 0) (d := some 42) (v := ?_) rfl rfl (by kernel_rfl) (by kernel_rfl) (by kernel_rfl) (fun _ _ _ h => h) (by rfl) ?_ (by assumption) ?_
      rotate_left
      · intro w hSw; (try dsimp only at hSw); obtain ⟨q0, q1, q2, q3, q4, q5, q6, q7, q8, q9, q10, q11, q12, _⟩ := hSw; go_simp; with_reducible rfl
      try simp only [Act.put, List.setIfInBounds_toArray, List.set_cons_zero, List.set_cons_succ]
      refine takeH (i := 1) (d := some 43) (v := ?_) rfl rfl (by kernel_rfl) (by kernel_rfl) (by kernel_rfl) (fun _ _ _ h => h) (by rfl) ?_ (by assumption) ?_
      rotate_left
      · intro w hSw; (try dsimp only at hSw); obtain ⟨q0, q1, q2, q3, q4, q5, q6, q7, q8, q9, q10, q11, q12, _⟩ := hSw; go_simp; with_reducible rfl
      try simp only [Act.put, List.setIfInBounds_toArray, List.set_cons_zero, List.set_cons_succ]
      refine takeH (i := 2) (d := some 44) (v := ?_) rfl rfl (by kernel_rfl) (by kernel_rfl) (by kernel_rfl) (fun _ _ _ h => h) (by rfl) ?_ (by assumption) ?_
      rotate_left
      · intro w hSw; (try dsimp only at hSw); obtain ⟨q0, q1, q2, q3, q4, q5, q6, q7, q8, q9, q10, q11, q12, _⟩ := hSw; go_simp; with_reducible rfl
      try simp only [Act.put, List.setIfInBounds_toArray, List.set_cons_zero, List.set_cons_succ]
      refine takeH (i := 5) (d := some 47) (v := ?_) rfl rfl (by kernel_rfl) (by kernel_rfl) (by kernel_rfl) (fun _ _ _ h => h) (by rfl) ?_ (by assumption) ?_
      rotate_left
      · intro w hSw; (try dsimp only at hSw); obtain ⟨q0, q1, q2, q3, q4, q5, q6, q7, q8, q9, q10, q11, q12, _⟩ := hSw; go_simp; with_reducible rfl
      try simp only [Act.put, List.setIfInBounds_toArray, List.set_cons_zero, List.set_cons_succ]
      refine takeH (i := 6) (d := some 48) (v := ?_) rfl rfl (by kernel_rfl) (by kernel_rfl) (by kernel_rfl) (fun _ _ _ h => h) (by rfl) ?_ (by assumption) ?_
      rotate_left
      · intro w hSw; (try dsimp only at hSw); obtain ⟨q0, q1, q2, q3, q4, q5, q6, q7, q8, q9, q10, q11, q12, _⟩ := hSw; go_simp; with_reducible rfl
      try simp only [Act.put, List.setIfInBounds_toArray, List.set_cons_zero, List.set_cons_succ]
      refine wpAnyH_ready (rs := [3]) (by kernel_rfl) (by simp) ?_
      refine AllReadyH.cons (by rfl) (fun K hKK => ?_) AllReadyH.nil
      go_simp
      refine (HAE.out _ (HC'.out.2.2.bel.trans ((show Below wp.heap.size wp wp.drew from (Below.refl _ _).drew).mono HC'.out.2.2.bel.size))).mono ?_
      rintro e w4 ⟨rfl, hb4⟩
      have HB4 : Hid (Below wp.heap.size wp w4) := (show Below wp.heap.size wp wp.drew from (Below.refl _ _).drew).trans hb4
      clear hb4
      go_wp2_with fail
      refine hKK.out _ _ (hbase _ HB4.out) (fun hHeld => ?_)
      clear hKK K
      try simp only [Act.put, List.setIfInBounds_toArray, List.set_cons_zero, List.set_cons_succ]
      have hwr : IntKind.i64.wrap (now + ag) = now + ag := wrap64_id (by omega) (by omega)
      refine takeH (i := 4) (d := some 46) (v := ?_) rfl rfl (by kernel_rfl) (by kernel_rfl) (by kernel_rfl) (fun _ _ _ h => h) (by rfl) ?_ (by assumption) ?_
      rotate_left
      · intro w hSw; (try dsimp only at hSw); obtain ⟨q0, q1, q2, q3, q4, q5, q6, q7, q8, q9, q10, q11, q12, _⟩ := hSw; go_simp; with_reducible rfl
      try simp only [Act.put, List.setIfInBounds_toArray, List.set_cons_zero, List.set_cons_succ]
      refine wpAnyH_ready (rs := [7]) (by kernel_rfl) (by simp) ?_
      refine AllReadyH.cons (by rfl) (fun K hKK => ?_) AllReadyH.nil
      go_simp
      refine (HPF.out mt hs qa hha qn qc qg 0 hn hhc hhg 0 _ (by have := HC'.out.1.len_eq; omega) (by have := HC'.out.2.1.len_eq; omega) HHZ.out (HC'.out.1.below HB4.out) (HC'.out.2.1.below HB4.out)).mono ?_
      rintro e w5 ⟨⟨v5, rfl, hv5⟩, hb5⟩
      have HB5 : Hid (Below wp.heap.size wp w5) := HB4.out.trans (hb5.mono HB4.out.size)
      have HV5 : Hid (OwnX p w5 wp.heap.size v5 (passL mt hs)) := OwnK.mono hv5 HB4.out.size
      clear hv5 hb5
      go_wp2_with fail
      refine hKK.out _ _ (hbase _ HB5.out) (fun hHeld => ?_)
      clear hKK K
      try simp only [Act.put, List.setIfInBounds_toArray, List.set_cons_zero, List.set_cons_succ]
      refine takeH (i := 8) (d := some 12) (v := ?_) rfl rfl (by kernel_rfl) (by kernel_rfl) (by kernel_rfl) (fun _ _ _ h => h) (by rfl) ?_ (by assumption) ?_
      rotate_left
      · intro w hSw; (try dsimp only at hSw); obtain ⟨q0, q1, q2, q3, q4, q5, q6, q7, q8, q9, q10, q11, q12, _⟩ := hSw; go_simp; with_reducible rfl
      try simp only [Act.put, List.setIfInBounds_toArray, List.set_cons_zero, List.set_cons_succ]
      refine wpAnyH_done (by kernel_rfl) ?_ _
      go_wp2_with fail
      go_meet
      exact ⟨v5, rfl, ⟨HB5.out, HV5.out⟩⟩
    case rest =>
    obtain ⟨v5, rfl, HV⟩ := hcut
    obtain ⟨w5, rfl⟩ : ∃ x, x = wc := ⟨_, rfl⟩
    have HB5 : Hid (Below wp.heap.size wp w5) := HV.out.1
    have HV5 : Hid (OwnX p w5 wp.heap.size v5 (passL mt hs)) := HV.out.2
    have hS5 := hbase _ HB5.out
    clear HV
    obtain ⟨xa, xc, xg, rfl, hps5⟩ := OwnX.pss HV5.out
    have HX5 : Hid (OwnX p w5 wp.heap.size (.slice xa (passL mt hs).length xc) (passL mt hs) ∧ Pss w5 xa (passL mt hs).length xg 0 ((passL mt hs).map p.of)) := ⟨HV5.out, hps5⟩
    have hpl : (passL mt hs).length ≤ 80 := by have := passL_len mt hs; have := HC'.out.1.len_eq; have := HC'.out.2.1.len_eq; omega
    obtain ⟨t, HT⟩ : ∃ t, Hid (coversL wi m xs ((passL mt hs).map p.of) = t) := ⟨_, rfl⟩
    have HG : Hid (grantL p true wi m xs ps = if t then .ok (passL mt hs) else .error 6) := by
      have e := grantL_cov (p := p) HMS.out.1 HHS.out.1 (t := t) (by rw [HMT.out]; exact HT.out)
      rw [HMT.out] at e
      exact e
    obtain ⟨pn, HPN⟩ : ∃ pn, Hid ((passL mt hs).length = pn) := ⟨_, rfl⟩
    rw [HPN.out] at HX5 hpl
    clear hps5 HV5 hS hbase
    obtain ⟨d0, d1, d2, d3, d4, d5, d6, d7, d8, d9, d10, d11, d12, _⟩ := hS5
    have HBW5 : Hid (Below w.heap.size w w5) := HC'.out.2.2.bel.trans (HB5.out.mono HC'.out.2.2.bel.size)
    rw [HPN.out]
    go_wp2_with fail
    refine (HCV.out _ xa pn xc xg 0 _ (by omega) HBW5.out HX5.out.2).mono ?_
    rintro e w6 ⟨rfl, hb6⟩
    rw [HT.out]
    have HB6 : Hid (Below w.heap.size w w6) := HBW5.out.trans (hb6.mono HBW5.out.size)
    have HX6 : Hid (OwnX p w6 w.heap.size (.slice xa pn xc) (passL mt hs)) := OwnK.mono (HX5.out.1.below hb6) HC'.out.2.2.bel.size
    clear hb6 d0 d1 d2 d3 d4 d5 d6 d7 d8 d9 d10 d11 d12
    cases t
    · go_wp2
      go_ret2
      exact ⟨.inr ⟨6, HG.out, rfl⟩, HB6.out⟩
    · go_wp2
      go_ret2
      exact ⟨.inl ⟨passL mt hs, _, HG.out, by rw [HPN.out]; exact hpl, rfl, HX6.out⟩, HB6.out⟩
end Go.Proofs.YtoblpjknnchlmacGreatDoor

/- The fact that servers' answers are read and held. -/
namespace Go.Proofs.YtoblpjknnchlmacGreatDoor
open Go.RowKit

theorem asked_none : askedL [] = [] := by
  have h : tx (askedNames []) = [] := by decide +kernel
  have h2 : sortL [] = [] := List.eq_nil_of_length_eq_zero (sortL_len [])
  unfold askedL
  rw [h, h2]
  rfl
def granS : ByteArray := ⟨#[65, 99, 99, 101, 115, 115, 45, 67, 111, 110, 116, 114, 111, 108, 45, 65, 108, 108, 111, 119, 45, 79, 114, 105, 103, 105, 110, 58, 32, 104, 116, 116, 112, 115, 58, 47, 47, 97, 46, 116, 101, 115, 116, 10, 65, 99, 99, 101, 115, 115, 45, 67, 111, 110, 116, 114, 111, 108, 45, 65, 108, 108, 111, 119, 45, 77, 101, 116, 104, 111, 100, 115, 58, 32, 80, 85, 84, 44, 88]⟩
def granF : List Par := [(⟨#[65, 99, 99, 101, 115, 115, 45, 67, 111, 110, 116, 114, 111, 108, 45, 65, 108, 108, 111, 119, 45, 79, 114, 105, 103, 105, 110]⟩, ⟨#[104, 116, 116, 112, 115, 58, 47, 47, 97, 46, 116, 101, 115, 116]⟩), (⟨#[65, 99, 99, 101, 115, 115, 45, 67, 111, 110, 116, 114, 111, 108, 45, 65, 108, 108, 111, 119, 45, 77, 101, 116, 104, 111, 100, 115]⟩, ⟨#[80, 85, 84, 44, 88]⟩)]
theorem granF_is : fieldsF granS.data.toList = .ok granF := by kernel_rfl
theorem granF_few : Few9 granF := by unfold Few9; decide +kernel
theorem granF_age : ageL granF = 5 := by kernel_rfl
theorem gran_may : mayL false (textL true (⟨#[97, 46, 116, 101, 115, 116]⟩ : ByteArray).data.toList 443) granF = true := by kernel_rfl
theorem gran_put : methodB ⟨#[80, 85, 84]⟩ = ⟨#[80, 85, 84]⟩ := by kernel_rfl
theorem gran_grant (p : PsV) : grantL p true false ⟨#[80, 85, 84]⟩ [] granF = .ok [(⟨#[80, 85, 84]⟩, ⟨#[]⟩), (⟨#[88]⟩, ⟨#[]⟩)] := by
  have h1 : wordsO (fieldT mN granF) = some [⟨#[80, 85, 84]⟩, ⟨#[88]⟩] := by kernel_rfl
  have h2 : wordsO (fieldT hN granF) = some [] := by kernel_rfl
  have h3 : passL (msOf [⟨#[80, 85, 84]⟩, ⟨#[88]⟩] ⟨#[80, 85, 84]⟩) [] = [(⟨#[80, 85, 84]⟩, ⟨#[]⟩), (⟨#[88]⟩, ⟨#[]⟩)] := by kernel_rfl
  have h4 : coversL false ⟨#[80, 85, 84]⟩ [] ((passL (msOf [⟨#[80, 85, 84]⟩, ⟨#[88]⟩] ⟨#[80, 85, 84]⟩) []).map p.of) = true := by
    rw [h3]
    unfold coversL
    simp [okM, PsV.of]
  rw [grantL_cov h1 h2 h4, if_pos rfl, h3]
theorem gran_cov : coversL false ⟨#[80, 85, 84]⟩ [] [] = false := by decide +kernel
theorem gran_same : sameO true ⟨#[97, 46, 116, 101, 115, 116]⟩ 443 true ⟨#[98, 46, 116, 101, 115, 116]⟩ 443 = false := by decide +kernel
set_option maxRecDepth 100000 in
set_option maxHeartbeats 8000000 in
theorem granted_any (w : World) (he : Env w) (hm : Methods w) : Calls Tryz.prog 4 #[] w fun e w' => e = .returned (.bool true) ∧ Below w.heap.size w w' := by
  have HQ : Hid (BoxQ 28 w #[.int .i64 0, .bool true, .string ⟨#[97, 46, 116, 101, 115, 116]⟩, .int .i64 443, .bool true, .string ⟨#[98, 46, 116, 101, 115, 116]⟩, .int .i64 443, .string ⟨#[47]⟩, .string ⟨#[]⟩, .string ⟨#[80, 85, 84]⟩, .slice none 0 0, .bool false, .string ⟨#[]⟩] (w.alloc (.cells #[.int .i64 0, .bool true, .string ⟨#[97, 46, 116, 101, 115, 116]⟩, .int .i64 443, .bool true, .string ⟨#[98, 46, 116, 101, 115, 116]⟩, .int .i64 443, .string ⟨#[47]⟩, .string ⟨#[]⟩, .string ⟨#[80, 85, 84]⟩, .slice none 0 0, .bool false, .string ⟨#[]⟩] 28))) := BoxQ.new _ _ _
  have HE : Hid (∀ W, Below w.heap.size w W → Env W ∧ Methods W) := fun W hW => ⟨he.below hW (Nat.le_refl _), hm.below hW (Nat.le_refl _)⟩
  have hfl := fields9_any granS (by decide +kernel) (w.alloc (.cells #[.int .i64 0, .bool true, .string ⟨#[97, 46, 116, 101, 115, 116]⟩, .int .i64 443, .bool true, .string ⟨#[98, 46, 116, 101, 115, 116]⟩, .int .i64 443, .string ⟨#[47]⟩, .string ⟨#[]⟩, .string ⟨#[80, 85, 84]⟩, .slice none 0 0, .bool false, .string ⟨#[]⟩] 28))
  rw [granF_is] at hfl
  clear he hm
  go_enter Tryz.func4, Tryz.ntmps4
  go_wp2_with fail
  refine hfl.mono ?_
  rintro e w1 ⟨ha, hb1⟩
  have HQ1 : Hid (BoxQ 28 w #[.int .i64 0, .bool true, .string ⟨#[97, 46, 116, 101, 115, 116]⟩, .int .i64 443, .bool true, .string ⟨#[98, 46, 116, 101, 115, 116]⟩, .int .i64 443, .string ⟨#[47]⟩, .string ⟨#[]⟩, .string ⟨#[80, 85, 84]⟩, .slice none 0 0, .bool false, .string ⟨#[]⟩] w1) := HQ.out.step hb1
  clear hfl hb1
  obtain ⟨v, rfl, hown⟩ : ∃ v, e = .returned (.tuple #[v, .nilIface]) ∧ OwnP w1 w.heap.size v granF := by
    rcases ha with ⟨acc, v, h1, _, h3, h4⟩ | ⟨h1, _⟩ | ⟨i, g, h1, _⟩
    · injection h1 with h1
      subst h1
      exact ⟨v, h3, h4.mono9 HQ.out.bel.size⟩
    · cases h1
    · cases h1
  obtain ⟨a, cap, g, rfl, hps, _⟩ := hown.pars
  have hl2 : granF.length = 2 := rfl
  rw [hl2] at hps
  have HP1 : Hid (Pars w1 a 2 g 0 granF) := hps
  clear ha hown hps HQ
  rw [hl2]
  have c0 := HQ1.out.at 0 _ rfl
  have c1 := HQ1.out.at 1 _ rfl
  have c2 := HQ1.out.at 2 _ rfl
  have c3 := HQ1.out.at 3 _ rfl
  have c4 := HQ1.out.at 4 _ rfl
  have c5 := HQ1.out.at 5 _ rfl
  have c6 := HQ1.out.at 6 _ rfl
  have c7 := HQ1.out.at 7 _ rfl
  have c8 := HQ1.out.at 8 _ rfl
  have c9 := HQ1.out.at 9 _ rfl
  have c10 := HQ1.out.at 10 _ rfl
  have c11 := HQ1.out.at 11 _ rfl
  have c12 := HQ1.out.at 12 _ rfl
  go_wp2_with fail
  have hgr := grant9_any granF granF_few a 2 cap g 0 [] (by intro p hp; cases hp) none 0 0 0 0 (by decide) 0 443 443 true true false ⟨#[97, 46, 116, 101, 115, 116]⟩ ⟨#[98, 46, 116, 101, 115, 116]⟩ ⟨#[47]⟩ ⟨#[]⟩ ⟨#[80, 85, 84]⟩ ⟨#[]⟩ (by decide) (by decide) (by decide) (by decide) (by decide) (by decide) (by decide) 10 (by decide) (by decide) w1 (HE.out _ HQ1.out.bel).1 (HE.out _ HQ1.out.bel).2 HP1.out ⟨rfl, fun h => absurd h (by omega), fun j p hp => by simp at hp, fun j p hp => by simp at hp⟩
  rw [gran_may, gran_put, asked_none, gran_grant] at hgr
  refine hgr.mono ?_
  rintro e w2 ⟨ha, hb2⟩
  have HQ2 : Hid (BoxQ 28 w #[.int .i64 0, .bool true, .string ⟨#[97, 46, 116, 101, 115, 116]⟩, .int .i64 443, .bool true, .string ⟨#[98, 46, 116, 101, 115, 116]⟩, .int .i64 443, .string ⟨#[47]⟩, .string ⟨#[]⟩, .string ⟨#[80, 85, 84]⟩, .slice none 0 0, .bool false, .string ⟨#[]⟩] w2) := HQ1.out.step hb2
  have HP2 : Hid (Pars w2 a 2 g 0 granF) := HP1.out.below hb2
  clear hgr hb2 HQ1 HP1 c0 c1 c2 c3 c4 c5 c6 c7 c8 c9 c10 c11 c12
  obtain ⟨v, rfl, hown⟩ : ∃ v, e = .returned (.tuple #[v, .nilIface]) ∧ OwnX ⟨true, ⟨#[97, 46, 116, 101, 115, 116]⟩, 443, true, ⟨#[98, 46, 116, 101, 115, 116]⟩, 443, ⟨#[47]⟩, ⟨#[]⟩, false, ⟨#[]⟩, ⟨#[]⟩, 10 + ageL granF⟩ w2 w1.heap.size v [(⟨#[80, 85, 84]⟩, ⟨#[]⟩), (⟨#[88]⟩, ⟨#[]⟩)] := by
    rcases ha with ⟨l, v, h1, _, h3, h4⟩ | ⟨n, h1, _⟩
    · injection h1 with h1
      subst h1
      exact ⟨v, h3, h4⟩
    · cases h1
  obtain ⟨xa, xc, xg, rfl, hpx⟩ := hown.pss
  obtain ⟨hxa, _⟩ := hpx.lies (by decide)
  subst hxa
  have hp9 := (hpx.all (j := 0) rfl).2.2.2.2.2.2.2.2.2.1
  have hp11 := (hpx.all (j := 1) rfl).2.2.2.2.2.2.2.2.2.2.2
  rw [granF_age] at hp11
  simp only [PsV.of, Nat.zero_add, Nat.zero_mul, Nat.one_mul, Nat.reduceAdd, Int.reduceAdd] at hp9 hp11
  clear ha hown hpx
  simp only [List.length_cons, List.length_nil, Nat.zero_add, Nat.reduceAdd]
  have d0 := HQ2.out.at 0 _ rfl
  have d1 := HQ2.out.at 1 _ rfl
  have d2 := HQ2.out.at 2 _ rfl
  have d3 := HQ2.out.at 3 _ rfl
  have d4 := HQ2.out.at 4 _ rfl
  have d5 := HQ2.out.at 5 _ rfl
  have d6 := HQ2.out.at 6 _ rfl
  have d7 := HQ2.out.at 7 _ rfl
  have d8 := HQ2.out.at 8 _ rfl
  have d9 := HQ2.out.at 9 _ rfl
  have d10 := HQ2.out.at 10 _ rfl
  have d11 := HQ2.out.at 11 _ rfl
  have d12 := HQ2.out.at 12 _ rfl
  have hn := needs9_any [] (by intro p hp; cases hp) none 0 0 0 0 (by decide) 0 443 443 true true false ⟨#[97, 46, 116, 101, 115, 116]⟩ ⟨#[98, 46, 116, 101, 115, 116]⟩ ⟨#[47]⟩ ⟨#[]⟩ ⟨#[80, 85, 84]⟩ ⟨#[]⟩ (by decide) w2 (HE.out _ HQ2.out.bel).2 ⟨rfl, fun h => absurd h (by omega), fun j p hp => by simp at hp, fun j p hp => by simp at hp⟩
  rw [gran_put, asked_none, gran_cov, gran_same] at hn
  go_wp2_with fail
  refine hn.mono ?_
  rintro e w3 ⟨rfl, hb3⟩
  have HQ3 : Hid (BoxQ 28 w #[.int .i64 0, .bool true, .string ⟨#[97, 46, 116, 101, 115, 116]⟩, .int .i64 443, .bool true, .string ⟨#[98, 46, 116, 101, 115, 116]⟩, .int .i64 443, .string ⟨#[47]⟩, .string ⟨#[]⟩, .string ⟨#[80, 85, 84]⟩, .slice none 0 0, .bool false, .string ⟨#[]⟩] w3) := HQ2.out.step hb3
  have HP3 : Hid (Pars w3 a 2 g 0 granF) := HP2.out.below hb3
  clear hn hb3 HQ2 HP2 d0 d1 d2 d3 d4 d5 d6 d7 d8 d9 d10 d11 d12 hp9 hp11
  have e0 := HQ3.out.at 0 _ rfl
  have e1 := HQ3.out.at 1 _ rfl
  have e2 := HQ3.out.at 2 _ rfl
  have e3 := HQ3.out.at 3 _ rfl
  have e4 := HQ3.out.at 4 _ rfl
  have e5 := HQ3.out.at 5 _ rfl
  have e6 := HQ3.out.at 6 _ rfl
  have e7 := HQ3.out.at 7 _ rfl
  have e8 := HQ3.out.at 8 _ rfl
  have e9 := HQ3.out.at 9 _ rfl
  have e10 := HQ3.out.at 10 _ rfl
  have e11 := HQ3.out.at 11 _ rfl
  have e12 := HQ3.out.at 12 _ rfl
  have hma := may9_any granF granF_few a 2 cap g 0 0 443 443 true true ⟨#[97, 46, 116, 101, 115, 116]⟩ ⟨#[98, 46, 116, 101, 115, 116]⟩ ⟨#[47]⟩ ⟨#[]⟩ ⟨#[80, 85, 84]⟩ ⟨#[]⟩ none 0 0 false (by decide) (by decide) (by decide) w3 (HE.out _ HQ3.out.bel).1 HP3.out
  rw [gran_may] at hma
  go_wp2_with fail
  refine hma.mono ?_
  rintro e w4 ⟨rfl, hb4⟩
  have HB4 : Hid (Below w.heap.size w w4) := HQ3.out.inB hb4
  clear hma hb4
  go_wp2
  go_ret
  exact ⟨rfl, HB4.out⟩
end Go.Proofs.YtoblpjknnchlmacGreatDoor

/- Headers that are too long to be held. -/
namespace Go.Proofs.YtoblpjknnchlmacGreatDoor
open Go.RowKit

def overP (p : Par) : Bool := decide (300 < p.1.size + p.2.size)
/-- Headers that are too many, or too long; n: the bytes of all else. -/
def largeL (ps : List Par) (n : Nat) : Bool := decide (45 < ps.length) || (decide (900 < n) || ps.any overP)
theorem over_snoc {ps : List Par} {k : Nat} {p : Par} (h : (ps.take k).any overP = false) (hk : ps[k]? = some p) (hp : ¬ 300 < p.1.size + p.2.size) : (ps.take (k + 1)).any overP = false := by
  obtain ⟨hk1, e⟩ := List.getElem?_eq_some_iff.1 hk
  rw [List.take_succ_eq_append_getElem hk1, List.any_append, h, e]
  have : overP p = false := by unfold overP; exact decide_eq_false hp
  simp [this]
theorem large_small {ps : List Par} {n : Nat} (h : largeL ps n = false) : ps.length ≤ 45 ∧ n ≤ 900 ∧ ∀ p ∈ ps, p.1.size + p.2.size ≤ 300 := by
  unfold largeL at h
  simp only [Bool.or_eq_false_iff, decide_eq_false_iff_not] at h
  refine ⟨by omega, by omega, fun p hp => ?_⟩
  have h3 := List.any_eq_false.1 h.2.2 p hp
  unfold overP at h3
  simpa using h3
end Go.Proofs.YtoblpjknnchlmacGreatDoor

/- Whether headers are few, by the law's own words: the library's functions over a row of parameters that lies somewhere. -/
namespace Go.Proofs.YtoblpjknnchlmacGreatDoor
open Go.RowKit

/-- A function that says whether a parameter is of a kind, at these. -/
structure KindP (K : Nat) (f : Par → Bool) (ps : List Par) : Prop where
  says : ∀ p ∈ ps, ∀ w : World, Calls Tryz.prog K #[.agg #[.string p.1, .string p.2]] w fun e w' => e = .returned (.bool (f p)) ∧ Below w.heap.size w w'
  enters : ∀ (args : Array Value) (w : World), (callFunc K args).run Tryz.prog w = .ok (.enter K args) w
set_option maxRecDepth 100000 in
set_option maxHeartbeats 2000000 in
theorem indexP8_any (K : Nat) (f : Par → Bool) (ps : List Par) (hK : KindP K f ps) (a0 : Option Addr) (len cap b off : Nat) (hlen : len ≤ 1000000) (w : World) (hx : Pars w a0 len b off ps) :
    Calls Tryz.prog 60 #[.slice a0 len cap, .func (.func K) #[] #[]] w fun e w' => (∃ r : Int, e = .returned (.int .i64 r) ∧ Hid (decide (0 ≤ r) = ps.any f)) ∧ Below w.heap.size w w' := by
  have HX : Hid (Pars w a0 len b off ps) := hx
  have hl := hx.len_eq
  have HK0 : Hid (KindP K f ps) := hK
  have hen := hK.enters
  clear hK hx
  go_enter Tryz.func60, Tryz.ntmps60
  go_wp2
  go_loopw [8] (fun i wr => ∃ (k : Nat), k ≤ len ∧ i = .int .i64 k ∧ Hid ((ps.take k).any f = false) ∧ Hid (Below w.heap.size w wr)) (fun i _ => len - (intOf i).toNat)
  case atStart => exact ⟨0, Nat.zero_le _, rfl, rfl, Below.refl _ _⟩
  case round =>
    obtain ⟨k, hk, rfl, HK, HB⟩ := hrel
    by_cases hlt : k < len
    · have hltz : (k : Int) < (len : Int) := by omega
      obtain ⟨p, hp⟩ : ∃ p, ps[k]? = some p := ⟨ps[k]'(by omega), List.getElem?_eq_getElem (by omega)⟩
      obtain ⟨pn, pv⟩ := p
      have HPK : Hid (ps[k]? = some (pn, pv)) := hp
      have HM : Hid ((pn, pv) ∈ ps) := List.mem_of_getElem? hp
      obtain ⟨ha0, _⟩ := HX.out.lies (by omega)
      subst ha0
      have hXr := HX.out.below HB.out
      have c1 : wr.cell? ⟨b, off + k * 2, none⟩ = some (.string pn) := hXr.one k _ hp
      have c2 : wr.cell? ⟨b, off + k * 2 + 1, none⟩ = some (.string pv) := hXr.two k _ hp
      have hsay := HK0.out.says _ HM.out
      clear hp hXr
      cases hf : f (pn, pv)
      · have HS : Hid ((ps.take (k + 1)).any f = false) := by
          show _ = _
          obtain ⟨hk1, e⟩ := List.getElem?_eq_some_iff.1 HPK.out
          rw [List.take_succ_eq_append_getElem hk1, List.any_append, HK.out, e]
          simp [hf]
        go_wp2_with fail
        refine (hsay _).mono ?_
        rintro e w' ⟨rfl, hb'⟩
        rw [hf]
        have HB2 : Hid (Below w.heap.size w w') := HB.out.trans (hb'.mono HB.out.size)
        clear hb'
        go_wp2
        go_roundw
        case rel => exact ⟨k + 1, by omega, by go_num, HS, HB2⟩
        case measure => simp [intOf]; omega
      · have HS : Hid (ps.any f = true) := List.any_eq_true.2 ⟨_, HM.out, hf⟩
        go_wp2_with fail
        refine (hsay _).mono ?_
        rintro e w' ⟨rfl, hb'⟩
        rw [hf]
        have HB2 : Hid (Below w.heap.size w w') := HB.out.trans (hb'.mono HB.out.size)
        clear hb'
        go_wp2
        go_ret
        exact ⟨⟨_, rfl, by show _ = _; rw [HS.out]; exact decide_eq_true (Int.natCast_nonneg _)⟩, HB2.out⟩
    · have hltz : ¬ (k : Int) < (len : Int) := by omega
      have HS : Hid (ps.any f = false) := by
        have := HK.out
        rw [List.take_of_length_le (by omega)] at this
        exact this
      go_wp2
      go_ret
      exact ⟨⟨_, rfl, by show _ = _; rw [HS.out]; rfl⟩, HB.out⟩
theorem overF_any (p : Par) (h1 : p.1.size ≤ 140737488355328) (h2 : p.2.size ≤ 140737488355328) (w : World) :
    Calls Tryz.prog 30 #[.agg #[.string p.1, .string p.2]] w fun e w' => e = .returned (.bool (overP p)) ∧ Below w.heap.size w w' := by
  obtain ⟨x, y⟩ := p
  simp only at h1 h2 ⊢
  have HO : Hid (overP (x, y) = decide ((300 : Int) < (x.size : Int) + (y.size : Int))) := by
    show _ = _
    unfold overP
    simp only [← Int.ofNat_lt]
    rfl
  go_enter Tryz.func30, Tryz.ntmps30
  go_wp2
  go_ret
  exact ⟨ret_bool HO.out.symm, (Below.refl _ _).alloc (Nat.le_refl _) _⟩
/-- Few headers, and small ones. -/
def fewL (ps : List Par) : Bool := decide (ps.length ≤ 40) && !ps.any overP
set_option maxHeartbeats 1000000 in
theorem few_any (ps : List Par) (hz : ∀ p ∈ ps, p.1.size ≤ 140737488355328 ∧ p.2.size ≤ 140737488355328) (a0 : Option Addr) (len cap b off : Nat) (hlb : len ≤ 9223372036854775807) (w : World) (hx : Pars w a0 len b off ps) :
    Calls Tryz.prog 11 #[.slice a0 len cap] w fun e w' => e = .returned (.bool (fewL ps)) ∧ Below w.heap.size w w' := by
  have hl := hx.len_eq
  by_cases h : len ≤ 40
  · have h' : (len : Int) ≤ 40 := by omega
    have hK : KindP 30 overP ps := ⟨fun p hp w => overF_any p (hz p hp).1 (hz p hp).2 w, enters_at Tryz.func30 (by kernel_rfl) rfl⟩
    have hcon : ∀ w', Pars w' a0 len b off ps → Calls Tryz.prog 29 #[.slice a0 len cap, .func (.func 30) #[] #[]] w' fun e w'' => e = .returned (.bool (ps.any overP)) ∧ Below w'.heap.size w' w'' := fun w' hx' => by
      go_enter Tryz.func29, Tryz.ntmps29
      go_wp2_with (go_at_call 60; refine (indexP8_any _ overP ps hK a0 len cap b off (by omega) _ hx').mono ?_; rintro e w'' ⟨⟨r, rfl, HR⟩, hb⟩)
      go_ret
      exact ⟨ret_bool HR.out, hb⟩
    obtain ⟨q, HQ⟩ : ∃ q, Hid (ps.any overP = q) := ⟨_, rfl⟩
    rw [HQ.out] at hcon
    have HF : Hid (fewL ps = !q) := by
      show _ = _
      unfold fewL
      rw [decide_eq_true (by omega), HQ.out, Bool.true_and]
    clear hK hz
    go_enter Tryz.func11, Tryz.ntmps11
    go_wp2_with fail
    refine (hcon _ hx).mono ?_
    rintro e w1 ⟨rfl, hb1⟩
    go_wp2
    go_ret
    exact ⟨ret_bool HF.out.symm, hb1⟩
  · have h' : ¬ (len : Int) ≤ 40 := by omega
    have HF : Hid (fewL ps = false) := by
      show _ = _
      unfold fewL
      rw [decide_eq_false (by omega), Bool.false_and]
    go_enter Tryz.func11, Tryz.ntmps11
    go_wp2
    go_ret
    exact ⟨ret_bool HF.out.symm, Below.refl _ _⟩
theorem fewL_small {ps : List Par} (h : fewL ps = true) : ps.length ≤ 40 ∧ ∀ p ∈ ps, p.1.size + p.2.size ≤ 300 := by
  unfold fewL at h
  rw [Bool.and_eq_true] at h
  refine ⟨of_decide_eq_true h.1, fun p hp => ?_⟩
  have h2 : ps.any overP = false := by simpa using h.2
  have h3 := List.any_eq_false.1 h2 p hp
  unfold overP at h3
  simpa using h3
end Go.Proofs.YtoblpjknnchlmacGreatDoor

/- Whether a request is few bytes, by the law's own words. -/
namespace Go.Proofs.YtoblpjknnchlmacGreatDoor
open Go.RowKit

def rightB (hs : List Par) (n : Nat) : Bool := fewL hs && decide (n ≤ 600)
theorem rightB_small {hs : List Par} {n : Nat} (h : rightB hs n = true) : hs.length ≤ 40 ∧ (∀ p ∈ hs, p.1.size + p.2.size ≤ 300) ∧ n ≤ 600 := by
  unfold rightB at h
  rw [Bool.and_eq_true, decide_eq_true_eq] at h
  obtain ⟨h1, h2⟩ := fewL_small h.1
  exact ⟨h1, h2, h.2⟩
set_option maxRecDepth 100000 in
set_option maxHeartbeats 4000000 in
theorem rightful_any (hs : List Par) (hz : ∀ p ∈ hs, p.1.size ≤ 140737488355328 ∧ p.2.size ≤ 140737488355328) (ra : Option Addr) (rl rc rb ro : Nat) (hlb : rl ≤ 9223372036854775807)
    (pt fp up : Int) (fs us wi : Bool) (fh uh pa qu me bo : ByteArray) (h1 : fh.size ≤ 140737488355328) (h2 : uh.size ≤ 140737488355328) (h3 : pa.size ≤ 140737488355328) (h4 : qu.size ≤ 140737488355328) (h5 : me.size ≤ 140737488355328) (w : World) (hh : Pars w ra rl rb ro hs) :
    Calls Tryz.prog 5 #[.agg #[.int .i64 pt, .bool fs, .string fh, .int .i64 fp, .bool us, .string uh, .int .i64 up, .string pa, .string qu, .string me, .slice ra rl rc, .bool wi, .string bo]] w fun e w' => e = .returned (.bool (rightB hs (me.size + pa.size + qu.size + uh.size + fh.size))) ∧ Below w.heap.size w w' := by
  have HQ : Hid (BoxQ 28 w #[.int .i64 pt, .bool fs, .string fh, .int .i64 fp, .bool us, .string uh, .int .i64 up, .string pa, .string qu, .string me, .slice ra rl rc, .bool wi, .string bo] (w.alloc (.cells #[.int .i64 pt, .bool fs, .string fh, .int .i64 fp, .bool us, .string uh, .int .i64 up, .string pa, .string qu, .string me, .slice ra rl rc, .bool wi, .string bo] 28))) := BoxQ.new _ _ _
  have hfw := few_any hs hz ra rl rc rb ro hlb _ (hh.below HQ.out.bel)
  obtain ⟨q, HF⟩ : ∃ q, Hid (fewL hs = q) := ⟨_, rfl⟩
  rw [HF.out] at hfw
  have HD : Hid (decide (me.size + pa.size + qu.size + uh.size + fh.size ≤ 600) = decide ((me.size : Int) + (pa.size : Int) + (qu.size : Int) + (uh.size : Int) + (fh.size : Int) ≤ 600)) := by
    show _ = _
    rw [decide_eq_decide]
    omega
  have HR : Hid (rightB hs (me.size + pa.size + qu.size + uh.size + fh.size) = (q && decide ((me.size : Int) + (pa.size : Int) + (qu.size : Int) + (uh.size : Int) + (fh.size : Int) ≤ 600))) := by show _ = _; unfold rightB; rw [HF.out, HD.out]
  have c10 := HQ.out.at 10 _ rfl
  clear hz hh
  go_enter Tryz.func5, Tryz.ntmps5
  go_wp2_with fail
  refine hfw.mono ?_
  rintro e w1 ⟨rfl, hb1⟩
  have HQ1 : Hid (BoxQ 28 w #[.int .i64 pt, .bool fs, .string fh, .int .i64 fp, .bool us, .string uh, .int .i64 up, .string pa, .string qu, .string me, .slice ra rl rc, .bool wi, .string bo] w1) := HQ.out.step hb1
  clear hfw hb1 c10 HQ
  have c2 := HQ1.out.at 2 _ rfl
  have c5 := HQ1.out.at 5 _ rfl
  have c7 := HQ1.out.at 7 _ rfl
  have c8 := HQ1.out.at 8 _ rfl
  have c9 := HQ1.out.at 9 _ rfl
  cases q
  · go_wp2
    go_ret
    exact ⟨ret_bool (by rw [HR.out]; rfl), HQ1.out.bel⟩
  · go_wp2
    go_ret
    exact ⟨ret_bool (by rw [HR.out, Bool.true_and]), HQ1.out.bel⟩
end Go.Proofs.YtoblpjknnchlmacGreatDoor

/- The law NeedsOwn, walked. -/
namespace Go.Proofs.YtoblpjknnchlmacGreatDoor
open Go.RowKit
set_option linter.unusedVariables false

set_option maxRecDepth 100000 in
set_option maxHeartbeats 8000000 in
theorem needsOwn_walk (pt fp up : Int) (ht : (-9223372036854775808 ≤ pt ∧ pt ≤ 9223372036854775807) ∧ (-9223372036854775808 ≤ fp ∧ fp ≤ 9223372036854775807) ∧ -9223372036854775808 ≤ up ∧ up ≤ 9223372036854775807) (fs us wi : Bool) (fh uh pa qu me bo : ByteArray) (hs : List Par) (hz : (fh.size ≤ 140737488355328 ∧ uh.size ≤ 140737488355328 ∧ pa.size ≤ 140737488355328 ∧ qu.size ≤ 140737488355328 ∧ me.size ≤ 140737488355328 ∧ bo.size ≤ 140737488355328) ∧ ∀ q ∈ hs, q.1.size ≤ 140737488355328 ∧ q.2.size ≤ 140737488355328) (ra : Option Addr) (rl rc rb ro : Nat) (hlr : rl ≤ 9223372036854775807) (w : World) (hh : Pars w ra rl rb ro hs) (he : Env w) (hm : Methods w) :
    Calls Tryz.prog 3 #[.agg #[.int .i64 pt, .bool fs, .string fh, .int .i64 fp, .bool us, .string uh, .int .i64 up, .string pa, .string qu, .string me, .slice ra rl rc, .bool wi, .string bo]] w fun e w' => e = .returned (.bool true) ∧ Below w.heap.size w w' := by
  have HQ : Hid (BoxQ 28 w #[.int .i64 pt, .bool fs, .string fh, .int .i64 fp, .bool us, .string uh, .int .i64 up, .string pa, .string qu, .string me, .slice ra rl rc, .bool wi, .string bo] (w.alloc (.cells #[.int .i64 pt, .bool fs, .string fh, .int .i64 fp, .bool us, .string uh, .int .i64 up, .string pa, .string qu, .string me, .slice ra rl rc, .bool wi, .string bo] 28))) := BoxQ.new _ _ _
  have hgr := granted_any _ (he.below HQ.out.bel (Nat.le_refl _)) (hm.below HQ.out.bel (Nat.le_refl _))
  have HMT : Hid (∀ W, Below w.heap.size w W → Methods W) := fun W hW => hm.below hW (Nat.le_refl _)
  have HH : Hid (Pars w ra rl rb ro hs) := hh
  have HRF : Hid (∀ W, Below w.heap.size w W → Calls Tryz.prog 5 #[.agg #[.int .i64 pt, .bool fs, .string fh, .int .i64 fp, .bool us, .string uh, .int .i64 up, .string pa, .string qu, .string me, .slice ra rl rc, .bool wi, .string bo]] W fun e w' => e = .returned (.bool (rightB hs (me.size + pa.size + qu.size + uh.size + fh.size))) ∧ Below W.heap.size W w') := fun W hW =>
    rightful_any hs hz.2 ra rl rc rb ro hlr pt fp up fs us wi fh uh pa qu me bo hz.1.1 hz.1.2.1 hz.1.2.2.1 hz.1.2.2.2.1 hz.1.2.2.2.2.1 W (hh.below hW)
  obtain ⟨q, HQR⟩ : ∃ q, Hid (rightB hs (me.size + pa.size + qu.size + uh.size + fh.size) = q) := ⟨_, rfl⟩
  rw [HQR.out] at HRF
  clear hz he hm hh ht hlr
  go_enter Tryz.func3, Tryz.ntmps3
  go_wp2_with fail
  refine hgr.mono ?_
  rintro e w1 ⟨rfl, hb1⟩
  have HQ1 : Hid (BoxQ 28 w #[.int .i64 pt, .bool fs, .string fh, .int .i64 fp, .bool us, .string uh, .int .i64 up, .string pa, .string qu, .string me, .slice ra rl rc, .bool wi, .string bo] w1) := HQ.out.step hb1
  clear hgr hb1 HQ
  have c0 := HQ1.out.at 0 _ rfl
  have c1 := HQ1.out.at 1 _ rfl
  have c2 := HQ1.out.at 2 _ rfl
  have c3 := HQ1.out.at 3 _ rfl
  have c4 := HQ1.out.at 4 _ rfl
  have c5 := HQ1.out.at 5 _ rfl
  have c6 := HQ1.out.at 6 _ rfl
  have c7 := HQ1.out.at 7 _ rfl
  have c8 := HQ1.out.at 8 _ rfl
  have c9 := HQ1.out.at 9 _ rfl
  have c10 := HQ1.out.at 10 _ rfl
  have c11 := HQ1.out.at 11 _ rfl
  have c12 := HQ1.out.at 12 _ rfl
  go_wp2_with fail
  refine (HRF.out _ HQ1.out.bel).mono ?_
  rintro e w2 ⟨rfl, hb2⟩
  have HQ2 : Hid (BoxQ 28 w #[.int .i64 pt, .bool fs, .string fh, .int .i64 fp, .bool us, .string uh, .int .i64 up, .string pa, .string qu, .string me, .slice ra rl rc, .bool wi, .string bo] w2) := HQ1.out.step hb2
  clear hb2 HQ1 c0 c1 c2 c3 c4 c5 c6 c7 c8 c9 c10 c11 c12
  cases q
  · go_wp2
    go_ret
    exact ⟨rfl, HQ2.out.bel⟩
  obtain ⟨hl40, hsm, h600⟩ := rightB_small HQR.out
  have HS8 : Hid (Small8 hs) := fun p hp => by have := hsm p hp; omega
  have hme : me.size ≤ 3000 := by omega
  have hrl : rl ≤ 60 := by have := HH.out.len_eq; omega
  obtain ⟨t, HT⟩ : ∃ t, Hid (coversL wi (methodB me) (askedL hs) [] = t) := ⟨_, rfl⟩
  obtain ⟨s, HSO⟩ : ∃ s, Hid (sameO fs fh fp us uh up = s) := ⟨_, rfl⟩
  have HNE : Hid (∀ W, Below w.heap.size w W → Calls Tryz.prog 6 #[.agg #[.int .i64 pt, .bool fs, .string fh, .int .i64 fp, .bool us, .string uh, .int .i64 up, .string pa, .string qu, .string me, .slice ra rl rc, .bool wi, .string bo]] W fun e w' => e = .returned (.bool (!s && !t)) ∧ Below W.heap.size W w') := fun W hW => by
    have := needs9_any hs HS8.out ra rl rc rb ro hrl pt fp up fs us wi fh uh pa qu me bo hme W (HMT.out W hW) (HH.out.below hW)
    rw [HT.out, HSO.out] at this
    exact this
  have HNO : Hid (∀ W, Below w.heap.size w W → Calls Tryz.prog 6 #[.agg #[.int .i64 pt, .bool us, .string uh, .int .i64 up, .bool us, .string uh, .int .i64 up, .string pa, .string qu, .string me, .slice ra rl rc, .bool wi, .string bo]] W fun e w' => e = .returned (.bool false) ∧ Below W.heap.size W w') := fun W hW => by
    have := needs9_any hs HS8.out ra rl rc rb ro hrl pt up up us us wi uh uh pa qu me bo hme W (HMT.out W hW) (HH.out.below hW)
    rw [show sameO us uh up us uh up = true by unfold sameO; simp] at this
    exact this
  have HCV : Hid (∀ W, Below w.heap.size w W → Calls Tryz.prog 7 #[.agg #[.int .i64 pt, .bool fs, .string fh, .int .i64 fp, .bool us, .string uh, .int .i64 up, .string pa, .string qu, .string me, .slice ra rl rc, .bool wi, .string bo], .slice none 0 0] W fun e w' => e = .returned (.bool t) ∧ Below W.heap.size W w') := fun W hW => by
    have := covers9_any hs HS8.out ra rl rc rb ro hrl pt fp up fs us wi fh uh pa qu me bo hme [] none 0 0 0 0 (by decide) W (HMT.out W hW) (HH.out.below hW) (pss_nil W)
    rw [HT.out] at this
    exact this
  have eo := fun W => eqR9 fs us fh uh fp up s HSO.out W
  clear hl40 hsm h600 hme hrl HRF
  have d0 := HQ2.out.at 0 _ rfl
  have d1 := HQ2.out.at 1 _ rfl
  have d2 := HQ2.out.at 2 _ rfl
  have d3 := HQ2.out.at 3 _ rfl
  have d4 := HQ2.out.at 4 _ rfl
  have d5 := HQ2.out.at 5 _ rfl
  have d6 := HQ2.out.at 6 _ rfl
  have d7 := HQ2.out.at 7 _ rfl
  have d8 := HQ2.out.at 8 _ rfl
  have d9 := HQ2.out.at 9 _ rfl
  have d10 := HQ2.out.at 10 _ rfl
  have d11 := HQ2.out.at 11 _ rfl
  have d12 := HQ2.out.at 12 _ rfl
  go_wp2_with fail
  refine (HNE.out _ HQ2.out.bel).mono ?_
  rintro e w3 ⟨rfl, hb3⟩
  have HQ3 : Hid (BoxQ 28 w #[.int .i64 pt, .bool fs, .string fh, .int .i64 fp, .bool us, .string uh, .int .i64 up, .string pa, .string qu, .string me, .slice ra rl rc, .bool wi, .string bo] w3) := HQ2.out.step hb3
  clear hb3 HQ2 d0 d1 d2 d3 d4 d5 d6 d7 d8 d9 d10 d11 d12
  have e0 := HQ3.out.at 0 _ rfl
  have e1 := HQ3.out.at 1 _ rfl
  have e2 := HQ3.out.at 2 _ rfl
  have e3 := HQ3.out.at 3 _ rfl
  have e4 := HQ3.out.at 4 _ rfl
  have e5 := HQ3.out.at 5 _ rfl
  have e6 := HQ3.out.at 6 _ rfl
  have e7 := HQ3.out.at 7 _ rfl
  have e8 := HQ3.out.at 8 _ rfl
  have e9 := HQ3.out.at 9 _ rfl
  have e10 := HQ3.out.at 10 _ rfl
  have e11 := HQ3.out.at 11 _ rfl
  have e12 := HQ3.out.at 12 _ rfl
  have HN0 : Hid (BoxQ 28 w3 #[.int .i64 pt, .bool us, .string uh, .int .i64 up, .bool us, .string uh, .int .i64 up, .string pa, .string qu, .string me, .slice ra rl rc, .bool wi, .string bo] (w3.alloc (.cells #[.int .i64 pt, .bool us, .string uh, .int .i64 up, .bool us, .string uh, .int .i64 up, .string pa, .string qu, .string me, .slice ra rl rc, .bool wi, .string bo] 28))) := BoxQ.new _ _ _
  have HQ4 : Hid (BoxQ 28 w #[.int .i64 pt, .bool fs, .string fh, .int .i64 fp, .bool us, .string uh, .int .i64 up, .string pa, .string qu, .string me, .slice ra rl rc, .bool wi, .string bo] (w3.alloc (.cells #[.int .i64 pt, .bool us, .string uh, .int .i64 up, .bool us, .string uh, .int .i64 up, .string pa, .string qu, .string me, .slice ra rl rc, .bool wi, .string bo] 28))) := HQ3.out.step HN0.out.bel
  have hlt3 := HQ3.out.lt
  have f0 := HQ4.out.at 0 _ rfl
  have f1 := HQ4.out.at 1 _ rfl
  have f2 := HQ4.out.at 2 _ rfl
  have f3 := HQ4.out.at 3 _ rfl
  have f4 := HQ4.out.at 4 _ rfl
  have f5 := HQ4.out.at 5 _ rfl
  have f6 := HQ4.out.at 6 _ rfl
  have f7 := HQ4.out.at 7 _ rfl
  have f8 := HQ4.out.at 8 _ rfl
  have f9 := HQ4.out.at 9 _ rfl
  have f10 := HQ4.out.at 10 _ rfl
  have f11 := HQ4.out.at 11 _ rfl
  have f12 := HQ4.out.at 12 _ rfl
  have g0 := HN0.out.at 0 _ rfl
  have g1 := HN0.out.at 1 _ rfl
  have g2 := HN0.out.at 2 _ rfl
  have g3 := HN0.out.at 3 _ rfl
  have g4 := HN0.out.at 4 _ rfl
  have g5 := HN0.out.at 5 _ rfl
  have g6 := HN0.out.at 6 _ rfl
  have g7 := HN0.out.at 7 _ rfl
  have g8 := HN0.out.at 8 _ rfl
  have g9 := HN0.out.at 9 _ rfl
  have g10 := HN0.out.at 10 _ rfl
  have g11 := HN0.out.at 11 _ rfl
  have g12 := HN0.out.at 12 _ rfl
  go_wp2_with fail
  refine (HNO.out _ HQ4.out.bel).mono ?_
  rintro e w5 ⟨rfl, hb5⟩
  have HQ5 : Hid (BoxQ 28 w #[.int .i64 pt, .bool fs, .string fh, .int .i64 fp, .bool us, .string uh, .int .i64 up, .string pa, .string qu, .string me, .slice ra rl rc, .bool wi, .string bo] w5) := HQ4.out.step hb5
  clear hb5 HQ4 HN0 e0 e1 e2 e3 e4 e5 e6 e7 e8 e9 e10 e11 e12 f0 f1 f2 f3 f4 f5 f6 f7 f8 f9 f10 f11 f12 g0 g1 g2 g3 g4 g5 g6 g7 g8 g9 g10 g11 g12
  have h0 := HQ5.out.at 0 _ rfl
  have h1 := HQ5.out.at 1 _ rfl
  have h2 := HQ5.out.at 2 _ rfl
  have h3 := HQ5.out.at 3 _ rfl
  have h4 := HQ5.out.at 4 _ rfl
  have h5 := HQ5.out.at 5 _ rfl
  have h6 := HQ5.out.at 6 _ rfl
  have h7 := HQ5.out.at 7 _ rfl
  have h8 := HQ5.out.at 8 _ rfl
  have h9 := HQ5.out.at 9 _ rfl
  have h10 := HQ5.out.at 10 _ rfl
  have h11 := HQ5.out.at 11 _ rfl
  have h12 := HQ5.out.at 12 _ rfl
  cases s
  · cases t
    · go_wp2
      go_ret
      exact ⟨rfl, HQ5.out.bel⟩
    · go_wp2_with fail
      refine (HCV.out _ HQ5.out.bel).mono ?_
      rintro e w6 ⟨rfl, hb6⟩
      have HB6 : Hid (Below w.heap.size w w6) := HQ5.out.inB hb6
      clear hb6 h0 h1 h2 h3 h4 h5 h6 h7 h8 h9 h10 h11 h12
      go_wp2
      go_ret
      exact ⟨rfl, HB6.out⟩
  · go_wp2
    go_ret
    exact ⟨rfl, HQ5.out.bel⟩
end Go.Proofs.YtoblpjknnchlmacGreatDoor

/- What came in: no text of it is longer than a machine can hold. -/
namespace Go.Proofs.YtoblpjknnchlmacGreatDoor
open Go.ChangeShapes Go.WideShapes Go.ChangeAt Go.RowKit Go.Joins

theorem laidOutP : laidOutB Tryz.prog = true := by kernel_rfl
theorem weightsAll_mem {H : Type} {P : Program} {e : TypeId} : ∀ {ds : List (DataW H)} {d : DataW H}, d ∈ ds → ∀ n ∈ d.weights P e, n ∈ DataW.weightsAll P e ds
  | d0 :: ds, d, hd, n, hn => by
    rw [DataW.weightsAll, List.mem_append]
    rcases List.mem_cons.1 hd with rfl | h
    · exact .inl hn
    · exact .inr (weightsAll_mem h n hn)
theorem weights_slice {H : Type} {t e : TypeId} (ht : Tryz.prog.underlying t = some (.slice e)) {ds es : List (DataW H)} {d : DataW H} (hd : d ∈ ds) : ∀ n ∈ d.weights Tryz.prog e, n ∈ (DataW.slice ds es).weights Tryz.prog t := by
  intro n hn
  rw [DataW.weights, ht]
  simp only [List.mem_cons, List.mem_append]
  exact .inr (.inl (weightsAll_mem hd n hn))
/-- No text of it is longer than a machine can hold. -/
def Reach {H : Type} (t : TypeId) (d : DataW H) : Prop := ∀ n ∈ d.weights Tryz.prog t, n ≤ 140737488355328
theorem reach_all {H : Type} {ts : List TypeId} {ds : List (DataW H)} (h : (DataW.weightsEach Tryz.prog ts ds).all (· ≤ reachBytes) = true) {j : Nat} {t : TypeId} {d : DataW H} (ht : ts[j]? = some t) (hd : ds[j]? = some d) : Reach t d := fun n hn => by
  have h1 := List.all_eq_true.1 h _ (DataW.weights_mem_each ht hd n hn)
  have h2 : n ≤ reachBytes := of_decide_eq_true h1
  have := reachBytes_lt
  have e3 : (2 : Nat) ^ 47 = 140737488355328 := by decide
  omega
theorem reach_string {H : Type} {t : TypeId} {s : ByteArray} (h : Reach (H := H) t (.lit (.string s.data.toList))) : s.size ≤ 140737488355328 := by
  have := h s.data.toList.length (by simp [DataW.weights])
  rw [Array.length_toList] at this
  exact this
def strOf : Value → ByteArray
  | .string s => s
  | _ => ⟨#[]⟩
end Go.Proofs.YtoblpjknnchlmacGreatDoor

/- Parameters that came in: one, and a row of them. -/
namespace Go.Proofs.YtoblpjknnchlmacGreatDoor
open Go.ChangeShapes Go.WideShapes Go.ChangeAt Go.RowKit Go.Joins

theorem cellsP : Tryz.prog.cellsOf 58 = 2 := by kernel_rfl
section
variable {H : Type} {enc : TypeId × Value → H} {W : World}
theorem open_pars {fuel : Nat} {v : Value} {x : DataW H × List MemPlace} (h : DataW.trod enc Tryz.prog W 0 (fun _ => true) true fuel 26 [v] = some x) :
    ∃ (a0 : Option Addr) (len cap b off : Nat) (ps : List Par), v = .slice a0 len cap ∧ (len ≤ cap ∧ cap ≤ 9223372036854775807) ∧ Pars W a0 len b off ps ∧ (Reach 26 x.1 → ∀ p ∈ ps, p.1.size ≤ 140737488355328 ∧ p.2.size ≤ 140737488355328) := by
  rcases Go.Deep.open_slice_pairs Tryz.underlying26 Tryz.underlying58 cellsP rfl rfl (by kernel_rfl) (by kernel_rfl) h with ⟨hcs, hx⟩ | ⟨a, len, cap, m, n, V0, V1, D0, D1, P0, P1, hcs, _, hl, hm, hmm, hx, hall⟩
  · simp only [List.cons.injEq, and_true] at hcs
    exact ⟨none, 0, 0, 0, 0, [], hcs, ⟨by omega, by omega⟩, ⟨rfl, fun h => absurd h (by omega), (fun j p hp => by simp at hp), (fun j p hp => by simp at hp)⟩, fun _ p hp => by cases hp⟩
  · simp only [List.cons.injEq, and_true] at hcs
    simp only [if_true] at hmm
    obtain rfl := hmm.symm
    unfold maxLen at hm
    have hS : ∀ i, i < len → V0 i = .string (strOf (V0 i)) ∧ V1 i = .string (strOf (V1 i)) ∧ D0 i = .lit (.string (strOf (V0 i)).data.toList) ∧ D1 i = .lit (.string (strOf (V1 i)).data.toList) := fun i hi => by
      obtain ⟨_, _, t0, t1⟩ := hall i (by omega)
      obtain ⟨s0, e0, x0, _⟩ := DataW.trod_string Tryz.underlying9 t0
      obtain ⟨s1, e1, x1, _⟩ := DataW.trod_string Tryz.underlying9 t1
      simp only [List.cons.injEq, and_true] at e0 e1
      simp only [Prod.mk.injEq] at x0 x1
      rw [e0, e1, x0.1, x1.1]
      exact ⟨rfl, rfl, rfl, rfl⟩
    obtain ⟨b, off, spot⟩ := a
    have hget : ∀ (j : Nat) (p : Par), ((List.range len).map fun i => ((strOf (V0 i), strOf (V1 i)) : Par))[j]? = some p → j < len ∧ p = (strOf (V0 j), strOf (V1 j)) := fun j p hp => by
      rw [List.getElem?_map] at hp
      by_cases hj : j < len
      · rw [List.getElem?_range hj] at hp
        simp only [Option.map_some, Option.some.injEq] at hp
        exact ⟨hj, hp.symm⟩
      · rw [List.getElem?_eq_none (by simp; omega)] at hp
        cases hp
    have hspot : 0 < len → spot = none := fun h0 => by simpa [Addr.add] using World.cell?_spot (hall 0 (by omega)).1
    refine ⟨some ⟨b, off, spot⟩, len, cap, b, off, (List.range len).map fun i => (strOf (V0 i), strOf (V1 i)), hcs, ⟨by omega, by omega⟩, ⟨by simp, fun h0 => ?_, fun j p hp => ?_, fun j p hp => ?_⟩, fun hr p hp => ?_⟩
    · obtain rfl := hspot h0
      refine ⟨rfl, ?_⟩
      have hc := (hall 0 (by omega)).1
      rcases Nat.lt_or_ge b W.heap.size with h1 | h1
      · exact h1
      · simp [World.cell?, Addr.add, Array.getElem?_eq_none h1] at hc
    · obtain ⟨hj, rfl⟩ := hget j p hp
      obtain rfl := hspot (by omega)
      rw [← add_plain]
      exact (hall j (by omega)).1.trans (congrArg some (hS j hj).1)
    · obtain ⟨hj, rfl⟩ := hget j p hp
      obtain rfl := hspot (by omega)
      rw [Nat.add_assoc, ← add_plain]
      exact (hall j (by omega)).2.1.trans (congrArg some (hS j hj).2.1)
    · obtain ⟨i, hi, rfl⟩ := List.mem_map.1 hp
      have hi' : i < len := List.mem_range.1 hi
      have hw : ∀ n ∈ (DataW.agg [D0 i, D1 i]).weights Tryz.prog 58, n ≤ 140737488355328 := fun n hn => by
        refine hr n ?_
        rw [hx]
        exact weights_slice Tryz.underlying26 (List.mem_map.2 ⟨i, hi, rfl⟩) n hn
      rw [(hS i hi').2.2.1, (hS i hi').2.2.2] at hw
      have w0 := hw (strOf (V0 i)).data.toList.length (by simp [DataW.weights, DataW.weightsEach, Tryz.underlying58])
      have w1 := hw (strOf (V1 i)).data.toList.length (by simp [DataW.weights, DataW.weightsEach, Tryz.underlying58])
      rw [Array.length_toList] at w0 w1
      exact ⟨w0, w1⟩
set_option maxRecDepth 100000 in
/-- A parameter that came in. -/
theorem open_param {b0 : Nat} {v : Value} {d : DataW H} {p : List MemPlace} (hv : Value.okWide Tryz.prog W .any b0 58 v) (h : DataW.Trod enc Tryz.prog W 0 (fun _ => true) true 58 v d p) :
    ∃ x y : ByteArray, v = .agg #[.string x, .string y] ∧ (Reach 58 d → x.size ≤ 140737488355328 ∧ y.size ≤ 140737488355328) := by
  obtain ⟨c0, c1, y0, y1, m, rfl, rfl, rfl, g0, g1⟩ := open_agg2 Tryz.underlying58 (by kernel_rfl) (by kernel_rfl) hv h
  obtain ⟨s0, e0, rfl, _⟩ := DataW.trod_string Tryz.underlying9 g0
  obtain ⟨s1, e1, rfl, _⟩ := DataW.trod_string Tryz.underlying9 g1
  simp only [List.cons.injEq, and_true] at e0 e1
  subst e0 e1
  refine ⟨s0, s1, rfl, fun hw => ?_⟩
  have w0 := hw s0.data.toList.length (by simp [DataW.weights, DataW.weightsEach, Tryz.underlying58])
  have w1 := hw s1.data.toList.length (by simp [DataW.weights, DataW.weightsEach, Tryz.underlying58])
  rw [Array.length_toList] at w0 w1
  exact ⟨w0, w1⟩
/-- A row of parameters that came in. -/
theorem open_parsT {v : Value} {d : DataW H} {p : List MemPlace} {a0 : Option Addr} {len cap : Nat} (h : DataW.Trod enc Tryz.prog W 0 (fun _ => true) true 26 v d p) (hv : v = .slice a0 len cap) :
    ∃ (b off : Nat) (ps : List Par), (len ≤ cap ∧ cap ≤ 9223372036854775807) ∧ Pars W a0 len b off ps ∧ (Reach 26 d → ∀ q ∈ ps, q.1.size ≤ 140737488355328 ∧ q.2.size ≤ 140737488355328) := by
  subst hv
  obtain ⟨fuel, hf⟩ := h
  obtain ⟨a1, n1, c1, b, off, ps, e, hl, hp, hr⟩ := open_pars (v := .slice a0 len cap) hf
  injection e with e1 e2 e3
  subst e1 e2 e3
  exact ⟨b, off, ps, hl, hp, hr⟩
end
end Go.Proofs.YtoblpjknnchlmacGreatDoor

/- A request that came in: opened, with its numbers' bounds. -/
namespace Go.Proofs.YtoblpjknnchlmacGreatDoor
open Go.ChangeShapes Go.WideShapes Go.ChangeAt Go.RowKit Go.Joins

theorem array13q {α : Type} {cs : Array α} (h : cs.size = 13) : ∃ c0 c1 c2 c3 c4 c5 c6 c7 c8 c9 c10 c11 c12, cs = #[c0, c1, c2, c3, c4, c5, c6, c7, c8, c9, c10, c11, c12] := by
  obtain ⟨l⟩ := cs
  match l, h with
  | [c0, c1, c2, c3, c4, c5, c6, c7, c8, c9, c10, c11, c12], _ => exact ⟨c0, c1, c2, c3, c4, c5, c6, c7, c8, c9, c10, c11, c12, rfl⟩
theorem list3q {α : Type} {l : List α} (h : l.length = 3) : ∃ c0 c1 c2, l = [c0, c1, c2] := by
  match l, h with
  | [c0, c1, c2], _ => exact ⟨c0, c1, c2, rfl⟩
theorem list7q {α : Type} {l : List α} (h : l.length = 7) : ∃ c0 c1 c2 c3 c4 c5 c6, l = [c0, c1, c2, c3, c4, c5, c6] := by
  match l, h with
  | [c0, c1, c2, c3, c4, c5, c6], _ => exact ⟨c0, c1, c2, c3, c4, c5, c6, rfl⟩
section
variable {H : Type} {enc : TypeId × Value → H} {W : World}
set_option maxRecDepth 100000 in
/-- An origin among the cells of a greater thing. -/
theorem open_orgAt9 {fuel : Nat} {c0 c1 c2 : Value} {x : DataW H × List MemPlace} (h : DataW.trod enc Tryz.prog W 0 (fun _ => true) true fuel 23 [c0, c1, c2] = some x) :
    ∃ (s : Bool) (t : ByteArray) (p : Int), c0 = .bool s ∧ c1 = .string t ∧ c2 = .int .i64 p ∧ x.1 = .agg [.lit (.bool s), .lit (.string t.data.toList), .lit (.int .i64 p)] ∧ (Lit.int .i64 p).wf = true := by
  obtain ⟨xs, n, rfl, rfl, _, hlen, hff⟩ := DataW.trod_struct Tryz.underlying23 h
  obtain ⟨y0, y1, y2, rfl⟩ := list3q (hlen.trans rfl)
  have g0 : DataW.trod enc Tryz.prog W 0 (fun _ => true) true n 4 [c0] = some y0 := hff 0 _ rfl
  have g1 : DataW.trod enc Tryz.prog W 0 (fun _ => true) true n 9 [c1] = some y1 := hff 1 _ rfl
  have g2 : DataW.trod enc Tryz.prog W 0 (fun _ => true) true n 3 [c2] = some y2 := hff 2 _ rfl
  obtain ⟨s, e0, rfl⟩ := DataW.trod_bool Tryz.underlying4 g0
  obtain ⟨t, e1, rfl, _⟩ := DataW.trod_string Tryz.underlying9 g1
  obtain ⟨p, e2, rfl, wp⟩ := DataW.trod_int Tryz.underlying3 g2
  simp only [List.cons.injEq, and_true] at e0 e1 e2
  exact ⟨s, t, p, e0, e1, e2, rfl, wp⟩
set_option maxRecDepth 100000 in
set_option maxHeartbeats 2000000 in
theorem open_req9 {b0 : Nat} {v : Value} {d : DataW H} {p : List MemPlace} (hv : Value.okWide Tryz.prog W .any b0 28 v) (h : DataW.Trod enc Tryz.prog W 0 (fun _ => true) true 28 v d p) :
    ∃ (pt fp up : Int) (fs us wi : Bool) (fh uh pa qu me bo : ByteArray) (a0 : Option Addr) (len cap b off : Nat) (ps : List Par),
      v = .agg #[.int .i64 pt, .bool fs, .string fh, .int .i64 fp, .bool us, .string uh, .int .i64 up, .string pa, .string qu, .string me, .slice a0 len cap, .bool wi, .string bo] ∧
      ((Lit.int .i64 pt).wf = true ∧ (Lit.int .i64 fp).wf = true ∧ (Lit.int .i64 up).wf = true) ∧ (len ≤ cap ∧ cap ≤ 9223372036854775807) ∧ Pars W a0 len b off ps ∧
      (Reach 28 d → (fh.size ≤ 140737488355328 ∧ uh.size ≤ 140737488355328 ∧ pa.size ≤ 140737488355328 ∧ qu.size ≤ 140737488355328 ∧ me.size ≤ 140737488355328 ∧ bo.size ≤ 140737488355328) ∧ ∀ q ∈ ps, q.1.size ≤ 140737488355328 ∧ q.2.size ≤ 140737488355328) := by
  obtain ⟨cs, rfl, hsz⟩ := okWide_struct Tryz.underlying28 hv
  obtain ⟨c0, c1, c2, c3, c4, c5, c6, c7, c8, c9, c10, c11, c12, rfl⟩ := array13q (hsz.trans (by kernel_rfl))
  obtain ⟨fuel, hf⟩ := h
  obtain ⟨xs, n, _, hx, _, hlen, hff⟩ := DataW.trod_struct Tryz.underlying28 hf
  obtain ⟨y0, y1, y2, y3, y4, y5, y6, rfl⟩ := list7q (hlen.trans rfl)
  simp only [Prod.mk.injEq] at hx
  have g0 : DataW.trod enc Tryz.prog W 0 (fun _ => true) true n 3 [c0] = some y0 := hff 0 _ rfl
  have g1 : DataW.trod enc Tryz.prog W 0 (fun _ => true) true n 23 [c1, c2, c3] = some y1 := hff 1 _ rfl
  have g2 : DataW.trod enc Tryz.prog W 0 (fun _ => true) true n 25 [c4, c5, c6, c7, c8] = some y2 := hff 2 _ rfl
  have g3 : DataW.trod enc Tryz.prog W 0 (fun _ => true) true n 9 [c9] = some y3 := hff 3 _ rfl
  have g4 : DataW.trod enc Tryz.prog W 0 (fun _ => true) true n 26 [c10] = some y4 := hff 4 _ rfl
  have g5 : DataW.trod enc Tryz.prog W 0 (fun _ => true) true n 4 [c11] = some y5 := hff 5 _ rfl
  have g6 : DataW.trod enc Tryz.prog W 0 (fun _ => true) true n 9 [c12] = some y6 := hff 6 _ rfl
  obtain ⟨pt, e0, rfl, wpt⟩ := DataW.trod_int Tryz.underlying3 g0
  obtain ⟨fs, fh, fp, rfl, rfl, rfl, x1, wfp⟩ := open_orgAt9 g1
  obtain ⟨us', m, rfl, hx2, _, hlen2, hff2⟩ := DataW.trod_struct Tryz.underlying25 g2
  obtain ⟨u0, u1, u2, rfl⟩ := list3q (hlen2.trans rfl)
  have q0 : DataW.trod enc Tryz.prog W 0 (fun _ => true) true m 23 [c4, c5, c6] = some u0 := hff2 0 _ rfl
  have q1 : DataW.trod enc Tryz.prog W 0 (fun _ => true) true m 9 [c7] = some u1 := hff2 1 _ rfl
  have q2 : DataW.trod enc Tryz.prog W 0 (fun _ => true) true m 9 [c8] = some u2 := hff2 2 _ rfl
  obtain ⟨us, uh, up, rfl, rfl, rfl, z0, wup⟩ := open_orgAt9 q0
  obtain ⟨pa, e7, rfl, _⟩ := DataW.trod_string Tryz.underlying9 q1
  obtain ⟨qu, e8, rfl, _⟩ := DataW.trod_string Tryz.underlying9 q2
  obtain ⟨me, e9, rfl, _⟩ := DataW.trod_string Tryz.underlying9 g3
  obtain ⟨a0, len, cap, b, off, ps, rfl, hl, hp, hr⟩ := open_pars g4
  obtain ⟨wi, e11, rfl⟩ := DataW.trod_bool Tryz.underlying4 g5
  obtain ⟨bo, e12, rfl, _⟩ := DataW.trod_string Tryz.underlying9 g6
  simp only [List.cons.injEq, and_true] at e0 e7 e8 e9 e11 e12
  subst e0 e7 e8 e9 e11 e12
  refine ⟨pt, fp, up, fs, us, wi, fh, uh, pa, qu, me, bo, a0, len, cap, b, off, ps, rfl, ⟨wpt, wfp, wup⟩, hl, hp, fun hw => ?_⟩
  have hd := hx.1
  simp only [List.map_cons, List.map_nil, x1, hx2, z0] at hd
  subst hd
  have w1 := hw fh.data.toList.length (by simp [DataW.weights, DataW.weightsEach, Tryz.underlying28, Tryz.underlying23])
  have w2 := hw uh.data.toList.length (by simp [DataW.weights, DataW.weightsEach, Tryz.underlying28, Tryz.underlying23, Tryz.underlying25])
  have w3 := hw pa.data.toList.length (by simp [DataW.weights, DataW.weightsEach, Tryz.underlying28, Tryz.underlying23, Tryz.underlying25])
  have w4 := hw qu.data.toList.length (by simp [DataW.weights, DataW.weightsEach, Tryz.underlying28, Tryz.underlying23, Tryz.underlying25])
  have w5 := hw me.data.toList.length (by simp [DataW.weights, DataW.weightsEach, Tryz.underlying28])
  have w6 := hw bo.data.toList.length (by simp [DataW.weights, DataW.weightsEach, Tryz.underlying28])
  rw [Array.length_toList] at w1 w2 w3 w4 w5 w6
  refine ⟨⟨w1, w2, w3, w4, w5, w6⟩, hr fun k hk => hw k ?_⟩
  simp only [DataW.weights, Tryz.underlying28]
  simp [DataW.weightsEach, hk]
end
end Go.Proofs.YtoblpjknnchlmacGreatDoor

/- What the two tables hold, by what the row lays. -/
namespace Go.Proofs.YtoblpjknnchlmacGreatDoor
open Go.RowKit

theorem pow_data : (Rows.laid_internal_strconv_uint64pow10 : DataW Unit) = Lib.tabData .u64 Lib.pow10Tab := by rfl
theorem pow_laid {W : World} (h : Lib.VarReads Tryz.prog W "internal/strconv.uint64pow10" Rows.laid_internal_strconv_uint64pow10) : Lib.TabIs Tryz.prog W "internal/strconv.uint64pow10" .u64 Lib.pow10Tab := by
  obtain ⟨g', t', cs, fuel, p, hg, hty, hvar, hd⟩ := h
  have hn : Tryz.prog.globalNamed "internal/strconv.uint64pow10" = some 5 := by kernel_rfl
  have ht : (Tryz.prog.globals[5]?).map (·.type) = some 159 := by kernel_rfl
  obtain rfl := Option.some.inj (hn.symm.trans hg)
  obtain rfl := Option.some.inj (ht.symm.trans hty)
  rw [pow_data] at hd
  unfold Lib.TabIs
  rw [hvar, ← Lib.cells_of_tab Tryz.underlying159 Tryz.underlying128 (by kernel_rfl) (by kernel_rfl) hd]
theorem env_laid {W : World} (h1 : Lib.VarReads Tryz.prog W "gatepost/url.schemes" Rows.laid_gatepost_url_schemes) (h2 : Lib.VarReads Tryz.prog W "internal/strconv.uint64pow10" Rows.laid_internal_strconv_uint64pow10) : Env W := ⟨schemes_laid h1, pow_laid h2⟩
end Go.Proofs.YtoblpjknnchlmacGreatDoor
