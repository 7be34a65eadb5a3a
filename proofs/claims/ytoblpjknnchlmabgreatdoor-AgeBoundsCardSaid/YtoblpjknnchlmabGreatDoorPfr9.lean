/- passesFor, by the program. -/
import Derived.Test.YtoblpjknnchlmabGreatDoorPfr9D
import Derived.Test.YtoblpjknnchlmabGreatDoorFsU9
import Derived.Test.YtoblpjknnchlmabGreatDoorSrs
import Derived.Test.YtoblpjknnchlmabGreatDoorLw
import Derived.Test.YtoblpjknnchlmabGreatDoorRgH
namespace Go.Proofs.YtoblpjknnchlmabGreatDoor
open Go.RowKit
set_option linter.unusedVariables false
set_option linter.unusedSimpArgs false

/-- The request's block and the passes' one. -/
structure PfS (w : World) (x : Array Value) (W : World) : Prop where
  box : BoxQ 28 w x W
  row : W.heap[w.heap.size + 1]? = some (.cells #[.slice none 0 0] 46 (0, 0))
theorem PfS.step {w W W' : World} {x : Array Value} (h : PfS w x W) (hb : Below W.heap.size W W') : PfS w x W' :=
  ⟨h.box.step hb, by rw [hb.block _ (Array.getElem?_eq_some_iff.1 h.row).1]; exact h.row⟩
theorem PfS.new (w : World) (x : Array Value) : PfS w x ((w.alloc (.cells x 28)).alloc (.cells #[.slice none 0 0] 46)) := by
  refine ⟨(BoxQ.new 28 w x).step ((Below.refl _ _).alloc (Nat.le_refl _) _), ?_⟩
  have := heap_alloc_new (w.alloc (.cells x 28)) (.cells #[.slice none 0 0] 46)
  simpa using this
theorem PfS.grown {w W W' : World} {x : Array Value} {g : Nat} (h : PfS w x W) (hg : W.grownBy W' (some g)) (hl : w.heap.size + 1 < g) : PfS w x W' := by
  have h1 : w.heap.size + 1 < W.heap.size := (Array.getElem?_eq_some_iff.1 h.row).1
  refine ⟨⟨h.box.bel.grown hg h.box.bel.size (fun i hi => by injection hi with hi; omega), ?_⟩, ?_⟩
  · rw [hg.block _ (by omega) (by intro e; injection e with e; omega)]
    exact h.box.row
  · rw [hg.block _ h1 (by intro e; injection e with e; omega)]
    exact h.row
theorem store12 {W : World} {g : Nat} {y : Array Value} {T : TypeId} (h : W.heap[g]? = some (.cells y T (0, 0))) (x : List Value) (hs : y.size = x.length) (h1 : ∀ u ∈ x, u.oneCell' = true) :
    Sem.run Tryz.prog (storeCells ⟨g, 0, none⟩ x 0) W = .ok () (W.setCells g 0 x) ∧ (W.setCells g 0 x).heap[g]? = some (.cells x.toArray T (0, 0)) ∧ W.grownBy (W.setCells g 0 x) (some g) := by
  have hr := run_storeCells_cells (P := Tryz.prog) g 0 x 0 W (fun j hj => by
    rw [Nat.add_zero, Nat.zero_add, cell_of h, Array.getElem?_eq_getElem (by omega)]
    rfl) (fun j _ => free_of h _) h1
  rw [Nat.add_zero] at hr
  exact ⟨hr, setAll x h hs⟩
theorem PfS.lt {w W : World} {x : Array Value} (h : PfS w x W) : w.heap.size + 1 < W.heap.size := (Array.getElem?_eq_some_iff.1 h.row).1
set_option maxRecDepth 100000 in
set_option maxHeartbeats 8000000 in
theorem passesFor9_any (pt fp up : Int) (fs us wi : Bool) (fh uh pa qu me bo : ByteArray) (ra : Option Addr) (rl rc : Nat) (h1 : fh.size ≤ 140737488355328) (h2 : uh.size ≤ 140737488355328) (h3 : pa.size ≤ 140737488355328) (h4 : qu.size ≤ 140737488355328) (un : Int)
    (ms hs : List ByteArray) (hms : ms.length ≤ 100) (hhs : hs.length ≤ 100) (hz : ∀ x ∈ hs, x.size ≤ 20000) (ma ha : Option Addr) (mn mc mb mo hn hc hb ho : Nat) (w : World) (hm : Strs w ma mn mb mo ms) (hh : Strs w ha hn hb ho hs) :
    Calls Tryz.prog 43 #[.agg #[.int .i64 pt, .bool fs, .string fh, .int .i64 fp, .bool us, .string uh, .int .i64 up, .string pa, .string qu, .string me, .slice ra rl rc, .bool wi, .string bo], .int .i64 un, .slice ma mn mc, .slice ha hn hc] w fun e w' => (∃ v, e = .returned v ∧ OwnX ⟨fs, fh, fp, us, uh, up, pa, qu, wi, ⟨#[]⟩, ⟨#[]⟩, un⟩ w' w.heap.size v (passL ms hs)) ∧ Below w.heap.size w w' := by
  have HM : Hid (Strs w ma mn mb mo ms ∧ ms.length = mn) := ⟨hm, hm.len_eq⟩
  have HH : Hid (Strs w ha hn hb ho hs ∧ hs.length = hn) := ⟨hh, hh.len_eq⟩
  have HZ : Hid (∀ x ∈ hs, x.size ≤ 20000) := hz
  have hmn : mn ≤ 100 := by rw [← hm.len_eq]; exact hms
  have hhn : hn ≤ 100 := by rw [← hh.len_eq]; exact hhs
  have hP := PfS.new w #[.int .i64 pt, .bool fs, .string fh, .int .i64 fp, .bool us, .string uh, .int .i64 up, .string pa, .string qu, .string me, .slice ra rl rc, .bool wi, .string bo]
  have hen := enters_at Tryz.func75 (by kernel_rfl) rfl
  obtain ⟨p, HPB⟩ : ∃ p : PsV, Hid (p = ⟨fs, fh, fp, us, uh, up, pa, qu, wi, ⟨#[]⟩, ⟨#[]⟩, un⟩) := ⟨_, rfl⟩
  clear hm hh hz hms hhs
  go_enter Tryz.func43, Tryz.ntmps43
  go_upto_region 2 with fail
  generalize hW0 : ((w.alloc (.cells #[.int .i64 pt, .bool fs, .string fh, .int .i64 fp, .bool us, .string uh, .int .i64 up, .string pa, .string qu, .string me, .slice ra rl rc, .bool wi, .string bo] 28)).alloc (.cells #[.slice none 0 0] 46)) = W0 at hP ⊢
  clear hW0
  have HP : Hid (PfS w #[.int .i64 pt, .bool fs, .string fh, .int .i64 fp, .bool us, .string uh, .int .i64 up, .string pa, .string qu, .string me, .slice ra rl rc, .bool wi, .string bo] W0.drew) := hP.step (Below.refl _ _).drew
  clear hP
  have hbase : ∀ W, PfS w #[.int .i64 pt, .bool fs, .string fh, .int .i64 fp, .bool us, .string uh, .int .i64 up, .string pa, .string qu, .string me, .slice ra rl rc, .bool wi, .string bo] W → W.cell? ⟨w.heap.size, 1, none⟩ = some (.bool fs) ∧ W.cell? ⟨w.heap.size, 2, none⟩ = some (.string fh) ∧ W.cell? ⟨w.heap.size, 3, none⟩ = some (.int .i64 fp) ∧ W.cell? ⟨w.heap.size, 4, none⟩ = some (.bool us) ∧ W.cell? ⟨w.heap.size, 5, none⟩ = some (.string uh) ∧ W.cell? ⟨w.heap.size, 6, none⟩ = some (.int .i64 up) ∧ W.cell? ⟨w.heap.size, 7, none⟩ = some (.string pa) ∧ W.cell? ⟨w.heap.size, 8, none⟩ = some (.string qu) ∧ W.cell? ⟨w.heap.size, 11, none⟩ = some (.bool wi) ∧ Hid (PfS w #[.int .i64 pt, .bool fs, .string fh, .int .i64 fp, .bool us, .string uh, .int .i64 up, .string pa, .string qu, .string me, .slice ra rl rc, .bool wi, .string bo] W) := fun W h => ⟨(PfS.box h).at 1 _ rfl, (PfS.box h).at 2 _ rfl, (PfS.box h).at 3 _ rfl, (PfS.box h).at 4 _ rfl, (PfS.box h).at 5 _ rfl, (PfS.box h).at 6 _ rfl, (PfS.box h).at 7 _ rfl, (PfS.box h).at 8 _ rfl, (PfS.box h).at 11 _ rfl, h⟩
  go_cut [10] (fun v wc => ∃ gp : Nat, v = .pointer (some ⟨gp, 0, none⟩) ∧ Hid (PfS w #[.int .i64 pt, .bool fs, .string fh, .int .i64 fp, .bool us, .string uh, .int .i64 up, .string pa, .string qu, .string me, .slice ra rl rc, .bool wi, .string bo] wc ∧ wc.heap[gp]? = some (.cells p.vals.toArray 50 (0, 0)) ∧ w.heap.size + 1 < gp))
  case first =>
    refine wp_region_held_drew (S := fun W => W.cell? ⟨w.heap.size, 1, none⟩ = some (.bool fs) ∧ W.cell? ⟨w.heap.size, 2, none⟩ = some (.string fh) ∧ W.cell? ⟨w.heap.size, 3, none⟩ = some (.int .i64 fp) ∧ W.cell? ⟨w.heap.size, 4, none⟩ = some (.bool us) ∧ W.cell? ⟨w.heap.size, 5, none⟩ = some (.string uh) ∧ W.cell? ⟨w.heap.size, 6, none⟩ = some (.int .i64 up) ∧ W.cell? ⟨w.heap.size, 7, none⟩ = some (.string pa) ∧ W.cell? ⟨w.heap.size, 8, none⟩ = some (.string qu) ∧ W.cell? ⟨w.heap.size, 11, none⟩ = some (.bool wi) ∧ Hid (PfS w #[.int .i64 pt, .bool fs, .string fh, .int .i64 fp, .bool us, .string uh, .int .i64 up, .string pa, .string qu, .string me, .slice ra rl rc, .bool wi, .string bo] W)) (by kernel_rfl) (hbase _ (show PfS _ _ _ from HP.out)) (fun hHeld => ?_)
    refine takeH (i := 0) (d := some 16) (v := ?_) rfl rfl (by kernel_rfl) (by kernel_rfl) (by kernel_rfl) (fun _ _ _ h => h) (by rfl) ?_ (by assumption) ?_
    rotate_left
    · intro w hSw; (try dsimp only at hSw); obtain ⟨q1, q2, q3, q4, q5, q6, q7, q8, q11, _⟩ := hSw; go_simp; with_reducible rfl
    try simp only [Act.put, List.setIfInBounds_toArray, List.set_cons_zero, List.set_cons_succ]
    refine takeH (i := 1) (d := some 17) (v := ?_) rfl rfl (by kernel_rfl) (by kernel_rfl) (by kernel_rfl) (fun _ _ _ h => h) (by rfl) ?_ (by assumption) ?_
    rotate_left
    · intro w hSw; (try dsimp only at hSw); obtain ⟨q1, q2, q3, q4, q5, q6, q7, q8, q11, _⟩ := hSw; go_simp; with_reducible rfl
    try simp only [Act.put, List.setIfInBounds_toArray, List.set_cons_zero, List.set_cons_succ]
    refine takeH (i := 3) (d := some 19) (v := ?_) rfl rfl (by kernel_rfl) (by kernel_rfl) (by kernel_rfl) (fun _ _ _ h => h) (by rfl) ?_ (by assumption) ?_
    rotate_left
    · intro w hSw; (try dsimp only at hSw); obtain ⟨q1, q2, q3, q4, q5, q6, q7, q8, q11, _⟩ := hSw; go_simp; with_reducible rfl
    try simp only [Act.put, List.setIfInBounds_toArray, List.set_cons_zero, List.set_cons_succ]
    refine takeH (i := 4) (d := some 20) (v := ?_) rfl rfl (by kernel_rfl) (by kernel_rfl) (by kernel_rfl) (fun _ _ _ h => h) (by rfl) ?_ (by assumption) ?_
    rotate_left
    · intro w hSw; (try dsimp only at hSw); obtain ⟨q1, q2, q3, q4, q5, q6, q7, q8, q11, _⟩ := hSw; go_simp; with_reducible rfl
    try simp only [Act.put, List.setIfInBounds_toArray, List.set_cons_zero, List.set_cons_succ]
    refine takeH (i := 6) (d := some 22) (v := ?_) rfl rfl (by kernel_rfl) (by kernel_rfl) (by kernel_rfl) (fun _ _ _ h => h) (by rfl) ?_ (by assumption) ?_
    rotate_left
    · intro w hSw; (try dsimp only at hSw); obtain ⟨q1, q2, q3, q4, q5, q6, q7, q8, q11, _⟩ := hSw; go_simp; with_reducible rfl
    try simp only [Act.put, List.setIfInBounds_toArray, List.set_cons_zero, List.set_cons_succ]
    refine takeH (i := 7) (d := some 23) (v := ?_) rfl rfl (by kernel_rfl) (by kernel_rfl) (by kernel_rfl) (fun _ _ _ h => h) (by rfl) ?_ (by assumption) ?_
    rotate_left
    · intro w hSw; (try dsimp only at hSw); obtain ⟨q1, q2, q3, q4, q5, q6, q7, q8, q11, _⟩ := hSw; go_simp; with_reducible rfl
    try simp only [Act.put, List.setIfInBounds_toArray, List.set_cons_zero, List.set_cons_succ]
    refine takeH (i := 8) (d := some 24) (v := ?_) rfl rfl (by kernel_rfl) (by kernel_rfl) (by kernel_rfl) (fun _ _ _ h => h) (by rfl) ?_ (by assumption) ?_
    rotate_left
    · intro w hSw; (try dsimp only at hSw); obtain ⟨q1, q2, q3, q4, q5, q6, q7, q8, q11, _⟩ := hSw; go_simp; with_reducible rfl
    try simp only [Act.put, List.setIfInBounds_toArray, List.set_cons_zero, List.set_cons_succ]
    refine wpAnyH_ready (rs := [2, 10]) (by kernel_rfl) (by simp) ?_
    refine AllReadyH.cons (by rfl) (fun K hKK => ?_) (AllReadyH.cons (by rfl) (fun K hKK => ?_) AllReadyH.nil)
    · skip
      go_simp
      refine (fresh9_any fs fh fp h1 _).mono ?_
      rintro e w1 ⟨rfl, hbw1⟩
      have P1 : Hid (PfS w #[.int .i64 pt, .bool fs, .string fh, .int .i64 fp, .bool us, .string uh, .int .i64 up, .string pa, .string qu, .string me, .slice ra rl rc, .bool wi, .string bo] w1) := (show PfS _ _ _ from HP.out).step hbw1
      clear hbw1
      go_wp2_with fail
      refine hKK.out _ _ (hbase _ (show PfS _ _ _ from P1.out)) (fun hHeld => ?_)
      clear hKK K
      try simp only [Act.put, List.setIfInBounds_toArray, List.set_cons_zero, List.set_cons_succ]
      refine wpAnyH_ready (rs := [5, 10]) (by kernel_rfl) (by simp) ?_
      refine AllReadyH.cons (by rfl) (fun K hKK => ?_) (AllReadyH.cons (by rfl) (fun K hKK => ?_) AllReadyH.nil)
      · skip
        go_simp
        refine (freshU9_any us uh up pa qu h2 h3 h4 _).mono ?_
        rintro e w2 ⟨rfl, hbw2⟩
        have P2 : Hid (PfS w #[.int .i64 pt, .bool fs, .string fh, .int .i64 fp, .bool us, .string uh, .int .i64 up, .string pa, .string qu, .string me, .slice ra rl rc, .bool wi, .string bo] w2) := (show PfS _ _ _ from P1.out).step hbw2
        clear hbw2
        go_wp2_with fail
        refine hKK.out _ _ (hbase _ (show PfS _ _ _ from P2.out)) (fun hHeld => ?_)
        clear hKK K
        try simp only [Act.put, List.setIfInBounds_toArray, List.set_cons_zero, List.set_cons_succ]
        refine takeH (i := 9) (d := some 25) (v := .agg p.vals.toArray) rfl rfl (by kernel_rfl) (by kernel_rfl) (by kernel_rfl) (fun _ _ _ h => h) (by rfl) ?_ (by assumption) ?_
        · intro w hSw; (try dsimp only at hSw); obtain ⟨q1, q2, q3, q4, q5, q6, q7, q8, q11, _⟩ := hSw; go_simp; rw [HPB.out]; rfl
        try simp only [Act.put, List.setIfInBounds_toArray, List.set_cons_zero, List.set_cons_succ]
        refine wpAnyH_ready (rs := [10]) (by kernel_rfl) (by simp) ?_
        refine AllReadyH.cons (by rfl) (fun K hKK => ?_) AllReadyH.nil
        go_simp
        have P3 : Hid (PfS w #[.int .i64 pt, .bool fs, .string fh, .int .i64 fp, .bool us, .string uh, .int .i64 up, .string pa, .string qu, .string me, .slice ra rl rc, .bool wi, .string bo] (w2.alloc (.cells #[.bool false, .string ⟨#[]⟩, .int .i64 0, .bool false, .string ⟨#[]⟩, .int .i64 0, .string ⟨#[]⟩, .string ⟨#[]⟩, .bool false, .string ⟨#[]⟩, .string ⟨#[]⟩, .int .i64 0] 50))) := (show PfS _ _ _ from P2.out).step ((Below.refl _ _).alloc (Nat.le_refl _) _)
        have R3 : Hid ((w2.alloc (.cells #[.bool false, .string ⟨#[]⟩, .int .i64 0, .bool false, .string ⟨#[]⟩, .int .i64 0, .string ⟨#[]⟩, .string ⟨#[]⟩, .bool false, .string ⟨#[]⟩, .string ⟨#[]⟩, .int .i64 0] 50)).heap[w2.heap.size]? = some (.cells #[.bool false, .string ⟨#[]⟩, .int .i64 0, .bool false, .string ⟨#[]⟩, .int .i64 0, .string ⟨#[]⟩, .string ⟨#[]⟩, .bool false, .string ⟨#[]⟩, .string ⟨#[]⟩, .int .i64 0] 50 (0, 0))) := heap_alloc_new _ _
        have LR3 : Hid (w.heap.size + 1 < w2.heap.size) := (show PfS _ _ _ from P2.out).lt
        refine hKK.out _ _ (hbase _ (show PfS _ _ _ from P3.out)) (fun hHeld => ?_)
        clear hKK K
        try simp only [Act.put, List.setIfInBounds_toArray, List.set_cons_zero, List.set_cons_succ]
        refine wpAnyH_ready (rs := [11]) (by kernel_rfl) (by simp) ?_
        refine AllReadyH.cons (by rfl) (fun K hKK => ?_) AllReadyH.nil
        obtain ⟨hst, z1, z2⟩ := store12 (show (w2.alloc (.cells #[.bool false, .string ⟨#[]⟩, .int .i64 0, .bool false, .string ⟨#[]⟩, .int .i64 0, .string ⟨#[]⟩, .string ⟨#[]⟩, .bool false, .string ⟨#[]⟩, .string ⟨#[]⟩, .int .i64 0] 50)).heap[w2.heap.size]? = some (.cells #[.bool false, .string ⟨#[]⟩, .int .i64 0, .bool false, .string ⟨#[]⟩, .int .i64 0, .string ⟨#[]⟩, .string ⟨#[]⟩, .bool false, .string ⟨#[]⟩, .string ⟨#[]⟩, .int .i64 0] 50 (0, 0)) from R3.out) p.vals rfl (vals_one p)
        have PZ := (show PfS _ _ _ from P3.out).grown z2 (show _ < _ from LR3.out)
        have HZ1 : Hid (_ = _) := z1
        clear z1 z2
        go_simp
        refine hKK.out _ _ (hbase _ PZ) (fun hHeld => ?_)
        clear hKK K hst
        try simp only [Act.put, List.setIfInBounds_toArray, List.set_cons_zero, List.set_cons_succ]
        refine wpAnyH_done (by kernel_rfl) ?_ _
        go_wp2_with fail
        go_meet
        exact ⟨_, rfl, ⟨PZ, HZ1.out, (show _ < _ from LR3.out)⟩⟩
      · skip
        go_simp
        have P3 : Hid (PfS w #[.int .i64 pt, .bool fs, .string fh, .int .i64 fp, .bool us, .string uh, .int .i64 up, .string pa, .string qu, .string me, .slice ra rl rc, .bool wi, .string bo] (w1.alloc (.cells #[.bool false, .string ⟨#[]⟩, .int .i64 0, .bool false, .string ⟨#[]⟩, .int .i64 0, .string ⟨#[]⟩, .string ⟨#[]⟩, .bool false, .string ⟨#[]⟩, .string ⟨#[]⟩, .int .i64 0] 50))) := (show PfS _ _ _ from P1.out).step ((Below.refl _ _).alloc (Nat.le_refl _) _)
        have R3 : Hid ((w1.alloc (.cells #[.bool false, .string ⟨#[]⟩, .int .i64 0, .bool false, .string ⟨#[]⟩, .int .i64 0, .string ⟨#[]⟩, .string ⟨#[]⟩, .bool false, .string ⟨#[]⟩, .string ⟨#[]⟩, .int .i64 0] 50)).heap[w1.heap.size]? = some (.cells #[.bool false, .string ⟨#[]⟩, .int .i64 0, .bool false, .string ⟨#[]⟩, .int .i64 0, .string ⟨#[]⟩, .string ⟨#[]⟩, .bool false, .string ⟨#[]⟩, .string ⟨#[]⟩, .int .i64 0] 50 (0, 0))) := heap_alloc_new _ _
        have LR3 : Hid (w.heap.size + 1 < w1.heap.size) := (show PfS _ _ _ from P1.out).lt
        refine hKK.out _ _ (hbase _ (show PfS _ _ _ from P3.out)) (fun hHeld => ?_)
        clear hKK K
        try simp only [Act.put, List.setIfInBounds_toArray, List.set_cons_zero, List.set_cons_succ]
        refine wpAnyH_ready (rs := [5]) (by kernel_rfl) (by simp) ?_
        refine AllReadyH.cons (by rfl) (fun K hKK => ?_) AllReadyH.nil
        go_simp
        refine (freshU9_any us uh up pa qu h2 h3 h4 _).mono ?_
        rintro e w2 ⟨rfl, hbw2⟩
        have P2 : Hid (PfS w #[.int .i64 pt, .bool fs, .string fh, .int .i64 fp, .bool us, .string uh, .int .i64 up, .string pa, .string qu, .string me, .slice ra rl rc, .bool wi, .string bo] w2) := (show PfS _ _ _ from P3.out).step hbw2
        have Rw2 : Hid (w2.heap[w1.heap.size]? = some (.cells #[.bool false, .string ⟨#[]⟩, .int .i64 0, .bool false, .string ⟨#[]⟩, .int .i64 0, .string ⟨#[]⟩, .string ⟨#[]⟩, .bool false, .string ⟨#[]⟩, .string ⟨#[]⟩, .int .i64 0] 50 (0, 0))) := (show _ = _ from (hbw2.block _ (Array.getElem?_eq_some_iff.1 R3.out).1).trans R3.out)
        clear hbw2
        go_wp2_with fail
        refine hKK.out _ _ (hbase _ (show PfS _ _ _ from P2.out)) (fun hHeld => ?_)
        clear hKK K
        try simp only [Act.put, List.setIfInBounds_toArray, List.set_cons_zero, List.set_cons_succ]
        refine takeH (i := 9) (d := some 25) (v := .agg p.vals.toArray) rfl rfl (by kernel_rfl) (by kernel_rfl) (by kernel_rfl) (fun _ _ _ h => h) (by rfl) ?_ (by assumption) ?_
        · intro w hSw; (try dsimp only at hSw); obtain ⟨q1, q2, q3, q4, q5, q6, q7, q8, q11, _⟩ := hSw; go_simp; rw [HPB.out]; rfl
        try simp only [Act.put, List.setIfInBounds_toArray, List.set_cons_zero, List.set_cons_succ]
        refine wpAnyH_ready (rs := [11]) (by kernel_rfl) (by simp) ?_
        refine AllReadyH.cons (by rfl) (fun K hKK => ?_) AllReadyH.nil
        obtain ⟨hst, z1, z2⟩ := store12 (show w2.heap[w1.heap.size]? = some (.cells #[.bool false, .string ⟨#[]⟩, .int .i64 0, .bool false, .string ⟨#[]⟩, .int .i64 0, .string ⟨#[]⟩, .string ⟨#[]⟩, .bool false, .string ⟨#[]⟩, .string ⟨#[]⟩, .int .i64 0] 50 (0, 0)) from Rw2.out) p.vals rfl (vals_one p)
        have PZ := (show PfS _ _ _ from P2.out).grown z2 (show _ < _ from LR3.out)
        have HZ1 : Hid (_ = _) := z1
        clear z1 z2
        go_simp
        refine hKK.out _ _ (hbase _ PZ) (fun hHeld => ?_)
        clear hKK K hst
        try simp only [Act.put, List.setIfInBounds_toArray, List.set_cons_zero, List.set_cons_succ]
        refine wpAnyH_done (by kernel_rfl) ?_ _
        go_wp2_with fail
        go_meet
        exact ⟨_, rfl, ⟨PZ, HZ1.out, (show _ < _ from LR3.out)⟩⟩
    · skip
      go_simp
      have P3 : Hid (PfS w #[.int .i64 pt, .bool fs, .string fh, .int .i64 fp, .bool us, .string uh, .int .i64 up, .string pa, .string qu, .string me, .slice ra rl rc, .bool wi, .string bo] (W0.drew.alloc (.cells #[.bool false, .string ⟨#[]⟩, .int .i64 0, .bool false, .string ⟨#[]⟩, .int .i64 0, .string ⟨#[]⟩, .string ⟨#[]⟩, .bool false, .string ⟨#[]⟩, .string ⟨#[]⟩, .int .i64 0] 50))) := (show PfS _ _ _ from HP.out).step ((Below.refl _ _).alloc (Nat.le_refl _) _)
      have R3 : Hid ((W0.drew.alloc (.cells #[.bool false, .string ⟨#[]⟩, .int .i64 0, .bool false, .string ⟨#[]⟩, .int .i64 0, .string ⟨#[]⟩, .string ⟨#[]⟩, .bool false, .string ⟨#[]⟩, .string ⟨#[]⟩, .int .i64 0] 50)).heap[W0.drew.heap.size]? = some (.cells #[.bool false, .string ⟨#[]⟩, .int .i64 0, .bool false, .string ⟨#[]⟩, .int .i64 0, .string ⟨#[]⟩, .string ⟨#[]⟩, .bool false, .string ⟨#[]⟩, .string ⟨#[]⟩, .int .i64 0] 50 (0, 0))) := heap_alloc_new _ _
      have LR3 : Hid (w.heap.size + 1 < W0.drew.heap.size) := (show PfS _ _ _ from HP.out).lt
      refine hKK.out _ _ (hbase _ (show PfS _ _ _ from P3.out)) (fun hHeld => ?_)
      clear hKK K
      try simp only [Act.put, List.setIfInBounds_toArray, List.set_cons_zero, List.set_cons_succ]
      refine wpAnyH_ready (rs := [2]) (by kernel_rfl) (by simp) ?_
      refine AllReadyH.cons (by rfl) (fun K hKK => ?_) AllReadyH.nil
      go_simp
      refine (fresh9_any fs fh fp h1 _).mono ?_
      rintro e w1 ⟨rfl, hbw1⟩
      have P1 : Hid (PfS w #[.int .i64 pt, .bool fs, .string fh, .int .i64 fp, .bool us, .string uh, .int .i64 up, .string pa, .string qu, .string me, .slice ra rl rc, .bool wi, .string bo] w1) := (show PfS _ _ _ from P3.out).step hbw1
      have Rw1 : Hid (w1.heap[W0.heap.size]? = some (.cells #[.bool false, .string ⟨#[]⟩, .int .i64 0, .bool false, .string ⟨#[]⟩, .int .i64 0, .string ⟨#[]⟩, .string ⟨#[]⟩, .bool false, .string ⟨#[]⟩, .string ⟨#[]⟩, .int .i64 0] 50 (0, 0))) := (show _ = _ from (hbw1.block _ (Array.getElem?_eq_some_iff.1 R3.out).1).trans R3.out)
      clear hbw1
      go_wp2_with fail
      refine hKK.out _ _ (hbase _ (show PfS _ _ _ from P1.out)) (fun hHeld => ?_)
      clear hKK K
      try simp only [Act.put, List.setIfInBounds_toArray, List.set_cons_zero, List.set_cons_succ]
      refine wpAnyH_ready (rs := [5]) (by kernel_rfl) (by simp) ?_
      refine AllReadyH.cons (by rfl) (fun K hKK => ?_) AllReadyH.nil
      go_simp
      refine (freshU9_any us uh up pa qu h2 h3 h4 _).mono ?_
      rintro e w2 ⟨rfl, hbw2⟩
      have P2 : Hid (PfS w #[.int .i64 pt, .bool fs, .string fh, .int .i64 fp, .bool us, .string uh, .int .i64 up, .string pa, .string qu, .string me, .slice ra rl rc, .bool wi, .string bo] w2) := (show PfS _ _ _ from P1.out).step hbw2
      have Rw2 : Hid (w2.heap[W0.heap.size]? = some (.cells #[.bool false, .string ⟨#[]⟩, .int .i64 0, .bool false, .string ⟨#[]⟩, .int .i64 0, .string ⟨#[]⟩, .string ⟨#[]⟩, .bool false, .string ⟨#[]⟩, .string ⟨#[]⟩, .int .i64 0] 50 (0, 0))) := (show _ = _ from (hbw2.block _ (Array.getElem?_eq_some_iff.1 Rw1.out).1).trans Rw1.out)
      clear hbw2
      go_wp2_with fail
      refine hKK.out _ _ (hbase _ (show PfS _ _ _ from P2.out)) (fun hHeld => ?_)
      clear hKK K
      try simp only [Act.put, List.setIfInBounds_toArray, List.set_cons_zero, List.set_cons_succ]
      refine takeH (i := 9) (d := some 25) (v := .agg p.vals.toArray) rfl rfl (by kernel_rfl) (by kernel_rfl) (by kernel_rfl) (fun _ _ _ h => h) (by rfl) ?_ (by assumption) ?_
      · intro w hSw; (try dsimp only at hSw); obtain ⟨q1, q2, q3, q4, q5, q6, q7, q8, q11, _⟩ := hSw; go_simp; rw [HPB.out]; rfl
      try simp only [Act.put, List.setIfInBounds_toArray, List.set_cons_zero, List.set_cons_succ]
      refine wpAnyH_ready (rs := [11]) (by kernel_rfl) (by simp) ?_
      refine AllReadyH.cons (by rfl) (fun K hKK => ?_) AllReadyH.nil
      obtain ⟨hst, z1, z2⟩ := store12 (show w2.heap[W0.heap.size]? = some (.cells #[.bool false, .string ⟨#[]⟩, .int .i64 0, .bool false, .string ⟨#[]⟩, .int .i64 0, .string ⟨#[]⟩, .string ⟨#[]⟩, .bool false, .string ⟨#[]⟩, .string ⟨#[]⟩, .int .i64 0] 50 (0, 0)) from Rw2.out) p.vals rfl (vals_one p)
      have PZ := (show PfS _ _ _ from P2.out).grown z2 (show _ < _ from LR3.out)
      have HZ1 : Hid (_ = _) := z1
      clear z1 z2
      go_simp
      refine hKK.out _ _ (hbase _ PZ) (fun hHeld => ?_)
      clear hKK K hst
      try simp only [Act.put, List.setIfInBounds_toArray, List.set_cons_zero, List.set_cons_succ]
      refine wpAnyH_done (by kernel_rfl) ?_ _
      go_wp2_with fail
      go_meet
      exact ⟨_, rfl, ⟨PZ, HZ1.out, (show _ < _ from LR3.out)⟩⟩
  case rest =>
  obtain ⟨gp, rfl, HC⟩ := hcut
  have hg := HC.out.1.row
  have HLT : Hid (w.heap.size + 1 < gp ∧ gp < wc.heap.size ∧ w.heap.size + 1 < wc.heap.size) := ⟨HC.out.2.2, (Array.getElem?_eq_some_iff.1 HC.out.2.1).1, (Array.getElem?_eq_some_iff.1 hg).1⟩
  have hpv : p.vals.toArray = #[.bool p.fs, .string p.fh, .int .i64 p.fp, .bool p.us, .string p.uh, .int .i64 p.up, .string p.pa, .string p.qu, .bool p.wi, .string ⟨#[]⟩, .string ⟨#[]⟩, .int .i64 p.un] := by rw [HPB.out]; rfl
  have HH0 : Hid (HoldX p gp (w.heap.size + 1) wc.heap.size [] wc) := ⟨by rw [← hpv]; exact HC.out.2.1, ⟨_, hg, ownX_nil p wc _⟩, HLT.out.2.1, HLT.out.2.2, (by have := HLT.out.1; omega), Nat.le_refl _⟩
  have HBW : Hid (Below w.heap.size w wc) := HC.out.1.box.bel
  have HADD : Hid (∀ (l : List (ByteArray × ByteArray)) (x y : ByteArray) (W : World), l.length ≤ 500 → HoldX p gp (w.heap.size + 1) wc.heap.size l W → Calls Tryz.prog 75 #[.string x, .string y, .pointer (some ⟨gp, 0, none⟩), .pointer (some ⟨w.heap.size + 1, 0, none⟩)] W fun e w' => e = .returned (.tuple #[]) ∧ HoldX p gp (w.heap.size + 1) wc.heap.size (addX l (x, y)) w' ∧ Below (w.heap.size + 1) W w') := fun l x y W hl h => add9_any p gp _ _ l hl x y W h
  clear hg hpv HC HLT hbase HP
  go_wp2
  go_loopw [29] (fun i wr => ∃ k : Nat, k ≤ mn ∧ i = .int .i64 k ∧ Hid (HoldX p gp (w.heap.size + 1) wc.heap.size (passM (ms.take k)) wr ∧ Below w.heap.size w wr)) (fun i _ => mn - (intOf i).toNat)
  case atStart => exact ⟨0, Nat.zero_le _, rfl, HH0.out, HBW.out⟩
  case round =>
    obtain ⟨k, hk, rfl, HI⟩ := hrel
    by_cases hlt : k < mn
    · have hltz : (k : Int) < (mn : Int) := by omega
      obtain ⟨x, hx⟩ : ∃ x, ms[k]? = some x := ⟨ms[k]'(by have := HM.out.2; omega), List.getElem?_eq_getElem _⟩
      have HXK : Hid (ms[k]? = some x) := hx
      obtain ⟨ha0, _⟩ := HM.out.1.lies (by omega)
      subst ha0
      have cx := (HM.out.1.below HI.out.2).cells k x hx
      have hcall := HADD.out (passM (ms.take k)) x ⟨#[]⟩ wr (by have := passM_len (ms.take k); rw [List.length_take] at this; omega) HI.out.1
      clear hx
      go_wp2_with fail
      refine hcall.mono ?_
      rintro e w4 ⟨rfl, h4, hb4⟩
      have HI4 : Hid (HoldX p gp (w.heap.size + 1) wc.heap.size (passM (ms.take (k + 1))) w4 ∧ Below w.heap.size w w4) := ⟨by have e4 := foldX_snoc mX [] HXK.out; unfold passM at h4 ⊢; rw [e4]; exact h4, HI.out.2.trans (hb4.mono (by omega))⟩
      clear hcall h4 hb4 cx
      go_wp2
      go_roundw
      case rel => exact ⟨k + 1, by omega, by go_num, HI4⟩
      case measure => simp [intOf]; omega
    · have hltz : ¬ (k : Int) < (mn : Int) := by omega
      have HI1 : Hid (HoldX p gp (w.heap.size + 1) wc.heap.size (passM ms) wr ∧ Below w.heap.size w wr) := by
        have := HI.out
        rw [List.take_of_length_le (by have := HM.out.2; omega)] at this
        exact this
      clear HI
      generalize hwx : wr = wx at HI1 ⊢
      clear hwx
      go_wp2
      go_loopw [39] (fun i wr => ∃ k : Nat, k ≤ hn ∧ i = .int .i64 k ∧ Hid (HoldX p gp (w.heap.size + 1) wc.heap.size (((hs.take k).map hX).foldl addX (passM ms)) wr ∧ Below w.heap.size w wr)) (fun i _ => hn - (intOf i).toNat)
      case atStart => exact ⟨0, Nat.zero_le _, rfl, HI1.out.1, HI1.out.2⟩
      case round =>
        obtain ⟨k, hk, rfl, HI⟩ := hrel
        by_cases hlt : k < hn
        · have hltz : (k : Int) < (hn : Int) := by omega
          obtain ⟨x, hx⟩ : ∃ x, hs[k]? = some x := ⟨hs[k]'(by have := HH.out.2; omega), List.getElem?_eq_getElem _⟩
          have HXK : Hid (hs[k]? = some x) := hx
          obtain ⟨ha0, _⟩ := HH.out.1.lies (by omega)
          subst ha0
          have cx := (HH.out.1.below HI.out.2).cells k x hx
          have hxz := HZ.out x (List.mem_of_getElem? hx)
          have HLN : Hid ((((hs.take k).map hX).foldl addX (passM ms)).length ≤ 500) := by
            show _ ≤ _
            have e1 := foldX_len (passM ms) ((hs.take k).map hX)
            have e2 := passM_len ms
            have e3 := HM.out.2
            rw [List.length_map, List.length_take] at e1
            omega
          obtain ⟨y, HY⟩ : ∃ y, Hid (bs (x.data.toList.map low) = y) := ⟨_, rfl⟩
          have hlow := lower_any x wr (by omega)
          rw [HY.out] at hlow
          clear hx hxz
          go_wp2_with fail
          refine hlow.mono ?_
          rintro e w4 ⟨rfl, hb4⟩
          have HI4 : Hid (HoldX p gp (w.heap.size + 1) wc.heap.size (((hs.take k).map hX).foldl addX (passM ms)) w4 ∧ Below w.heap.size w w4) := ⟨HI.out.1.below hb4, HI.out.2.trans (hb4.mono HI.out.2.size)⟩
          have hcall := HADD.out _ ⟨#[]⟩ y w4 HLN.out HI4.out.1
          clear hlow hb4 cx
          go_wp2_with fail
          refine hcall.mono ?_
          rintro e w5 ⟨rfl, h5, hb5⟩
          have HI5 : Hid (HoldX p gp (w.heap.size + 1) wc.heap.size (((hs.take (k + 1)).map hX).foldl addX (passM ms)) w5 ∧ Below w.heap.size w w5) := ⟨by rw [foldX_snoc hX (passM ms) HXK.out]; unfold hX; rw [HY.out]; exact h5, HI4.out.2.trans (hb5.mono (by omega))⟩
          clear hcall h5 hb5
          go_wp2
          go_roundw
          case rel => exact ⟨k + 1, by omega, by go_num, HI5⟩
          case measure => simp [intOf]; omega
        · have hltz : ¬ (k : Int) < (hn : Int) := by omega
          have HI2 : Hid (HoldX p gp (w.heap.size + 1) wc.heap.size (passL ms hs) wr ∧ Below w.heap.size w wr) := by
            have := HI.out
            rw [List.take_of_length_le (by have := HH.out.2; omega)] at this
            exact this
          clear HI
          obtain ⟨v, hv, hown⟩ := HI2.out.1.own
          have sv : wr.cell? ⟨w.heap.size + 1, 0, none⟩ = some v := cell_of hv
          have HOW : Hid (OwnX ⟨fs, fh, fp, us, uh, up, pa, qu, wi, ⟨#[]⟩, ⟨#[]⟩, un⟩ wr w.heap.size v (passL ms hs)) := by
            have := OwnK.mono hown (B' := w.heap.size) HBW.out.size
            rw [HPB.out] at this
            exact this
          clear hv hown
          go_wp2
          go_ret
          exact ⟨⟨v, rfl, HOW.out⟩, HI2.out.2⟩
end Go.Proofs.YtoblpjknnchlmabGreatDoor
