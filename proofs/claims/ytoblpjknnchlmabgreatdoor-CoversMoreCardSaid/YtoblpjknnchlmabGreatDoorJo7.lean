/- Texts of one claim, joined: each begins with what it proves. -/
import Derived.Test.YtoblpjknnchlmabGreatDoorJo5
import Derived.Test.YtoblpjknnchlmabGreatDoorJo1
import Derived.Test.YtoblpjknnchlmabGreatDoorJo3
import Derived.Test.YtoblpjknnchlmabGreatDoorJo6
import Derived.Test.YtoblpjknnchlmabGreatDoorJo4
import Derived.Deep.RegionHeld3
import Derived.RegionTactic
import Derived.Deep.Cut
import Derived.Deep.CutRange
import Derived.Deep.DeepCutAuto
import Derived.Deep.QuietTactic
import Derived.BigQuiet
import Derived.Deep.LoopGhost
import Derived.Deep.Onto
import Derived.Shelf.Spec.SlicesGrow
import Derived.Deep.Upon
/- An origin that shares nothing with another one, by the program. -/
namespace Go.Proofs.YtoblpjknnchlmabGreatDoor
open Go.RowKit
set_option linter.unusedVariables false

set_option maxRecDepth 100000 in
set_option maxHeartbeats 2000000 in
theorem fresh9_any (sec : Bool) (host : ByteArray) (port : Int) (ho : host.size ≤ 140737488355328) (w : World) :
    Calls Tryz.prog 73 #[.agg #[.bool sec, .string host, .int .i64 port]] w fun e w' => e = .returned (.agg #[.bool sec, .string host, .int .i64 port]) ∧ Below w.heap.size w w' := by
  have hb0 : Below w.heap.size w ((w.alloc (.cells #[.bool sec, .string host, .int .i64 port] 23)).alloc (.cells #[.bool false, .string ⟨#[]⟩, .int .i64 0] 23)) := ((Below.refl _ _).alloc (Nat.le_refl _) _).alloc (by simp) _
  have h1 : ((w.alloc (.cells #[.bool sec, .string host, .int .i64 port] 23)).alloc (.cells #[.bool false, .string ⟨#[]⟩, .int .i64 0] 23)).heap[w.heap.size]? = some (.cells #[.bool sec, .string host, .int .i64 port] 23 (0, 0)) := by
    rw [heap_alloc_old _ _ (by simp)]
    exact heap_alloc_new w _
  have h2 : ((w.alloc (.cells #[.bool sec, .string host, .int .i64 port] 23)).alloc (.cells #[.bool false, .string ⟨#[]⟩, .int .i64 0] 23)).heap[w.heap.size + 1]? = some (.cells #[.bool false, .string ⟨#[]⟩, .int .i64 0] 23 (0, 0)) := by
    have := heap_alloc_new (w.alloc (.cells #[.bool sec, .string host, .int .i64 port] 23)) (.cells #[.bool false, .string ⟨#[]⟩, .int .i64 0] 23)
    simpa using this
  have HW : Hid (Below w.heap.size w ((w.alloc (.cells #[.bool sec, .string host, .int .i64 port] 23)).alloc (.cells #[.bool false, .string ⟨#[]⟩, .int .i64 0] 23)) ∧ _ ∧ _) := ⟨hb0, h1, h2⟩
  clear hb0 h1 h2
  go_enter Tryz.func73, Tryz.ntmps73
  go_wp2_with fail
  refine (cloneS_any _ ho _).mono ?_
  rintro e w1 ⟨rfl, hb1⟩
  have HB : Hid (Below w.heap.size w w1 ∧ w1.heap[w.heap.size]? = some (.cells #[.bool sec, .string host, .int .i64 port] 23 (0, 0)) ∧ w1.heap[w.heap.size + 1]? = some (.cells #[.bool false, .string ⟨#[]⟩, .int .i64 0] 23 (0, 0))) :=
    ⟨HW.out.1.trans (hb1.mono HW.out.1.size), by rw [hb1.block _ (by simp; omega)]; exact HW.out.2.1, by rw [hb1.block _ (by simp)]; exact HW.out.2.2⟩
  clear hb1 HW
  have c0 := cell_of (i := 0) HB.out.2.1
  have c1 := cell_of (i := 1) HB.out.2.1
  have c2 := cell_of (i := 2) HB.out.2.1
  have d0 := cell_of (i := 0) HB.out.2.2
  have d1 := cell_of (i := 1) HB.out.2.2
  have d2 := cell_of (i := 2) HB.out.2.2
  have f0 := free_of HB.out.2.1
  have f1 := free_of HB.out.2.2
  have s1 : w1.setCell ⟨w.heap.size, 1, none⟩ (.string host) = w1 := setCell_same HB.out.2.1 rfl
  simp only [List.getElem?_toArray, List.getElem?_cons_zero, List.getElem?_cons_succ] at c0 c1 c2 d0 d1 d2
  go_wp2
  obtain ⟨z1, z2⟩ := setAll [.bool sec, .string host, .int .i64 port] HB.out.2.2 rfl
  simp only [World.setCells, Nat.reduceAdd] at z1 z2
  have e0 := cell_of (i := 0) z1
  have e1 := cell_of (i := 1) z1
  have e2 := cell_of (i := 2) z1
  simp only [List.getElem?_toArray, List.getElem?_cons_zero, List.getElem?_cons_succ] at e0 e1 e2
  exact bodyPost_ret (v := .agg #[.bool sec, .string host, .int .i64 port]) (by simp [results, Tryz.f73, go_sem, e0, e1, e2]) rfl ⟨rfl, HB.out.1.grown z2 HB.out.1.size (fun i hi => by injection hi with hi; omega)⟩
end Go.Proofs.YtoblpjknnchlmabGreatDoor

/- A URL that shares nothing with another one, by the program. -/
namespace Go.Proofs.YtoblpjknnchlmabGreatDoor
open Go.RowKit
set_option linter.unusedVariables false

set_option maxRecDepth 100000 in
set_option maxHeartbeats 4000000 in
theorem freshU9_any (sec : Bool) (host : ByteArray) (port : Int) (pa qu : ByteArray) (h1 : host.size ≤ 140737488355328) (h2 : pa.size ≤ 140737488355328) (h3 : qu.size ≤ 140737488355328) (w : World) :
    Calls Tryz.prog 74 #[.agg #[.bool sec, .string host, .int .i64 port, .string pa, .string qu]] w fun e w' => e = .returned (.agg #[.bool sec, .string host, .int .i64 port, .string pa, .string qu]) ∧ Below w.heap.size w w' := by
  have hd := BoxG.of ((boxF_start w #[.bool sec, .string host, .int .i64 port, .string pa, .string qu] #[.bool false, .string ⟨#[]⟩, .int .i64 0, .string ⟨#[]⟩, .string ⟨#[]⟩] 25).below (Below.refl _ _).drew)
  have hQ : ((w.alloc (.cells #[.bool sec, .string host, .int .i64 port, .string pa, .string qu] 25)).alloc (.cells #[.bool false, .string ⟨#[]⟩, .int .i64 0, .string ⟨#[]⟩, .string ⟨#[]⟩] 25)).drew.cell? ⟨w.heap.size, 0, none⟩ = some (.bool sec) ∧ ((w.alloc (.cells #[.bool sec, .string host, .int .i64 port, .string pa, .string qu] 25)).alloc (.cells #[.bool false, .string ⟨#[]⟩, .int .i64 0, .string ⟨#[]⟩, .string ⟨#[]⟩] 25)).drew.cell? ⟨w.heap.size, 1, none⟩ = some (.string host) ∧ ((w.alloc (.cells #[.bool sec, .string host, .int .i64 port, .string pa, .string qu] 25)).alloc (.cells #[.bool false, .string ⟨#[]⟩, .int .i64 0, .string ⟨#[]⟩, .string ⟨#[]⟩] 25)).drew.cell? ⟨w.heap.size, 2, none⟩ = some (.int .i64 port) ∧ ((w.alloc (.cells #[.bool sec, .string host, .int .i64 port, .string pa, .string qu] 25)).alloc (.cells #[.bool false, .string ⟨#[]⟩, .int .i64 0, .string ⟨#[]⟩, .string ⟨#[]⟩] 25)).drew.cell? ⟨w.heap.size, 3, none⟩ = some (.string pa) ∧ ((w.alloc (.cells #[.bool sec, .string host, .int .i64 port, .string pa, .string qu] 25)).alloc (.cells #[.bool false, .string ⟨#[]⟩, .int .i64 0, .string ⟨#[]⟩, .string ⟨#[]⟩] 25)).drew.cell? ⟨w.heap.size, 4, none⟩ = some (.string qu) ∧ Hid (BoxG w #[.bool sec, .string host, .int .i64 port, .string pa, .string qu] 5 25 ((w.alloc (.cells #[.bool sec, .string host, .int .i64 port, .string pa, .string qu] 25)).alloc (.cells #[.bool false, .string ⟨#[]⟩, .int .i64 0, .string ⟨#[]⟩, .string ⟨#[]⟩] 25)).drew) := ⟨hd.at 0 rfl, hd.at 1 rfl, hd.at 2 rfl, hd.at 3 rfl, hd.at 4 rfl, hd⟩
  clear hd
  go_enter Tryz.func74, Tryz.ntmps74
  go_upto_region 1 with fail
  generalize hW0 : ((w.alloc (.cells #[.bool sec, .string host, .int .i64 port, .string pa, .string qu] 25)).alloc (.cells #[.bool false, .string ⟨#[]⟩, .int .i64 0, .string ⟨#[]⟩, .string ⟨#[]⟩] 25)) = W0 at hQ ⊢
  clear hW0
  go_region_held3 (fun W => W.cell? ⟨w.heap.size, 0, none⟩ = some (.bool sec) ∧ W.cell? ⟨w.heap.size, 1, none⟩ = some (.string host) ∧ W.cell? ⟨w.heap.size, 2, none⟩ = some (.int .i64 port) ∧ W.cell? ⟨w.heap.size, 3, none⟩ = some (.string pa) ∧ W.cell? ⟨w.heap.size, 4, none⟩ = some (.string qu) ∧ Hid (BoxG w #[.bool sec, .string host, .int .i64 port, .string pa, .string qu] 5 25 W)) (with_reducible assumption) (first
    | (go_at_call 31; refine (cloneS_any qu h3 _).mono ?_; rintro e w3 ⟨rfl, hb3⟩; have H3 := (show BoxG _ _ _ _ _ from hQ2.2.2.2.2.2.out).below hb3; have hQ3 : w3.cell? ⟨w.heap.size, 0, none⟩ = some (.bool sec) ∧ w3.cell? ⟨w.heap.size, 1, none⟩ = some (.string host) ∧ w3.cell? ⟨w.heap.size, 2, none⟩ = some (.int .i64 port) ∧ w3.cell? ⟨w.heap.size, 3, none⟩ = some (.string pa) ∧ w3.cell? ⟨w.heap.size, 4, none⟩ = some (.string qu) ∧ Hid (BoxG w #[.bool sec, .string host, .int .i64 port, .string pa, .string qu] 5 25 w3) := ⟨H3.at 0 rfl, H3.at 1 rfl, H3.at 2 rfl, H3.at 3 rfl, H3.at 4 rfl, H3⟩; have f3 := H3.frees; obtain ⟨y0, d0⟩ := H3.some 0 (by decide); obtain ⟨y1, d1⟩ := H3.some 1 (by decide); obtain ⟨y2, d2⟩ := H3.some 2 (by decide); obtain ⟨y3, d3⟩ := H3.some 3 (by decide); obtain ⟨y4, d4⟩ := H3.some 4 (by decide); have H4 := H3.store [.bool sec, .string host, .int .i64 port, .string pa, .string qu] rfl; simp only [World.setCells, Nat.reduceAdd, Nat.zero_add] at H4; have HZ : Hid ((((((w3.setCell ⟨w.heap.size + 1, 0, none⟩ (.bool sec)).setCell ⟨w.heap.size + 1, 1, none⟩ (.string host)).setCell ⟨w.heap.size + 1, 2, none⟩ (.int .i64 port)).setCell ⟨w.heap.size + 1, 3, none⟩ (.string pa)).setCell ⟨w.heap.size + 1, 4, none⟩ (.string qu)).heap[w.heap.size + 1]? = some (.cells #[.bool sec, .string host, .int .i64 port, .string pa, .string qu] 25 (0, 0))) := H4.2; have hQ4 : (((((w3.setCell ⟨w.heap.size + 1, 0, none⟩ (.bool sec)).setCell ⟨w.heap.size + 1, 1, none⟩ (.string host)).setCell ⟨w.heap.size + 1, 2, none⟩ (.int .i64 port)).setCell ⟨w.heap.size + 1, 3, none⟩ (.string pa)).setCell ⟨w.heap.size + 1, 4, none⟩ (.string qu)).cell? ⟨w.heap.size, 0, none⟩ = some (.bool sec) ∧ (((((w3.setCell ⟨w.heap.size + 1, 0, none⟩ (.bool sec)).setCell ⟨w.heap.size + 1, 1, none⟩ (.string host)).setCell ⟨w.heap.size + 1, 2, none⟩ (.int .i64 port)).setCell ⟨w.heap.size + 1, 3, none⟩ (.string pa)).setCell ⟨w.heap.size + 1, 4, none⟩ (.string qu)).cell? ⟨w.heap.size, 1, none⟩ = some (.string host) ∧ (((((w3.setCell ⟨w.heap.size + 1, 0, none⟩ (.bool sec)).setCell ⟨w.heap.size + 1, 1, none⟩ (.string host)).setCell ⟨w.heap.size + 1, 2, none⟩ (.int .i64 port)).setCell ⟨w.heap.size + 1, 3, none⟩ (.string pa)).setCell ⟨w.heap.size + 1, 4, none⟩ (.string qu)).cell? ⟨w.heap.size, 2, none⟩ = some (.int .i64 port) ∧ (((((w3.setCell ⟨w.heap.size + 1, 0, none⟩ (.bool sec)).setCell ⟨w.heap.size + 1, 1, none⟩ (.string host)).setCell ⟨w.heap.size + 1, 2, none⟩ (.int .i64 port)).setCell ⟨w.heap.size + 1, 3, none⟩ (.string pa)).setCell ⟨w.heap.size + 1, 4, none⟩ (.string qu)).cell? ⟨w.heap.size, 3, none⟩ = some (.string pa) ∧ (((((w3.setCell ⟨w.heap.size + 1, 0, none⟩ (.bool sec)).setCell ⟨w.heap.size + 1, 1, none⟩ (.string host)).setCell ⟨w.heap.size + 1, 2, none⟩ (.int .i64 port)).setCell ⟨w.heap.size + 1, 3, none⟩ (.string pa)).setCell ⟨w.heap.size + 1, 4, none⟩ (.string qu)).cell? ⟨w.heap.size, 4, none⟩ = some (.string qu) ∧ Hid (BoxG w #[.bool sec, .string host, .int .i64 port, .string pa, .string qu] 5 25 (((((w3.setCell ⟨w.heap.size + 1, 0, none⟩ (.bool sec)).setCell ⟨w.heap.size + 1, 1, none⟩ (.string host)).setCell ⟨w.heap.size + 1, 2, none⟩ (.int .i64 port)).setCell ⟨w.heap.size + 1, 3, none⟩ (.string pa)).setCell ⟨w.heap.size + 1, 4, none⟩ (.string qu))) := ⟨H4.1.at 0 rfl, H4.1.at 1 rfl, H4.1.at 2 rfl, H4.1.at 3 rfl, H4.1.at 4 rfl, H4.1⟩; clear H4; clear H3 hb3)
    | (go_at_call 31; refine (cloneS_any pa h2 _).mono ?_; rintro e w2 ⟨rfl, hb2⟩; have H2 := (show BoxG _ _ _ _ _ from hQ1.2.2.2.2.2.out).below hb2; have hQ2 : w2.cell? ⟨w.heap.size, 0, none⟩ = some (.bool sec) ∧ w2.cell? ⟨w.heap.size, 1, none⟩ = some (.string host) ∧ w2.cell? ⟨w.heap.size, 2, none⟩ = some (.int .i64 port) ∧ w2.cell? ⟨w.heap.size, 3, none⟩ = some (.string pa) ∧ w2.cell? ⟨w.heap.size, 4, none⟩ = some (.string qu) ∧ Hid (BoxG w #[.bool sec, .string host, .int .i64 port, .string pa, .string qu] 5 25 w2) := ⟨H2.at 0 rfl, H2.at 1 rfl, H2.at 2 rfl, H2.at 3 rfl, H2.at 4 rfl, H2⟩; clear H2 hb2)
    | (go_at_call 73; refine (fresh9_any sec host port h1 _).mono ?_; rintro e w1 ⟨rfl, hb1⟩; have H1 := (show BoxG _ _ _ _ _ from hQ.2.2.2.2.2.out).below hb1; have hQ1 : w1.cell? ⟨w.heap.size, 0, none⟩ = some (.bool sec) ∧ w1.cell? ⟨w.heap.size, 1, none⟩ = some (.string host) ∧ w1.cell? ⟨w.heap.size, 2, none⟩ = some (.int .i64 port) ∧ w1.cell? ⟨w.heap.size, 3, none⟩ = some (.string pa) ∧ w1.cell? ⟨w.heap.size, 4, none⟩ = some (.string qu) ∧ Hid (BoxG w #[.bool sec, .string host, .int .i64 port, .string pa, .string qu] 5 25 w1) := ⟨H1.at 0 rfl, H1.at 1 rfl, H1.at 2 rfl, H1.at 3 rfl, H1.at 4 rfl, H1⟩; clear H1 hb1))
  go_wp2_with fail
  exact bodyPost_ret (v := .agg #[.bool sec, .string host, .int .i64 port, .string pa, .string qu]) (res_cell rfl rfl Tryz.isAgg25 Tryz.sizeOf25 rfl HZ.out) rfl ⟨rfl, (show BoxG _ _ _ _ _ from hQ4.2.2.2.2.2.out).bel⟩
end Go.Proofs.YtoblpjknnchlmabGreatDoor

/- A region driven by hand: an operation taken first. -/
namespace Go.Proofs.YtoblpjknnchlmabGreatDoor
open Go.RowKit

section
variable {P : Program} {ops : Array Oper} {Q : Exit → Act → World → Prop} {md : Region.Mode} {S : World → Prop}
theorem takeH {i : Nat} {oi : Oper} {d : Option Tmp} {v : Value} {fuel : Nat} {listed : Array Bool} {a : Act} {w : World} (hi : ops[i]? = some oi) (hd : oi.dst = d)
    (hs : Region.noSelect ops = true) (hf : Region.free md ops listed i = true) (hr : (Region.ready md ops listed).contains i = true)
    (hQ : ∀ c a w, Q (.panic c) (a.put oi.dst v) w → Q (.panic c) a w) (hw : Region.wanted oi (yielded ops a.tmps) = true) (hy : ∀ w, S w → (execOp a.eval oi).run P w = .ok (.value v) w) (hS : S w)
    (h : wpAnyH P md ops Q S fuel (listed.setIfInBounds i true) (a.put d v) w) : wpAnyH P md ops Q S (fuel + 1) listed a w := by
  subst hd
  exact wpAnyH_take hi hs hf hr hQ (Or.inl ⟨hw, hy⟩) hS h
theorem skipH {i : Nat} {oi : Oper} {d : Option Tmp} {fuel : Nat} {listed : Array Bool} {a : Act} {w : World} (hi : ops[i]? = some oi) (hd : oi.dst = d)
    (hs : Region.noSelect ops = true) (hf : Region.free md ops listed i = true) (hr : (Region.ready md ops listed).contains i = true)
    (hQ : ∀ c a w, Q (.panic c) (a.put oi.dst undef) w → Q (.panic c) a w) (hw : Region.wanted oi (yielded ops a.tmps) = false) (hS : S w)
    (h : wpAnyH P md ops Q S fuel (listed.setIfInBounds i true) (a.put d undef) w) : wpAnyH P md ops Q S (fuel + 1) listed a w := by
  subst hd
  exact wpAnyH_take hi hs hf hr hQ (Or.inr ⟨hw, rfl⟩) hS h
end
end Go.Proofs.YtoblpjknnchlmabGreatDoor

/- passesFor, by the program. -/
namespace Go.Proofs.YtoblpjknnchlmabGreatDoor
open Go.RowKit
set_option linter.unusedVariables false
set_option linter.unusedSimpArgs false

/-- The request's block and the passes' one. -/
structure PfS (w : World) (x : Array Value) (W : World) : Prop where
  box : BoxQ 28 w x W
  row : W.heap[w.heap.size + 1]? = some (.cells #[.slice none 0 0] 46 (0, 0))
theorem PfS.step {w W W' : World} {x : Array Value} (h : PfS w x W) (hb : Below W.heap.size W W') : PfS w x W' :=
  ⟨h.box.step hb, by rw [hb.block _ (Array.getElem?_eq_some_iff.1 h.row).1]; exact h.row⟩
theorem PfS.new (w : World) (x : Array Value) : PfS w x ((w.alloc (.cells x 28)).alloc (.cells #[.slice none 0 0] 46)) := by
  refine ⟨(BoxQ.new 28 w x).step ((Below.refl _ _).alloc (Nat.le_refl _) _), ?_⟩
  have := heap_alloc_new (w.alloc (.cells x 28)) (.cells #[.slice none 0 0] 46)
  simpa using this
theorem PfS.grown {w W W' : World} {x : Array Value} {g : Nat} (h : PfS w x W) (hg : W.grownBy W' (some g)) (hl : w.heap.size + 1 < g) : PfS w x W' := by
  have h1 : w.heap.size + 1 < W.heap.size := (Array.getElem?_eq_some_iff.1 h.row).1
  refine ⟨⟨h.box.bel.grown hg h.box.bel.size (fun i hi => by injection hi with hi; omega), ?_⟩, ?_⟩
  · rw [hg.block _ (by omega) (by intro e; injection e with e; omega)]
    exact h.box.row
  · rw [hg.block _ h1 (by intro e; injection e with e; omega)]
    exact h.row
theorem store12 {W : World} {g : Nat} {y : Array Value} {T : TypeId} (h : W.heap[g]? = some (.cells y T (0, 0))) (x : List Value) (hs : y.size = x.length) (h1 : ∀ u ∈ x, u.oneCell' = true) :
    Sem.run Tryz.prog (storeCells ⟨g, 0, none⟩ x 0) W = .ok () (W.setCells g 0 x) ∧ (W.setCells g 0 x).heap[g]? = some (.cells x.toArray T (0, 0)) ∧ W.grownBy (W.setCells g 0 x) (some g) := by
  have hr := run_storeCells_cells (P := Tryz.prog) g 0 x 0 W (fun j hj => by
    rw [Nat.add_zero, Nat.zero_add, cell_of h, Array.getElem?_eq_getElem (by omega)]
    rfl) (fun j _ => free_of h _) h1
  rw [Nat.add_zero] at hr
  exact ⟨hr, setAll x h hs⟩
theorem PfS.lt {w W : World} {x : Array Value} (h : PfS w x W) : w.heap.size + 1 < W.heap.size := (Array.getElem?_eq_some_iff.1 h.row).1
set_option maxRecDepth 100000 in
set_option maxHeartbeats 8000000 in
theorem passesFor9_any (pt fp up : Int) (fs us wi : Bool) (fh uh pa qu me bo : ByteArray) (ra : Option Addr) (rl rc : Nat) (h1 : fh.size ≤ 140737488355328) (h2 : uh.size ≤ 140737488355328) (h3 : pa.size ≤ 140737488355328) (h4 : qu.size ≤ 140737488355328) (un : Int)
    (ms hs : List ByteArray) (hms : ms.length ≤ 100) (hhs : hs.length ≤ 100) (hz : ∀ x ∈ hs, x.size ≤ 20000) (ma ha : Option Addr) (mn mc mb mo hn hc hb ho : Nat) (w : World) (hm : Strs w ma mn mb mo ms) (hh : Strs w ha hn hb ho hs) :
    Calls Tryz.prog 43 #[.agg #[.int .i64 pt, .bool fs, .string fh, .int .i64 fp, .bool us, .string uh, .int .i64 up, .string pa, .string qu, .string me, .slice ra rl rc, .bool wi, .string bo], .int .i64 un, .slice ma mn mc, .slice ha hn hc] w fun e w' => (∃ v, e = .returned v ∧ OwnX ⟨fs, fh, fp, us, uh, up, pa, qu, wi, ⟨#[]⟩, ⟨#[]⟩, un⟩ w' w.heap.size v (passL ms hs)) ∧ Below w.heap.size w w' := by
  have HM : Hid (Strs w ma mn mb mo ms ∧ ms.length = mn) := ⟨hm, hm.len_eq⟩
  have HH : Hid (Strs w ha hn hb ho hs ∧ hs.length = hn) := ⟨hh, hh.len_eq⟩
  have HZ : Hid (∀ x ∈ hs, x.size ≤ 20000) := hz
  have hmn : mn ≤ 100 := by rw [← hm.len_eq]; exact hms
  have hhn : hn ≤ 100 := by rw [← hh.len_eq]; exact hhs
  have hP := PfS.new w #[.int .i64 pt, .bool fs, .string fh, .int .i64 fp, .bool us, .string uh, .int .i64 up, .string pa, .string qu, .string me, .slice ra rl rc, .bool wi, .string bo]
  have hen := enters_at Tryz.func75 (by kernel_rfl) rfl
  obtain ⟨p, HPB⟩ : ∃ p : PsV, Hid (p = ⟨fs, fh, fp, us, uh, up, pa, qu, wi, ⟨#[]⟩, ⟨#[]⟩, un⟩) := ⟨_, rfl⟩
  clear hm hh hz hms hhs
  go_enter Tryz.func43, Tryz.ntmps43
  go_upto_region 2 with fail
  generalize hW0 : ((w.alloc (.cells #[.int .i64 pt, .bool fs, .string fh, .int .i64 fp, .bool us, .string uh, .int .i64 up, .string pa, .string qu, .string me, .slice ra rl rc, .bool wi, .string bo] 28)).alloc (.cells #[.slice none 0 0] 46)) = W0 at hP ⊢
  clear hW0
  have HP : Hid (PfS w #[.int .i64 pt, .bool fs, .string fh, .int .i64 fp, .bool us, .string uh, .int .i64 up, .string pa, .string qu, .string me, .slice ra rl rc, .bool wi, .string bo] W0.drew) := hP.step (Below.refl _ _).drew
  clear hP
  have hbase : ∀ W, PfS w #[.int .i64 pt, .bool fs, .string fh, .int .i64 fp, .bool us, .string uh, .int .i64 up, .string pa, .string qu, .string me, .slice ra rl rc, .bool wi, .string bo] W → W.cell? ⟨w.heap.size, 1, none⟩ = some (.bool fs) ∧ W.cell? ⟨w.heap.size, 2, none⟩ = some (.string fh) ∧ W.cell? ⟨w.heap.size, 3, none⟩ = some (.int .i64 fp) ∧ W.cell? ⟨w.heap.size, 4, none⟩ = some (.bool us) ∧ W.cell? ⟨w.heap.size, 5, none⟩ = some (.string uh) ∧ W.cell? ⟨w.heap.size, 6, none⟩ = some (.int .i64 up) ∧ W.cell? ⟨w.heap.size, 7, none⟩ = some (.string pa) ∧ W.cell? ⟨w.heap.size, 8, none⟩ = some (.string qu) ∧ W.cell? ⟨w.heap.size, 11, none⟩ = some (.bool wi) ∧ Hid (PfS w #[.int .i64 pt, .bool fs, .string fh, .int .i64 fp, .bool us, .string uh, .int .i64 up, .string pa, .string qu, .string me, .slice ra rl rc, .bool wi, .string bo] W) := fun W h => ⟨(PfS.box h).at 1 _ rfl, (PfS.box h).at 2 _ rfl, (PfS.box h).at 3 _ rfl, (PfS.box h).at 4 _ rfl, (PfS.box h).at 5 _ rfl, (PfS.box h).at 6 _ rfl, (PfS.box h).at 7 _ rfl, (PfS.box h).at 8 _ rfl, (PfS.box h).at 11 _ rfl, h⟩
  go_cut [10] (fun v wc => ∃ gp : Nat, v = .pointer (some ⟨gp, 0, none⟩) ∧ Hid (PfS w #[.int .i64 pt, .bool fs, .string fh, .int .i64 fp, .bool us, .string uh, .int .i64 up, .string pa, .string qu, .string me, .slice ra rl rc, .bool wi, .string bo] wc ∧ wc.heap[gp]? = some (.cells p.vals.toArray 50 (0, 0)) ∧ w.heap.size + 1 < gp))
  case first =>
    refine wp_region_held_drew (S := fun W => W.cell? ⟨w.heap.size, 1, none⟩ = some (.bool fs) ∧ W.cell? ⟨w.heap.size, 2, none⟩ = some (.string fh) ∧ W.cell? ⟨w.heap.size, 3, none⟩ = some (.int .i64 fp) ∧ W.cell? ⟨w.heap.size, 4, none⟩ = some (.bool us) ∧ W.cell? ⟨w.heap.size, 5, none⟩ = some (.string uh) ∧ W.cell? ⟨w.heap.size, 6, none⟩ = some (.int .i64 up) ∧ W.cell? ⟨w.heap.size, 7, none⟩ = some (.string pa) ∧ W.cell? ⟨w.heap.size, 8, none⟩ = some (.string qu) ∧ W.cell? ⟨w.heap.size, 11, none⟩ = some (.bool wi) ∧ Hid (PfS w #[.int .i64 pt, .bool fs, .string fh, .int .i64 fp, .bool us, .string uh, .int .i64 up, .string pa, .string qu, .string me, .slice ra rl rc, .bool wi, .string bo] W)) (by kernel_rfl) (hbase _ (show PfS _ _ _ from HP.out)) (fun hHeld => ?_)
    refine takeH (i := 0) (d := some 16) (v := ?_) rfl rfl (by kernel_rfl) (by kernel_rfl) (by kernel_rfl) (fun _ _ _ h => h) (by rfl) ?_ (by assumption) ?_
    rotate_left
    · intro w hSw; (try dsimp only at hSw); obtain ⟨q1, q2, q3, q4, q5, q6, q7, q8, q11, _⟩ := hSw; go_simp; with_reducible rfl
    try simp only [Act.put, List.setIfInBounds_toArray, List.set_cons_zero, List.set_cons_succ]
    refine takeH (i := 1) (d := some 17) (v := ?_) rfl rfl (by kernel_rfl) (by kernel_rfl) (by kernel_rfl) (fun _ _ _ h => h) (by rfl) ?_ (by assumption) ?_
    rotate_left
    · intro w hSw; (try dsimp only at hSw); obtain ⟨q1, q2, q3, q4, q5, q6, q7, q8, q11, _⟩ := hSw; go_simp; with_reducible rfl
    try simp only [Act.put, List.setIfInBounds_toArray, List.set_cons_zero, List.set_cons_succ]
    refine takeH (i := 3) (d := some 19) (v := ?_) rfl rfl (by kernel_rfl) (by kernel_rfl) (by kernel_rfl) (fun _ _ _ h => h) (by rfl) ?_ (by assumption) ?_
    rotate_left
    · intro w hSw; (try dsimp only at hSw); obtain ⟨q1, q2, q3, q4, q5, q6, q7, q8, q11, _⟩ := hSw; go_simp; with_reducible rfl
    try simp only [Act.put, List.setIfInBounds_toArray, List.set_cons_zero, List.set_cons_succ]
    refine takeH (i := 4) (d := some 20) (v := ?_) rfl rfl (by kernel_rfl) (by kernel_rfl) (by kernel_rfl) (fun _ _ _ h => h) (by rfl) ?_ (by assumption) ?_
    rotate_left
    · intro w hSw; (try dsimp only at hSw); obtain ⟨q1, q2, q3, q4, q5, q6, q7, q8, q11, _⟩ := hSw; go_simp; with_reducible rfl
    try simp only [Act.put, List.setIfInBounds_toArray, List.set_cons_zero, List.set_cons_succ]
    refine takeH (i := 6) (d := some 22) (v := ?_) rfl rfl (by kernel_rfl) (by kernel_rfl) (by kernel_rfl) (fun _ _ _ h => h) (by rfl) ?_ (by assumption) ?_
    rotate_left
    · intro w hSw; (try dsimp only at hSw); obtain ⟨q1, q2, q3, q4, q5, q6, q7, q8, q11, _⟩ := hSw; go_simp; with_reducible rfl
    try simp only [Act.put, List.setIfInBounds_toArray, List.set_cons_zero, List.set_cons_succ]
    refine takeH (i := 7) (d := some 23) (v := ?_) rfl rfl (by kernel_rfl) (by kernel_rfl) (by kernel_rfl) (fun _ _ _ h => h) (by rfl) ?_ (by assumption) ?_
    rotate_left
    · intro w hSw; (try dsimp only at hSw); obtain ⟨q1, q2, q3, q4, q5, q6, q7, q8, q11, _⟩ := hSw; go_simp; with_reducible rfl
    try simp only [Act.put, List.setIfInBounds_toArray, List.set_cons_zero, List.set_cons_succ]
    refine takeH (i := 8) (d := some 24) (v := ?_) rfl rfl (by kernel_rfl) (by kernel_rfl) (by kernel_rfl) (fun _ _ _ h => h) (by rfl) ?_ (by assumption) ?_
    rotate_left
    · intro w hSw; (try dsimp only at hSw); obtain ⟨q1, q2, q3, q4, q5, q6, q7, q8, q11, _⟩ := hSw; go_simp; with_reducible rfl
    try simp only [Act.put, List.setIfInBounds_toArray, List.set_cons_zero, List.set_cons_succ]
    refine wpAnyH_ready (rs := [2, 10]) (by kernel_rfl) (by simp) ?_
    refine AllReadyH.cons (by rfl) (fun K hKK => ?_) (AllReadyH.cons (by rfl) (fun K hKK => ?_) AllReadyH.nil)
    · skip
      go_simp
      refine (fresh9_any fs fh fp h1 _).mono ?_
      rintro e w1 ⟨rfl, hbw1⟩
      have P1 : Hid (PfS w #[.int .i64 pt, .bool fs, .string fh, .int .i64 fp, .bool us, .string uh, .int .i64 up, .string pa, .string qu, .string me, .slice ra rl rc, .bool wi, .string bo] w1) := (show PfS _ _ _ from HP.out).step hbw1
      clear hbw1
      go_wp2_with fail
      refine hKK.out _ _ (hbase _ (show PfS _ _ _ from P1.out)) (fun hHeld => ?_)
      clear hKK K
      try simp only [Act.put, List.setIfInBounds_toArray, List.set_cons_zero, List.set_cons_succ]
      refine wpAnyH_ready (rs := [5, 10]) (by kernel_rfl) (by simp) ?_
      refine AllReadyH.cons (by rfl) (fun K hKK => ?_) (AllReadyH.cons (by rfl) (fun K hKK => ?_) AllReadyH.nil)
      · skip
        go_simp
        refine (freshU9_any us uh up pa qu h2 h3 h4 _).mono ?_
        rintro e w2 ⟨rfl, hbw2⟩
        have P2 : Hid (PfS w #[.int .i64 pt, .bool fs, .string fh, .int .i64 fp, .bool us, .string uh, .int .i64 up, .string pa, .string qu, .string me, .slice ra rl rc, .bool wi, .string bo] w2) := (show PfS _ _ _ from P1.out).step hbw2
        clear hbw2
        go_wp2_with fail
        refine hKK.out _ _ (hbase _ (show PfS _ _ _ from P2.out)) (fun hHeld => ?_)
        clear hKK K
        try simp only [Act.put, List.setIfInBounds_toArray, List.set_cons_zero, List.set_cons_succ]
        refine takeH (i := 9) (d := some 25) (v := .agg p.vals.toArray) rfl rfl (by kernel_rfl) (by kernel_rfl) (by kernel_rfl) (fun _ _ _ h => h) (by rfl) ?_ (by assumption) ?_
        · intro w hSw; (try dsimp only at hSw); obtain ⟨q1, q2, q3, q4, q5, q6, q7, q8, q11, _⟩ := hSw; go_simp; rw [HPB.out]; rfl
        try simp only [Act.put, List.setIfInBounds_toArray, List.set_cons_zero, List.set_cons_succ]
        refine wpAnyH_ready (rs := [10]) (by kernel_rfl) (by simp) ?_
        refine AllReadyH.cons (by rfl) (fun K hKK => ?_) AllReadyH.nil
        go_simp
        have P3 : Hid (PfS w #[.int .i64 pt, .bool fs, .string fh, .int .i64 fp, .bool us, .string uh, .int .i64 up, .string pa, .string qu, .string me, .slice ra rl rc, .bool wi, .string bo] (w2.alloc (.cells #[.bool false, .string ⟨#[]⟩, .int .i64 0, .bool false, .string ⟨#[]⟩, .int .i64 0, .string ⟨#[]⟩, .string ⟨#[]⟩, .bool false, .string ⟨#[]⟩, .string ⟨#[]⟩, .int .i64 0] 50))) := (show PfS _ _ _ from P2.out).step ((Below.refl _ _).alloc (Nat.le_refl _) _)
        have R3 : Hid ((w2.alloc (.cells #[.bool false, .string ⟨#[]⟩, .int .i64 0, .bool false, .string ⟨#[]⟩, .int .i64 0, .string ⟨#[]⟩, .string ⟨#[]⟩, .bool false, .string ⟨#[]⟩, .string ⟨#[]⟩, .int .i64 0] 50)).heap[w2.heap.size]? = some (.cells #[.bool false, .string ⟨#[]⟩, .int .i64 0, .bool false, .string ⟨#[]⟩, .int .i64 0, .string ⟨#[]⟩, .string ⟨#[]⟩, .bool false, .string ⟨#[]⟩, .string ⟨#[]⟩, .int .i64 0] 50 (0, 0))) := heap_alloc_new _ _
        have LR3 : Hid (w.heap.size + 1 < w2.heap.size) := (show PfS _ _ _ from P2.out).lt
        refine hKK.out _ _ (hbase _ (show PfS _ _ _ from P3.out)) (fun hHeld => ?_)
        clear hKK K
        try simp only [Act.put, List.setIfInBounds_toArray, List.set_cons_zero, List.set_cons_succ]
        refine wpAnyH_ready (rs := [11]) (by kernel_rfl) (by simp) ?_
        refine AllReadyH.cons (by rfl) (fun K hKK => ?_) AllReadyH.nil
        obtain ⟨hst, z1, z2⟩ := store12 (show (w2.alloc (.cells #[.bool false, .string ⟨#[]⟩, .int .i64 0, .bool false, .string ⟨#[]⟩, .int .i64 0, .string ⟨#[]⟩, .string ⟨#[]⟩, .bool false, .string ⟨#[]⟩, .string ⟨#[]⟩, .int .i64 0] 50)).heap[w2.heap.size]? = some (.cells #[.bool false, .string ⟨#[]⟩, .int .i64 0, .bool false, .string ⟨#[]⟩, .int .i64 0, .string ⟨#[]⟩, .string ⟨#[]⟩, .bool false, .string ⟨#[]⟩, .string ⟨#[]⟩, .int .i64 0] 50 (0, 0)) from R3.out) p.vals rfl (vals_one p)
        have PZ := (show PfS _ _ _ from P3.out).grown z2 (show _ < _ from LR3.out)
        have HZ1 : Hid (_ = _) := z1
        clear z1 z2
        go_simp
        refine hKK.out _ _ (hbase _ PZ) (fun hHeld => ?_)
        clear hKK K hst
        try simp only [Act.put, List.setIfInBounds_toArray, List.set_cons_zero, List.set_cons_succ]
        refine wpAnyH_done (by kernel_rfl) ?_ _
        go_wp2_with fail
        go_meet
        exact ⟨_, rfl, ⟨PZ, HZ1.out, (show _ < _ from LR3.out)⟩⟩
      · skip
        go_simp
        have P3 : Hid (PfS w #[.int .i64 pt, .bool fs, .string fh, .int .i64 fp, .bool us, .string uh, .int .i64 up, .string pa, .string qu, .string me, .slice ra rl rc, .bool wi, .string bo] (w1.alloc (.cells #[.bool false, .string ⟨#[]⟩, .int .i64 0, .bool false, .string ⟨#[]⟩, .int .i64 0, .string ⟨#[]⟩, .string ⟨#[]⟩, .bool false, .string ⟨#[]⟩, .string ⟨#[]⟩, .int .i64 0] 50))) := (show PfS _ _ _ from P1.out).step ((Below.refl _ _).alloc (Nat.le_refl _) _)
        have R3 : Hid ((w1.alloc (.cells #[.bool false, .string ⟨#[]⟩, .int .i64 0, .bool false, .string ⟨#[]⟩, .int .i64 0, .string ⟨#[]⟩, .string ⟨#[]⟩, .bool false, .string ⟨#[]⟩, .string ⟨#[]⟩, .int .i64 0] 50)).heap[w1.heap.size]? = some (.cells #[.bool false, .string ⟨#[]⟩, .int .i64 0, .bool false, .string ⟨#[]⟩, .int .i64 0, .string ⟨#[]⟩, .string ⟨#[]⟩, .bool false, .string ⟨#[]⟩, .string ⟨#[]⟩, .int .i64 0] 50 (0, 0))) := heap_alloc_new _ _
        have LR3 : Hid (w.heap.size + 1 < w1.heap.size) := (show PfS _ _ _ from P1.out).lt
        refine hKK.out _ _ (hbase _ (show PfS _ _ _ from P3.out)) (fun hHeld => ?_)
        clear hKK K
        try simp only [Act.put, List.setIfInBounds_toArray, List.set_cons_zero, List.set_cons_succ]
        refine wpAnyH_ready (rs := [5]) (by kernel_rfl) (by simp) ?_
        refine AllReadyH.cons (by rfl) (fun K hKK => ?_) AllReadyH.nil
        go_simp
        refine (freshU9_any us uh up pa qu h2 h3 h4 _).mono ?_
        rintro e w2 ⟨rfl, hbw2⟩
        have P2 : Hid (PfS w #[.int .i64 pt, .bool fs, .string fh, .int .i64 fp, .bool us, .string uh, .int .i64 up, .string pa, .string qu, .string me, .slice ra rl rc, .bool wi, .string bo] w2) := (show PfS _ _ _ from P3.out).step hbw2
        have Rw2 : Hid (w2.heap[w1.heap.size]? = some (.cells #[.bool false, .string ⟨#[]⟩, .int .i64 0, .bool false, .string ⟨#[]⟩, .int .i64 0, .string ⟨#[]⟩, .string ⟨#[]⟩, .bool false, .string ⟨#[]⟩, .string ⟨#[]⟩, .int .i64 0] 50 (0, 0))) := (show _ = _ from (hbw2.block _ (Array.getElem?_eq_some_iff.1 R3.out).1).trans R3.out)
        clear hbw2
        go_wp2_with fail
        refine hKK.out _ _ (hbase _ (show PfS _ _ _ from P2.out)) (fun hHeld => ?_)
        clear hKK K
        try simp only [Act.put, List.setIfInBounds_toArray, List.set_cons_zero, List.set_cons_succ]
        refine takeH (i := 9) (d := some 25) (v := .agg p.vals.toArray) rfl rfl (by kernel_rfl) (by kernel_rfl) (by kernel_rfl) (fun _ _ _ h => h) (by rfl) ?_ (by assumption) ?_
        · intro w hSw; (try dsimp only at hSw); obtain ⟨q1, q2, q3, q4, q5, q6, q7, q8, q11, _⟩ := hSw; go_simp; rw [HPB.out]; rfl
        try simp only [Act.put, List.setIfInBounds_toArray, List.set_cons_zero, List.set_cons_succ]
        refine wpAnyH_ready (rs := [11]) (by kernel_rfl) (by simp) ?_
        refine AllReadyH.cons (by rfl) (fun K hKK => ?_) AllReadyH.nil
        obtain ⟨hst, z1, z2⟩ := store12 (show w2.heap[w1.heap.size]? = some (.cells #[.bool false, .string ⟨#[]⟩, .int .i64 0, .bool false, .string ⟨#[]⟩, .int .i64 0, .string ⟨#[]⟩, .string ⟨#[]⟩, .bool false, .string ⟨#[]⟩, .string ⟨#[]⟩, .int .i64 0] 50 (0, 0)) from Rw2.out) p.vals rfl (vals_one p)
        have PZ := (show PfS _ _ _ from P2.out).grown z2 (show _ < _ from LR3.out)
        have HZ1 : Hid (_ = _) := z1
        clear z1 z2
        go_simp
        refine hKK.out _ _ (hbase _ PZ) (fun hHeld => ?_)
        clear hKK K hst
        try simp only [Act.put, List.setIfInBounds_toArray, List.set_cons_zero, List.set_cons_succ]
        refine wpAnyH_done (by kernel_rfl) ?_ _
        go_wp2_with fail
        go_meet
        exact ⟨_, rfl, ⟨PZ, HZ1.out, (show _ < _ from LR3.out)⟩⟩
    · skip
      go_simp
      have P3 : Hid (PfS w #[.int .i64 pt, .bool fs, .string fh, .int .i64 fp, .bool us, .string uh, .int .i64 up, .string pa, .string qu, .string me, .slice ra rl rc, .bool wi, .string bo] (W0.drew.alloc (.cells #[.bool false, .string ⟨#[]⟩, .int .i64 0, .bool false, .string ⟨#[]⟩, .int .i64 0, .string ⟨#[]⟩, .string ⟨#[]⟩, .bool false, .string ⟨#[]⟩, .string ⟨#[]⟩, .int .i64 0] 50))) := (show PfS _ _ _ from HP.out).step ((Below.refl _ _).alloc (Nat.le_refl _) _)
      have R3 : Hid ((W0.drew.alloc (.cells #[.bool false, .string ⟨#[]⟩, .int .i64 0, .bool false, .string ⟨#[]⟩, .int .i64 0, .string ⟨#[]⟩, .string ⟨#[]⟩, .bool false, .string ⟨#[]⟩, .string ⟨#[]⟩, .int .i64 0] 50)).heap[W0.drew.heap.size]? = some (.cells #[.bool false, .string ⟨#[]⟩, .int .i64 0, .bool false, .string ⟨#[]⟩, .int .i64 0, .string ⟨#[]⟩, .string ⟨#[]⟩, .bool false, .string ⟨#[]⟩, .string ⟨#[]⟩, .int .i64 0] 50 (0, 0))) := heap_alloc_new _ _
      have LR3 : Hid (w.heap.size + 1 < W0.drew.heap.size) := (show PfS _ _ _ from HP.out).lt
      refine hKK.out _ _ (hbase _ (show PfS _ _ _ from P3.out)) (fun hHeld => ?_)
      clear hKK K
      try simp only [Act.put, List.setIfInBounds_toArray, List.set_cons_zero, List.set_cons_succ]
      refine wpAnyH_ready (rs := [2]) (by kernel_rfl) (by simp) ?_
      refine AllReadyH.cons (by rfl) (fun K hKK => ?_) AllReadyH.nil
      go_simp
      refine (fresh9_any fs fh fp h1 _).mono ?_
      rintro e w1 ⟨rfl, hbw1⟩
      have P1 : Hid (PfS w #[.int .i64 pt, .bool fs, .string fh, .int .i64 fp, .bool us, .string uh, .int .i64 up, .string pa, .string qu, .string me, .slice ra rl rc, .bool wi, .string bo] w1) := (show PfS _ _ _ from P3.out).step hbw1
      have Rw1 : Hid (w1.heap[W0.heap.size]? = some (.cells #[.bool false, .string ⟨#[]⟩, .int .i64 0, .bool false, .string ⟨#[]⟩, .int .i64 0, .string ⟨#[]⟩, .string ⟨#[]⟩, .bool false, .string ⟨#[]⟩, .string ⟨#[]⟩, .int .i64 0] 50 (0, 0))) := (show _ = _ from (hbw1.block _ (Array.getElem?_eq_some_iff.1 R3.out).1).trans R3.out)
      clear hbw1
      go_wp2_with fail
      refine hKK.out _ _ (hbase _ (show PfS _ _ _ from P1.out)) (fun hHeld => ?_)
      clear hKK K
      try simp only [Act.put, List.setIfInBounds_toArray, List.set_cons_zero, List.set_cons_succ]
      refine wpAnyH_ready (rs := [5]) (by kernel_rfl) (by simp) ?_
      refine AllReadyH.cons (by rfl) (fun K hKK => ?_) AllReadyH.nil
      go_simp
      refine (freshU9_any us uh up pa qu h2 h3 h4 _).mono ?_
      rintro e w2 ⟨rfl, hbw2⟩
      have P2 : Hid (PfS w #[.int .i64 pt, .bool fs, .string fh, .int .i64 fp, .bool us, .string uh, .int .i64 up, .string pa, .string qu, .string me, .slice ra rl rc, .bool wi, .string bo] w2) := (show PfS _ _ _ from P1.out).step hbw2
      have Rw2 : Hid (w2.heap[W0.heap.size]? = some (.cells #[.bool false, .string ⟨#[]⟩, .int .i64 0, .bool false, .string ⟨#[]⟩, .int .i64 0, .string ⟨#[]⟩, .string ⟨#[]⟩, .bool false, .string ⟨#[]⟩, .string ⟨#[]⟩, .int .i64 0] 50 (0, 0))) := (show _ = _ from (hbw2.block _ (Array.getElem?_eq_some_iff.1 Rw1.out).1).trans Rw1.out)
      clear hbw2
      go_wp2_with fail
      refine hKK.out _ _ (hbase _ (show PfS _ _ _ from P2.out)) (fun hHeld => ?_)
      clear hKK K
      try simp only [Act.put, List.setIfInBounds_toArray, List.set_cons_zero, List.set_cons_succ]
      refine takeH (i := 9) (d := some 25) (v := .agg p.vals.toArray) rfl rfl (by kernel_rfl) (by kernel_rfl) (by kernel_rfl) (fun _ _ _ h => h) (by rfl) ?_ (by assumption) ?_
      · intro w hSw; (try dsimp only at hSw); obtain ⟨q1, q2, q3, q4, q5, q6, q7, q8, q11, _⟩ := hSw; go_simp; rw [HPB.out]; rfl
      try simp only [Act.put, List.setIfInBounds_toArray, List.set_cons_zero, List.set_cons_succ]
      refine wpAnyH_ready (rs := [11]) (by kernel_rfl) (by simp) ?_
      refine AllReadyH.cons (by rfl) (fun K hKK => ?_) AllReadyH.nil
      obtain ⟨hst, z1, z2⟩ := store12 (show w2.heap[W0.heap.size]? = some (.cells #[.bool false, .string ⟨#[]⟩, .int .i64 0, .bool false, .string ⟨#[]⟩, .int .i64 0, .string ⟨#[]⟩, .string ⟨#[]⟩, .bool false, .string ⟨#[]⟩, .string ⟨#[]⟩, .int .i64 0] 50 (0, 0)) from Rw2.out) p.vals rfl (vals_one p)
      have PZ := (show PfS _ _ _ from P2.out).grown z2 (show _ < _ from LR3.out)
      have HZ1 : Hid (_ = _) := z1
      clear z1 z2
      go_simp
      refine hKK.out _ _ (hbase _ PZ) (fun hHeld => ?_)
      clear hKK K hst
      try simp only [Act.put, List.setIfInBounds_toArray, List.set_cons_zero, List.set_cons_succ]
      refine wpAnyH_done (by kernel_rfl) ?_ _
      go_wp2_with fail
      go_meet
      exact ⟨_, rfl, ⟨PZ, HZ1.out, (show _ < _ from LR3.out)⟩⟩
  case rest =>
  obtain ⟨gp, rfl, HC⟩ := hcut
  have hg := HC.out.1.row
  have HLT : Hid (w.heap.size + 1 < gp ∧ gp < wc.heap.size ∧ w.heap.size + 1 < wc.heap.size) := ⟨HC.out.2.2, (Array.getElem?_eq_some_iff.1 HC.out.2.1).1, (Array.getElem?_eq_some_iff.1 hg).1⟩
  have hpv : p.vals.toArray = #[.bool p.fs, .string p.fh, .int .i64 p.fp, .bool p.us, .string p.uh, .int .i64 p.up, .string p.pa, .string p.qu, .bool p.wi, .string ⟨#[]⟩, .string ⟨#[]⟩, .int .i64 p.un] := by rw [HPB.out]; rfl
  have HH0 : Hid (HoldX p gp (w.heap.size + 1) wc.heap.size [] wc) := ⟨by rw [← hpv]; exact HC.out.2.1, ⟨_, hg, ownX_nil p wc _⟩, HLT.out.2.1, HLT.out.2.2, (by have := HLT.out.1; omega), Nat.le_refl _⟩
  have HBW : Hid (Below w.heap.size w wc) := HC.out.1.box.bel
  have HADD : Hid (∀ (l : List (ByteArray × ByteArray)) (x y : ByteArray) (W : World), l.length ≤ 500 → HoldX p gp (w.heap.size + 1) wc.heap.size l W → Calls Tryz.prog 75 #[.string x, .string y, .pointer (some ⟨gp, 0, none⟩), .pointer (some ⟨w.heap.size + 1, 0, none⟩)] W fun e w' => e = .returned (.tuple #[]) ∧ HoldX p gp (w.heap.size + 1) wc.heap.size (addX l (x, y)) w' ∧ Below (w.heap.size + 1) W w') := fun l x y W hl h => add9_any p gp _ _ l hl x y W h
  clear hg hpv HC HLT hbase HP
  go_wp2
  go_loopw [29] (fun i wr => ∃ k : Nat, k ≤ mn ∧ i = .int .i64 k ∧ Hid (HoldX p gp (w.heap.size + 1) wc.heap.size (passM (ms.take k)) wr ∧ Below w.heap.size w wr)) (fun i _ => mn - (intOf i).toNat)
  case atStart => exact ⟨0, Nat.zero_le _, rfl, HH0.out, HBW.out⟩
  case round =>
    obtain ⟨k, hk, rfl, HI⟩ := hrel
    by_cases hlt : k < mn
    · have hltz : (k : Int) < (mn : Int) := by omega
      obtain ⟨x, hx⟩ : ∃ x, ms[k]? = some x := ⟨ms[k]'(by have := HM.out.2; omega), List.getElem?_eq_getElem _⟩
      have HXK : Hid (ms[k]? = some x) := hx
      obtain ⟨ha0, _⟩ := HM.out.1.lies (by omega)
      subst ha0
      have cx := (HM.out.1.below HI.out.2).cells k x hx
      have hcall := HADD.out (passM (ms.take k)) x ⟨#[]⟩ wr (by have := passM_len (ms.take k); rw [List.length_take] at this; omega) HI.out.1
      clear hx
      go_wp2_with fail
      refine hcall.mono ?_
      rintro e w4 ⟨rfl, h4, hb4⟩
      have HI4 : Hid (HoldX p gp (w.heap.size + 1) wc.heap.size (passM (ms.take (k + 1))) w4 ∧ Below w.heap.size w w4) := ⟨by have e4 := foldX_snoc mX [] HXK.out; unfold passM at h4 ⊢; rw [e4]; exact h4, HI.out.2.trans (hb4.mono (by omega))⟩
      clear hcall h4 hb4 cx
      go_wp2
      go_roundw
      case rel => exact ⟨k + 1, by omega, by go_num, HI4⟩
      case measure => simp [intOf]; omega
    · have hltz : ¬ (k : Int) < (mn : Int) := by omega
      have HI1 : Hid (HoldX p gp (w.heap.size + 1) wc.heap.size (passM ms) wr ∧ Below w.heap.size w wr) := by
        have := HI.out
        rw [List.take_of_length_le (by have := HM.out.2; omega)] at this
        exact this
      clear HI
      generalize hwx : wr = wx at HI1 ⊢
      clear hwx
      go_wp2
      go_loopw [39] (fun i wr => ∃ k : Nat, k ≤ hn ∧ i = .int .i64 k ∧ Hid (HoldX p gp (w.heap.size + 1) wc.heap.size (((hs.take k).map hX).foldl addX (passM ms)) wr ∧ Below w.heap.size w wr)) (fun i _ => hn - (intOf i).toNat)
      case atStart => exact ⟨0, Nat.zero_le _, rfl, HI1.out.1, HI1.out.2⟩
      case round =>
        obtain ⟨k, hk, rfl, HI⟩ := hrel
        by_cases hlt : k < hn
        · have hltz : (k : Int) < (hn : Int) := by omega
          obtain ⟨x, hx⟩ : ∃ x, hs[k]? = some x := ⟨hs[k]'(by have := HH.out.2; omega), List.getElem?_eq_getElem _⟩
          have HXK : Hid (hs[k]? = some x) := hx
          obtain ⟨ha0, _⟩ := HH.out.1.lies (by omega)
          subst ha0
          have cx := (HH.out.1.below HI.out.2).cells k x hx
          have hxz := HZ.out x (List.mem_of_getElem? hx)
          have HLN : Hid ((((hs.take k).map hX).foldl addX (passM ms)).length ≤ 500) := by
            show _ ≤ _
            have e1 := foldX_len (passM ms) ((hs.take k).map hX)
            have e2 := passM_len ms
            have e3 := HM.out.2
            rw [List.length_map, List.length_take] at e1
            omega
          obtain ⟨y, HY⟩ : ∃ y, Hid (bs (x.data.toList.map low) = y) := ⟨_, rfl⟩
          have hlow := lower_any x wr (by omega)
          rw [HY.out] at hlow
          clear hx hxz
          go_wp2_with fail
          refine hlow.mono ?_
          rintro e w4 ⟨rfl, hb4⟩
          have HI4 : Hid (HoldX p gp (w.heap.size + 1) wc.heap.size (((hs.take k).map hX).foldl addX (passM ms)) w4 ∧ Below w.heap.size w w4) := ⟨HI.out.1.below hb4, HI.out.2.trans (hb4.mono HI.out.2.size)⟩
          have hcall := HADD.out _ ⟨#[]⟩ y w4 HLN.out HI4.out.1
          clear hlow hb4 cx
          go_wp2_with fail
          refine hcall.mono ?_
          rintro e w5 ⟨rfl, h5, hb5⟩
          have HI5 : Hid (HoldX p gp (w.heap.size + 1) wc.heap.size (((hs.take (k + 1)).map hX).foldl addX (passM ms)) w5 ∧ Below w.heap.size w w5) := ⟨by rw [foldX_snoc hX (passM ms) HXK.out]; unfold hX; rw [HY.out]; exact h5, HI4.out.2.trans (hb5.mono (by omega))⟩
          clear hcall h5 hb5
          go_wp2
          go_roundw
          case rel => exact ⟨k + 1, by omega, by go_num, HI5⟩
          case measure => simp [intOf]; omega
        · have hltz : ¬ (k : Int) < (hn : Int) := by omega
          have HI2 : Hid (HoldX p gp (w.heap.size + 1) wc.heap.size (passL ms hs) wr ∧ Below w.heap.size w wr) := by
            have := HI.out
            rw [List.take_of_length_le (by have := HH.out.2; omega)] at this
            exact this
          clear HI
          obtain ⟨v, hv, hown⟩ := HI2.out.1.own
          have sv : wr.cell? ⟨w.heap.size + 1, 0, none⟩ = some v := cell_of hv
          have HOW : Hid (OwnX ⟨fs, fh, fp, us, uh, up, pa, qu, wi, ⟨#[]⟩, ⟨#[]⟩, un⟩ wr w.heap.size v (passL ms hs)) := by
            have := OwnK.mono hown (B' := w.heap.size) HBW.out.size
            rw [HPB.out] at this
            exact this
          clear hv hown
          go_wp2
          go_ret
          exact ⟨⟨v, rfl, HOW.out⟩, HI2.out.2⟩
end Go.Proofs.YtoblpjknnchlmabGreatDoor

/- Grant: what an answer allows a request, by the program. -/
namespace Go.Proofs.YtoblpjknnchlmabGreatDoor
open Go.RowKit
set_option linter.unusedVariables false

/-- What Grant answers. -/
def GraAns (p : PsV) (o : Except Int (List (ByteArray × ByteArray))) (B : Nat) (e : Ending) (w' : World) : Prop :=
  (∃ l v, o = .ok l ∧ l.length ≤ 80 ∧ e = .returned (.tuple #[v, .nilIface]) ∧ OwnX p w' B v l) ∨ (∃ n : Int, o = .error n ∧ e = .returned (.tuple #[.slice none 0 0, .iface 56 (.int .i64 n)]))
theorem wrap64_id {n : Int} (h0 : -9223372036854775808 ≤ n) (h1 : n ≤ 9223372036854775807) : IntKind.i64.wrap n = n := by
  simp [IntKind.wrap, IntKind.bits, IntKind.signed]
  omega
theorem strs_one (W : World) (x : ByteArray) : Strs (W.alloc (.cells #[.string x] 9)) (some ⟨W.heap.size, 0, none⟩) 1 W.heap.size 0 [x] := by
  refine ⟨rfl, fun _ => ⟨rfl, by simp⟩, fun j p hp => ?_⟩
  match j, hp with
  | 0, hp => cases hp; exact World.cell?_alloc_mark _ _ _ _ _
  | j + 1, hp => simp at hp
set_option maxRecDepth 100000 in
set_option maxHeartbeats 8000000 in
theorem grant9_any (ps : List Par) (hf : Few9 ps) (a0 : Option Addr) (len cap b off : Nat) (hq : List Par) (hps : Small8 hq) (ra : Option Addr) (rl rc rb ro : Nat) (hrl : rl ≤ 60) (pt fp up : Int) (fs us wi : Bool) (fh uh pa qu me bo : ByteArray)
    (z1 : fh.size ≤ 4000) (z2 : uh.size ≤ 4000) (z3 : pa.size ≤ 4000) (z4 : qu.size ≤ 4000) (z5 : me.size ≤ 3000) (h0 : -9223372036854775808 ≤ fp) (h1 : fp ≤ 9223372036854775807) (now : Int) (n0 : 0 ≤ now) (n1 : now ≤ 1099511627776)
    (w : World) (he : Env w) (hm : Methods w) (hx : Pars w a0 len b off ps) (hh : Pars w ra rl rb ro hq) :
    Calls Tryz.prog 22 #[.agg #[.int .i64 pt, .bool fs, .string fh, .int .i64 fp, .bool us, .string uh, .int .i64 up, .string pa, .string qu, .string me, .slice ra rl rc, .bool wi, .string bo], .slice a0 len cap, .int .i64 now] w fun e w' => GraAns ⟨fs, fh, fp, us, uh, up, pa, qu, wi, ⟨#[]⟩, ⟨#[]⟩, now + ageL ps⟩ (grantL ⟨fs, fh, fp, us, uh, up, pa, qu, wi, ⟨#[]⟩, ⟨#[]⟩, now + ageL ps⟩ (mayL wi (textL fs fh.data.toList fp) ps) wi (methodB me) (askedL hq) ps) w.heap.size e w' ∧ Below w.heap.size w w' := by
  obtain ⟨p, HPB⟩ : ∃ p : PsV, Hid (p = ⟨fs, fh, fp, us, uh, up, pa, qu, wi, ⟨#[]⟩, ⟨#[]⟩, now + ageL ps⟩) := ⟨_, rfl⟩
  rw [← HPB.out]
  obtain ⟨m, HM⟩ : ∃ m, Hid (methodB me = m) := ⟨_, rfl⟩
  rw [HM.out]
  obtain ⟨xs, HXS⟩ : ∃ xs, Hid (askedL hq = xs) := ⟨_, rfl⟩
  rw [HXS.out]
  obtain ⟨y, HMY⟩ : ∃ y, Hid (mayL wi (textL fs fh.data.toList fp) ps = y) := ⟨_, rfl⟩
  rw [HMY.out]
  obtain ⟨ag, HAG⟩ : ∃ ag, Hid (ageL ps = ag) := ⟨_, rfl⟩
  have hag := ageL_bounds ps
  rw [HAG.out] at hag HPB
  obtain ⟨ag0, ag1⟩ := hag
  have HQ : Hid (BoxQ 28 w #[.int .i64 pt, .bool fs, .string fh, .int .i64 fp, .bool us, .string uh, .int .i64 up, .string pa, .string qu, .string me, .slice ra rl rc, .bool wi, .string bo] (w.alloc (.cells #[.int .i64 pt, .bool fs, .string fh, .int .i64 fp, .bool us, .string uh, .int .i64 up, .string pa, .string qu, .string me, .slice ra rl rc, .bool wi, .string bo] 28))) := BoxQ.new _ _ _
  have HWM : Hid (∀ W, Below w.heap.size w W → Calls Tryz.prog 41 #[.slice a0 len cap, .string ⟨#[65, 99, 99, 101, 115, 115, 45, 67, 111, 110, 116, 114, 111, 108, 45, 65, 108, 108, 111, 119, 45, 77, 101, 116, 104, 111, 100, 115]⟩] W fun e w' => WdsAns (wordsO (fieldT mN ps)) W.heap.size e w' ∧ Below W.heap.size W w') := fun W hW => by
    have := words9_any ps hf ⟨#[65, 99, 99, 101, 115, 115, 45, 67, 111, 110, 116, 114, 111, 108, 45, 65, 108, 108, 111, 119, 45, 77, 101, 116, 104, 111, 100, 115]⟩ (by decide) a0 len cap b off W (hx.below hW)
    rw [← mN_is] at this
    exact this
  have HWH : Hid (∀ W, Below w.heap.size w W → Calls Tryz.prog 41 #[.slice a0 len cap, .string ⟨#[65, 99, 99, 101, 115, 115, 45, 67, 111, 110, 116, 114, 111, 108, 45, 65, 108, 108, 111, 119, 45, 72, 101, 97, 100, 101, 114, 115]⟩] W fun e w' => WdsAns (wordsO (fieldT hN ps)) W.heap.size e w' ∧ Below W.heap.size W w') := fun W hW => by
    have := words9_any ps hf ⟨#[65, 99, 99, 101, 115, 115, 45, 67, 111, 110, 116, 114, 111, 108, 45, 65, 108, 108, 111, 119, 45, 72, 101, 97, 100, 101, 114, 115]⟩ (by decide) a0 len cap b off W (hx.below hW)
    rw [← hN_is] at this
    exact this
  have HMA : Hid (∀ W, Below w.heap.size w W → Calls Tryz.prog 19 #[.agg #[.int .i64 pt, .bool fs, .string fh, .int .i64 fp, .bool us, .string uh, .int .i64 up, .string pa, .string qu, .string me, .slice ra rl rc, .bool wi, .string bo], .slice a0 len cap] W fun e w' => e = .returned (.bool y) ∧ Below W.heap.size W w') := fun W hW => by
    have := may9_any ps hf a0 len cap b off pt fp up fs us fh uh pa qu me bo ra rl rc wi z1 h0 h1 W (he.below hW (Nat.le_refl _)) (hx.below hW)
    rw [HMY.out] at this
    exact this
  have HAE : Hid (∀ W, Below w.heap.size w W → Calls Tryz.prog 20 #[.slice a0 len cap] W fun e w' => e = .returned (.int .i64 ag) ∧ Below W.heap.size W w') := fun W hW => by
    have := age9_any ps hf a0 len cap b off W (hx.below hW)
    rw [HAG.out] at this
    exact this
  have HME : Hid (∀ W, Below w.heap.size w W → Calls Tryz.prog 42 #[.string me] W fun e w' => e = .returned (.string m) ∧ Below W.heap.size W w') := fun W hW => by
    have := method_any me z5 W (hm.below hW (Nat.le_refl _))
    rw [HM.out] at this
    exact this
  have HCV : Hid (∀ (l : List PsV) (a : Option Addr) (n c g o : Nat) (W : World), n ≤ 1000000 → Below w.heap.size w W → Pss W a n g o l → Calls Tryz.prog 23 #[.agg #[.int .i64 pt, .bool fs, .string fh, .int .i64 fp, .bool us, .string uh, .int .i64 up, .string pa, .string qu, .string me, .slice ra rl rc, .bool wi, .string bo], .slice a n c] W fun e w' => e = .returned (.bool (coversL wi m xs l)) ∧ Below W.heap.size W w') := fun l a n c g o W hn hW hp => by
    have := covers9_any hq hps ra rl rc rb ro hrl pt fp up fs us wi fh uh pa qu me bo z5 l a n c g o hn W (hm.below hW (Nat.le_refl _)) (hh.below hW) hp
    rw [HM.out, HXS.out] at this
    exact this
  have HPF : Hid (∀ (ms hs : List ByteArray) (ma ha : Option Addr) (mn mc mb mo hn hc hb ho : Nat) (W : World), ms.length ≤ 100 → hs.length ≤ 100 → (∀ x ∈ hs, x.size ≤ 20000) → Strs W ma mn mb mo ms → Strs W ha hn hb ho hs → Calls Tryz.prog 43 #[.agg #[.int .i64 pt, .bool fs, .string fh, .int .i64 fp, .bool us, .string uh, .int .i64 up, .string pa, .string qu, .string me, .slice ra rl rc, .bool wi, .string bo], .int .i64 (now + ag), .slice ma mn mc, .slice ha hn hc] W fun e w' => (∃ v, e = .returned v ∧ OwnX p w' W.heap.size v (passL ms hs)) ∧ Below W.heap.size W w') := fun ms hs ma ha mn mc mb mo hn hc hb ho W l1 l2 l3 s1 s2 => by
    have := passesFor9_any pt fp up fs us wi fh uh pa qu me bo ra rl rc (by omega) (by omega) (by omega) (by omega) (now + ag) ms hs l1 l2 l3 ma ha mn mc mb mo hn hc hb ho W s1 s2
    rw [← HPB.out] at this
    exact this
  have HFT : Hid ((fieldT hN ps).length ≤ 13590) := hf.len hN
  clear hf hps he hm hx hh z1 z2 z3 z4 z5 h0 h1 HPB HM HXS HMY HAG
  go_enter Tryz.func22, Tryz.ntmps22
  go_wp2_with fail
  refine (HWM.out _ HQ.out.bel).mono ?_
  rintro e w1 ⟨ha1, hb1⟩
  have HQ1 : Hid (BoxQ 28 w #[.int .i64 pt, .bool fs, .string fh, .int .i64 fp, .bool us, .string uh, .int .i64 up, .string pa, .string qu, .string me, .slice ra rl rc, .bool wi, .string bo] w1) := HQ.out.step hb1
  have HA1 : Hid (WdsAns (wordsO (fieldT mN ps)) w.heap.size e w1) := by
    rcases ha1 with ⟨ms, v, e1, e2, e3⟩ | h
    · exact .inl ⟨ms, v, e1, e2, World.ownsRow.mono e3 HQ.out.bel.size⟩
    · exact .inr h
  clear ha1 hb1 HQ
  rcases HA1.out with ⟨ms, v, hms, rfl, hown⟩ | ⟨hms, rfl⟩
  case' inr =>
    have HE : Hid (grantL p y wi m xs ps = .error 3) := grantL_bad1 hms
    clear hms HA1
    go_wp2_with fail
    refine (HWH.out _ HQ1.out.bel).mono ?_
    rintro e w2 ⟨ha2, hb2⟩
    have HQ2 : Hid (BoxQ 28 w #[.int .i64 pt, .bool fs, .string fh, .int .i64 fp, .bool us, .string uh, .int .i64 up, .string pa, .string qu, .string me, .slice ra rl rc, .bool wi, .string bo] w2) := HQ1.out.step hb2
    clear hb2
    rcases ha2 with ⟨hs, v2, _, rfl, _⟩ | ⟨_, rfl⟩
    · go_wp2
      go_ret2
      exact ⟨.inr ⟨3, HE.out, rfl⟩, HQ2.out.bel⟩
    · go_wp2
      go_ret2
      exact ⟨.inr ⟨3, HE.out, rfl⟩, HQ2.out.bel⟩
  obtain ⟨ma, mc, mg, rfl, hmst⟩ := OwnS.strs hown
  have HMS : Hid (wordsO (fieldT mN ps) = some ms ∧ Strs w1 ma ms.length mg 0 ms) := ⟨hms, hmst⟩
  have hml : ms.length ≤ 40 := (wordsO_len hms).1
  obtain ⟨mn, HMN⟩ : ∃ mn, Hid (ms.length = mn) := ⟨_, rfl⟩
  rw [HMN.out] at HMS hml
  clear hms hown hmst HA1
  rw [HMN.out]
  go_wp2_with fail
  refine (HWH.out _ HQ1.out.bel).mono ?_
  rintro e w2 ⟨ha2, hb2⟩
  have HQ2 : Hid (BoxQ 28 w #[.int .i64 pt, .bool fs, .string fh, .int .i64 fp, .bool us, .string uh, .int .i64 up, .string pa, .string qu, .string me, .slice ra rl rc, .bool wi, .string bo] w2) := HQ1.out.step hb2
  have HMS2 : Hid (Strs w2 ma mn mg 0 ms) := HMS.out.2.below hb2
  clear hb2
  rcases ha2 with ⟨hs, v2, hhs, rfl, hown⟩ | ⟨hhs, rfl⟩
  case' inr =>
    have HE : Hid (grantL p y wi m xs ps = .error 3) := grantL_bad2 hhs
    clear hhs
    go_wp2
    go_ret2
    exact ⟨.inr ⟨3, HE.out, rfl⟩, HQ2.out.bel⟩
  obtain ⟨hha, hhc, hhg, rfl, hhst⟩ := OwnS.strs hown
  have HHS : Hid (wordsO (fieldT hN ps) = some hs ∧ Strs w2 hha hs.length hhg 0 hs) := ⟨hhs, hhst⟩
  have hhl : hs.length ≤ 40 := (wordsO_len hhs).1
  have HHZ : Hid (∀ x ∈ hs, x.size ≤ 20000) := fun x hx => Nat.le_trans ((wordsO_len hhs).2 x hx) (Nat.le_trans HFT.out (by decide))
  obtain ⟨hn, HHN⟩ : ∃ hn, Hid (hs.length = hn) := ⟨_, rfl⟩
  rw [HHN.out] at HHS hhl
  clear hhs hown hhst HQ1
  rw [HHN.out]
  have c0 := HQ2.out.at 0 _ rfl
  have c1 := HQ2.out.at 1 _ rfl
  have c2 := HQ2.out.at 2 _ rfl
  have c3 := HQ2.out.at 3 _ rfl
  have c4 := HQ2.out.at 4 _ rfl
  have c5 := HQ2.out.at 5 _ rfl
  have c6 := HQ2.out.at 6 _ rfl
  have c7 := HQ2.out.at 7 _ rfl
  have c8 := HQ2.out.at 8 _ rfl
  have c9 := HQ2.out.at 9 _ rfl
  have c10 := HQ2.out.at 10 _ rfl
  have c11 := HQ2.out.at 11 _ rfl
  have c12 := HQ2.out.at 12 _ rfl
  go_wp2_with fail
  refine (HMA.out _ HQ2.out.bel).mono ?_
  rintro e w3 ⟨rfl, hb3⟩
  have HQ3 : Hid (BoxQ 28 w #[.int .i64 pt, .bool fs, .string fh, .int .i64 fp, .bool us, .string uh, .int .i64 up, .string pa, .string qu, .string me, .slice ra rl rc, .bool wi, .string bo] w3) := HQ2.out.step hb3
  have HR3 : Hid (Strs w3 ma mn mg 0 ms ∧ Strs w3 hha hn hhg 0 hs) := ⟨HMS2.out.below hb3, HHS.out.2.below hb3⟩
  clear hb3 HQ2 HMS2 c0 c1 c2 c3 c4 c5 c6 c7 c8 c9 c10 c11 c12
  cases y
  · have HE : Hid (grantL p false wi m xs ps = .error 6) := grantL_no HMS.out.1 HHS.out.1
    go_wp2
    go_ret2
    exact ⟨.inr ⟨6, HE.out, rfl⟩, HQ3.out.bel⟩
  have c9 := HQ3.out.at 9 _ rfl
  go_upto_if 37 with fail
  go_cut [8] (fun v wc => ∃ (a : Option Addr) (n c g : Nat), v = .slice a n c ∧ n ≤ 40 ∧ Hid (Strs wc a n g 0 (msOf ms m) ∧ Strs wc hha hn hhg 0 hs ∧ BoxQ 28 w #[.int .i64 pt, .bool fs, .string fh, .int .i64 fp, .bool us, .string uh, .int .i64 up, .string pa, .string qu, .string me, .slice ra rl rc, .bool wi, .string bo] wc))
  case first =>
    by_cases hz : mn = 0
    · subst hz
      have HE : Hid (msOf ms m = [m]) := by show _ = _; unfold msOf; rw [if_pos HMN.out]
      go_wp2_with fail
      refine (HME.out _ HQ3.out.bel).mono ?_
      rintro e w4 ⟨rfl, hb4⟩
      have HB5 : Hid (Below w3.heap.size w3 (w4.alloc (.cells #[.string m] 9))) := hb4.alloc hb4.size _
      clear hb4
      go_wp2
      go_meet
      exact ⟨_, 1, _, w4.heap.size, rfl, by omega, ⟨by rw [HE.out]; exact strs_one w4 m, HR3.out.2.below HB5.out, HQ3.out.step HB5.out⟩⟩
    · have HE : Hid (msOf ms m = ms) := by show _ = _; unfold msOf; rw [if_neg (by rw [HMN.out]; exact hz)]
      have hzz : ¬ (mn : Int) = 0 := by omega
      go_wp2
      go_meet
      exact ⟨ma, mn, mc, mg, rfl, hml, ⟨by rw [HE.out]; exact HR3.out.1, HR3.out.2, HQ3.out⟩⟩
  case rest =>
    obtain ⟨qa, qn, qc, qg, rfl, hqn, HC⟩ := hcut
    obtain ⟨wp, rfl⟩ : ∃ x, x = wc := ⟨_, rfl⟩
    clear c9 HQ3 HR3
    obtain ⟨mt, HMT⟩ : ∃ mt, Hid (msOf ms m = mt) := ⟨_, rfl⟩
    have HC' : Hid (Strs wp qa qn qg 0 mt ∧ Strs wp hha hn hhg 0 hs ∧ BoxQ 28 w #[.int .i64 pt, .bool fs, .string fh, .int .i64 fp, .bool us, .string uh, .int .i64 up, .string pa, .string qu, .string me, .slice ra rl rc, .bool wi, .string bo] wp) := by rw [← HMT.out]; exact HC.out
    clear HC
    have hbase : ∀ W, Below wp.heap.size wp W → W.cell? ⟨w.heap.size, 0, none⟩ = some (.int .i64 pt) ∧ W.cell? ⟨w.heap.size, 1, none⟩ = some (.bool fs) ∧ W.cell? ⟨w.heap.size, 2, none⟩ = some (.string fh) ∧ W.cell? ⟨w.heap.size, 3, none⟩ = some (.int .i64 fp) ∧ W.cell? ⟨w.heap.size, 4, none⟩ = some (.bool us) ∧ W.cell? ⟨w.heap.size, 5, none⟩ = some (.string uh) ∧ W.cell? ⟨w.heap.size, 6, none⟩ = some (.int .i64 up) ∧ W.cell? ⟨w.heap.size, 7, none⟩ = some (.string pa) ∧ W.cell? ⟨w.heap.size, 8, none⟩ = some (.string qu) ∧ W.cell? ⟨w.heap.size, 9, none⟩ = some (.string me) ∧ W.cell? ⟨w.heap.size, 10, none⟩ = some (.slice ra rl rc) ∧ W.cell? ⟨w.heap.size, 11, none⟩ = some (.bool wi) ∧ W.cell? ⟨w.heap.size, 12, none⟩ = some (.string bo) ∧ Hid (Below wp.heap.size wp W) := fun W hW => (have hq := HC'.out.2.2.step hW; ⟨hq.at 0 _ rfl, hq.at 1 _ rfl, hq.at 2 _ rfl, hq.at 3 _ rfl, hq.at 4 _ rfl, hq.at 5 _ rfl, hq.at 6 _ rfl, hq.at 7 _ rfl, hq.at 8 _ rfl, hq.at 9 _ rfl, hq.at 10 _ rfl, hq.at 11 _ rfl, hq.at 12 _ rfl, hW⟩)
    have hS := hbase _ (Below.refl _ _).drew
    go_upto_region 9 with fail
    go_cut [12] (fun s12 w5 => ∃ v5 : Value, v5 = s12 ∧ Hid (Below wp.heap.size wp w5 ∧ OwnX p w5 wp.heap.size v5 (passL mt hs)))
    case first =>
      refine wp_region_held_drew (S := fun W => W.cell? ⟨w.heap.size, 0, none⟩ = some (.int .i64 pt) ∧ W.cell? ⟨w.heap.size, 1, none⟩ = some (.bool fs) ∧ W.cell? ⟨w.heap.size, 2, none⟩ = some (.string fh) ∧ W.cell? ⟨w.heap.size, 3, none⟩ = some (.int .i64 fp) ∧ W.cell? ⟨w.heap.size, 4, none⟩ = some (.bool us) ∧ W.cell? ⟨w.heap.size, 5, none⟩ = some (.string uh) ∧ W.cell? ⟨w.heap.size, 6, none⟩ = some (.int .i64 up) ∧ W.cell? ⟨w.heap.size, 7, none⟩ = some (.string pa) ∧ W.cell? ⟨w.heap.size, 8, none⟩ = some (.string qu) ∧ W.cell? ⟨w.heap.size, 9, none⟩ = some (.string me) ∧ W.cell? ⟨w.heap.size, 10, none⟩ = some (.slice ra rl rc) ∧ W.cell? ⟨w.heap.size, 11, none⟩ = some (.bool wi) ∧ W.cell? ⟨w.heap.size, 12, none⟩ = some (.string bo) ∧ Hid (Below wp.heap.size wp W)) (by kernel_rfl) hS (fun hHeld => ?_)
      refine takeH (i := 0) (d := some 42) (v := ?_) rfl rfl (by kernel_rfl) (by kernel_rfl) (by kernel_rfl) (fun _ _ _ h => h) (by rfl) ?_ (by assumption) ?_
      rotate_left
      · intro w hSw; (try dsimp only at hSw); obtain ⟨q0, q1, q2, q3, q4, q5, q6, q7, q8, q9, q10, q11, q12, _⟩ := hSw; go_simp; with_reducible rfl
      try simp only [Act.put, List.setIfInBounds_toArray, List.set_cons_zero, List.set_cons_succ]
      refine takeH (i := 1) (d := some 43) (v := ?_) rfl rfl (by kernel_rfl) (by kernel_rfl) (by kernel_rfl) (fun _ _ _ h => h) (by rfl) ?_ (by assumption) ?_
      rotate_left
      · intro w hSw; (try dsimp only at hSw); obtain ⟨q0, q1, q2, q3, q4, q5, q6, q7, q8, q9, q10, q11, q12, _⟩ := hSw; go_simp; with_reducible rfl
      try simp only [Act.put, List.setIfInBounds_toArray, List.set_cons_zero, List.set_cons_succ]
      refine takeH (i := 2) (d := some 44) (v := ?_) rfl rfl (by kernel_rfl) (by kernel_rfl) (by kernel_rfl) (fun _ _ _ h => h) (by rfl) ?_ (by assumption) ?_
      rotate_left
      · intro w hSw; (try dsimp only at hSw); obtain ⟨q0, q1, q2, q3, q4, q5, q6, q7, q8, q9, q10, q11, q12, _⟩ := hSw; go_simp; with_reducible rfl
      try simp only [Act.put, List.setIfInBounds_toArray, List.set_cons_zero, List.set_cons_succ]
      refine takeH (i := 5) (d := some 47) (v := ?_) rfl rfl (by kernel_rfl) (by kernel_rfl) (by kernel_rfl) (fun _ _ _ h => h) (by rfl) ?_ (by assumption) ?_
      rotate_left
      · intro w hSw; (try dsimp only at hSw); obtain ⟨q0, q1, q2, q3, q4, q5, q6, q7, q8, q9, q10, q11, q12, _⟩ := hSw; go_simp; with_reducible rfl
      try simp only [Act.put, List.setIfInBounds_toArray, List.set_cons_zero, List.set_cons_succ]
      refine takeH (i := 6) (d := some 48) (v := ?_) rfl rfl (by kernel_rfl) (by kernel_rfl) (by kernel_rfl) (fun _ _ _ h => h) (by rfl) ?_ (by assumption) ?_
      rotate_left
      · intro w hSw; (try dsimp only at hSw); obtain ⟨q0, q1, q2, q3, q4, q5, q6, q7, q8, q9, q10, q11, q12, _⟩ := hSw; go_simp; with_reducible rfl
      try simp only [Act.put, List.setIfInBounds_toArray, List.set_cons_zero, List.set_cons_succ]
      refine wpAnyH_ready (rs := [3]) (by kernel_rfl) (by simp) ?_
      refine AllReadyH.cons (by rfl) (fun K hKK => ?_) AllReadyH.nil
      go_simp
      refine (HAE.out _ (HC'.out.2.2.bel.trans ((show Below wp.heap.size wp wp.drew from (Below.refl _ _).drew).mono HC'.out.2.2.bel.size))).mono ?_
      rintro e w4 ⟨rfl, hb4⟩
      have HB4 : Hid (Below wp.heap.size wp w4) := (show Below wp.heap.size wp wp.drew from (Below.refl _ _).drew).trans hb4
      clear hb4
      go_wp2_with fail
      refine hKK.out _ _ (hbase _ HB4.out) (fun hHeld => ?_)
      clear hKK K
      try simp only [Act.put, List.setIfInBounds_toArray, List.set_cons_zero, List.set_cons_succ]
      have hwr : IntKind.i64.wrap (now + ag) = now + ag := wrap64_id (by omega) (by omega)
      refine takeH (i := 4) (d := some 46) (v := ?_) rfl rfl (by kernel_rfl) (by kernel_rfl) (by kernel_rfl) (fun _ _ _ h => h) (by rfl) ?_ (by assumption) ?_
      rotate_left
      · intro w hSw; (try dsimp only at hSw); obtain ⟨q0, q1, q2, q3, q4, q5, q6, q7, q8, q9, q10, q11, q12, _⟩ := hSw; go_simp; with_reducible rfl
      try simp only [Act.put, List.setIfInBounds_toArray, List.set_cons_zero, List.set_cons_succ]
      refine wpAnyH_ready (rs := [7]) (by kernel_rfl) (by simp) ?_
      refine AllReadyH.cons (by rfl) (fun K hKK => ?_) AllReadyH.nil
      go_simp
      refine (HPF.out mt hs qa hha qn qc qg 0 hn hhc hhg 0 _ (by have := HC'.out.1.len_eq; omega) (by have := HC'.out.2.1.len_eq; omega) HHZ.out (HC'.out.1.below HB4.out) (HC'.out.2.1.below HB4.out)).mono ?_
      rintro e w5 ⟨⟨v5, rfl, hv5⟩, hb5⟩
      have HB5 : Hid (Below wp.heap.size wp w5) := HB4.out.trans (hb5.mono HB4.out.size)
      have HV5 : Hid (OwnX p w5 wp.heap.size v5 (passL mt hs)) := OwnK.mono hv5 HB4.out.size
      clear hv5 hb5
      go_wp2_with fail
      refine hKK.out _ _ (hbase _ HB5.out) (fun hHeld => ?_)
      clear hKK K
      try simp only [Act.put, List.setIfInBounds_toArray, List.set_cons_zero, List.set_cons_succ]
      refine takeH (i := 8) (d := some 12) (v := ?_) rfl rfl (by kernel_rfl) (by kernel_rfl) (by kernel_rfl) (fun _ _ _ h => h) (by rfl) ?_ (by assumption) ?_
      rotate_left
      · intro w hSw; (try dsimp only at hSw); obtain ⟨q0, q1, q2, q3, q4, q5, q6, q7, q8, q9, q10, q11, q12, _⟩ := hSw; go_simp; with_reducible rfl
      try simp only [Act.put, List.setIfInBounds_toArray, List.set_cons_zero, List.set_cons_succ]
      refine wpAnyH_done (by kernel_rfl) ?_ _
      go_wp2_with fail
      go_meet
      exact ⟨v5, rfl, ⟨HB5.out, HV5.out⟩⟩
    case rest =>
    obtain ⟨v5, rfl, HV⟩ := hcut
    obtain ⟨w5, rfl⟩ : ∃ x, x = wc := ⟨_, rfl⟩
    have HB5 : Hid (Below wp.heap.size wp w5) := HV.out.1
    have HV5 : Hid (OwnX p w5 wp.heap.size v5 (passL mt hs)) := HV.out.2
    have hS5 := hbase _ HB5.out
    clear HV
    obtain ⟨xa, xc, xg, rfl, hps5⟩ := OwnX.pss HV5.out
    have HX5 : Hid (OwnX p w5 wp.heap.size (.slice xa (passL mt hs).length xc) (passL mt hs) ∧ Pss w5 xa (passL mt hs).length xg 0 ((passL mt hs).map p.of)) := ⟨HV5.out, hps5⟩
    have hpl : (passL mt hs).length ≤ 80 := by have := passL_len mt hs; have := HC'.out.1.len_eq; have := HC'.out.2.1.len_eq; omega
    obtain ⟨t, HT⟩ : ∃ t, Hid (coversL wi m xs ((passL mt hs).map p.of) = t) := ⟨_, rfl⟩
    have HG : Hid (grantL p true wi m xs ps = if t then .ok (passL mt hs) else .error 6) := by
      have e := grantL_cov (p := p) HMS.out.1 HHS.out.1 (t := t) (by rw [HMT.out]; exact HT.out)
      rw [HMT.out] at e
      exact e
    obtain ⟨pn, HPN⟩ : ∃ pn, Hid ((passL mt hs).length = pn) := ⟨_, rfl⟩
    rw [HPN.out] at HX5 hpl
    clear hps5 HV5 hS hbase
    obtain ⟨d0, d1, d2, d3, d4, d5, d6, d7, d8, d9, d10, d11, d12, _⟩ := hS5
    have HBW5 : Hid (Below w.heap.size w w5) := HC'.out.2.2.bel.trans (HB5.out.mono HC'.out.2.2.bel.size)
    rw [HPN.out]
    go_wp2_with fail
    refine (HCV.out _ xa pn xc xg 0 _ (by omega) HBW5.out HX5.out.2).mono ?_
    rintro e w6 ⟨rfl, hb6⟩
    rw [HT.out]
    have HB6 : Hid (Below w.heap.size w w6) := HBW5.out.trans (hb6.mono HBW5.out.size)
    have HX6 : Hid (OwnX p w6 w.heap.size (.slice xa pn xc) (passL mt hs)) := OwnK.mono (HX5.out.1.below hb6) HC'.out.2.2.bel.size
    clear hb6 d0 d1 d2 d3 d4 d5 d6 d7 d8 d9 d10 d11 d12
    cases t
    · go_wp2
      go_ret2
      exact ⟨.inr ⟨6, HG.out, rfl⟩, HB6.out⟩
    · go_wp2
      go_ret2
      exact ⟨.inl ⟨passL mt hs, _, HG.out, by rw [HPN.out]; exact hpl, rfl, HX6.out⟩, HB6.out⟩
end Go.Proofs.YtoblpjknnchlmabGreatDoor

/- The fact that servers' answers are read and held. -/
namespace Go.Proofs.YtoblpjknnchlmabGreatDoor
open Go.RowKit

theorem asked_none : askedL [] = [] := by
  have h : tx (askedNames []) = [] := by decide +kernel
  have h2 : sortL [] = [] := List.eq_nil_of_length_eq_zero (sortL_len [])
  unfold askedL
  rw [h, h2]
  rfl
def granS : ByteArray := ⟨#[65, 99, 99, 101, 115, 115, 45, 67, 111, 110, 116, 114, 111, 108, 45, 65, 108, 108, 111, 119, 45, 79, 114, 105, 103, 105, 110, 58, 32, 104, 116, 116, 112, 115, 58, 47, 47, 97, 46, 116, 101, 115, 116, 10, 65, 99, 99, 101, 115, 115, 45, 67, 111, 110, 116, 114, 111, 108, 45, 65, 108, 108, 111, 119, 45, 77, 101, 116, 104, 111, 100, 115, 58, 32, 80, 85, 84, 44, 88]⟩
def granF : List Par := [(⟨#[65, 99, 99, 101, 115, 115, 45, 67, 111, 110, 116, 114, 111, 108, 45, 65, 108, 108, 111, 119, 45, 79, 114, 105, 103, 105, 110]⟩, ⟨#[104, 116, 116, 112, 115, 58, 47, 47, 97, 46, 116, 101, 115, 116]⟩), (⟨#[65, 99, 99, 101, 115, 115, 45, 67, 111, 110, 116, 114, 111, 108, 45, 65, 108, 108, 111, 119, 45, 77, 101, 116, 104, 111, 100, 115]⟩, ⟨#[80, 85, 84, 44, 88]⟩)]
theorem granF_is : fieldsF granS.data.toList = .ok granF := by kernel_rfl
theorem granF_few : Few9 granF := by unfold Few9; decide +kernel
theorem granF_age : ageL granF = 5 := by kernel_rfl
theorem gran_may : mayL false (textL true (⟨#[97, 46, 116, 101, 115, 116]⟩ : ByteArray).data.toList 443) granF = true := by kernel_rfl
theorem gran_put : methodB ⟨#[80, 85, 84]⟩ = ⟨#[80, 85, 84]⟩ := by kernel_rfl
theorem gran_grant (p : PsV) : grantL p true false ⟨#[80, 85, 84]⟩ [] granF = .ok [(⟨#[80, 85, 84]⟩, ⟨#[]⟩), (⟨#[88]⟩, ⟨#[]⟩)] := by
  have h1 : wordsO (fieldT mN granF) = some [⟨#[80, 85, 84]⟩, ⟨#[88]⟩] := by kernel_rfl
  have h2 : wordsO (fieldT hN granF) = some [] := by kernel_rfl
  have h3 : passL (msOf [⟨#[80, 85, 84]⟩, ⟨#[88]⟩] ⟨#[80, 85, 84]⟩) [] = [(⟨#[80, 85, 84]⟩, ⟨#[]⟩), (⟨#[88]⟩, ⟨#[]⟩)] := by kernel_rfl
  have h4 : coversL false ⟨#[80, 85, 84]⟩ [] ((passL (msOf [⟨#[80, 85, 84]⟩, ⟨#[88]⟩] ⟨#[80, 85, 84]⟩) []).map p.of) = true := by
    rw [h3]
    unfold coversL
    simp [okM, PsV.of]
  rw [grantL_cov h1 h2 h4, if_pos rfl, h3]
theorem gran_cov : coversL false ⟨#[80, 85, 84]⟩ [] [] = false := by decide +kernel
theorem gran_same : sameO true ⟨#[97, 46, 116, 101, 115, 116]⟩ 443 true ⟨#[98, 46, 116, 101, 115, 116]⟩ 443 = false := by decide +kernel
set_option maxRecDepth 100000 in
set_option maxHeartbeats 8000000 in
theorem granted_any (w : World) (he : Env w) (hm : Methods w) : Calls Tryz.prog 12 #[] w fun e w' => e = .returned (.bool true) ∧ Below w.heap.size w w' := by
  have HQ : Hid (BoxQ 28 w #[.int .i64 0, .bool true, .string ⟨#[97, 46, 116, 101, 115, 116]⟩, .int .i64 443, .bool true, .string ⟨#[98, 46, 116, 101, 115, 116]⟩, .int .i64 443, .string ⟨#[47]⟩, .string ⟨#[]⟩, .string ⟨#[80, 85, 84]⟩, .slice none 0 0, .bool false, .string ⟨#[]⟩] (w.alloc (.cells #[.int .i64 0, .bool true, .string ⟨#[97, 46, 116, 101, 115, 116]⟩, .int .i64 443, .bool true, .string ⟨#[98, 46, 116, 101, 115, 116]⟩, .int .i64 443, .string ⟨#[47]⟩, .string ⟨#[]⟩, .string ⟨#[80, 85, 84]⟩, .slice none 0 0, .bool false, .string ⟨#[]⟩] 28))) := BoxQ.new _ _ _
  have HE : Hid (∀ W, Below w.heap.size w W → Env W ∧ Methods W) := fun W hW => ⟨he.below hW (Nat.le_refl _), hm.below hW (Nat.le_refl _)⟩
  have hfl := fields9_any granS (by decide +kernel) (w.alloc (.cells #[.int .i64 0, .bool true, .string ⟨#[97, 46, 116, 101, 115, 116]⟩, .int .i64 443, .bool true, .string ⟨#[98, 46, 116, 101, 115, 116]⟩, .int .i64 443, .string ⟨#[47]⟩, .string ⟨#[]⟩, .string ⟨#[80, 85, 84]⟩, .slice none 0 0, .bool false, .string ⟨#[]⟩] 28))
  rw [granF_is] at hfl
  clear he hm
  go_enter Tryz.func12, Tryz.ntmps12
  go_wp2_with fail
  refine hfl.mono ?_
  rintro e w1 ⟨ha, hb1⟩
  have HQ1 : Hid (BoxQ 28 w #[.int .i64 0, .bool true, .string ⟨#[97, 46, 116, 101, 115, 116]⟩, .int .i64 443, .bool true, .string ⟨#[98, 46, 116, 101, 115, 116]⟩, .int .i64 443, .string ⟨#[47]⟩, .string ⟨#[]⟩, .string ⟨#[80, 85, 84]⟩, .slice none 0 0, .bool false, .string ⟨#[]⟩] w1) := HQ.out.step hb1
  clear hfl hb1
  obtain ⟨v, rfl, hown⟩ : ∃ v, e = .returned (.tuple #[v, .nilIface]) ∧ OwnP w1 w.heap.size v granF := by
    rcases ha with ⟨acc, v, h1, _, h3, h4⟩ | ⟨h1, _⟩ | ⟨i, g, h1, _⟩
    · injection h1 with h1
      subst h1
      exact ⟨v, h3, h4.mono9 HQ.out.bel.size⟩
    · cases h1
    · cases h1
  obtain ⟨a, cap, g, rfl, hps, _⟩ := hown.pars
  have hl2 : granF.length = 2 := rfl
  rw [hl2] at hps
  have HP1 : Hid (Pars w1 a 2 g 0 granF) := hps
  clear ha hown hps HQ
  rw [hl2]
  have c0 := HQ1.out.at 0 _ rfl
  have c1 := HQ1.out.at 1 _ rfl
  have c2 := HQ1.out.at 2 _ rfl
  have c3 := HQ1.out.at 3 _ rfl
  have c4 := HQ1.out.at 4 _ rfl
  have c5 := HQ1.out.at 5 _ rfl
  have c6 := HQ1.out.at 6 _ rfl
  have c7 := HQ1.out.at 7 _ rfl
  have c8 := HQ1.out.at 8 _ rfl
  have c9 := HQ1.out.at 9 _ rfl
  have c10 := HQ1.out.at 10 _ rfl
  have c11 := HQ1.out.at 11 _ rfl
  have c12 := HQ1.out.at 12 _ rfl
  go_wp2_with fail
  have hgr := grant9_any granF granF_few a 2 cap g 0 [] (by intro p hp; cases hp) none 0 0 0 0 (by decide) 0 443 443 true true false ⟨#[97, 46, 116, 101, 115, 116]⟩ ⟨#[98, 46, 116, 101, 115, 116]⟩ ⟨#[47]⟩ ⟨#[]⟩ ⟨#[80, 85, 84]⟩ ⟨#[]⟩ (by decide) (by decide) (by decide) (by decide) (by decide) (by decide) (by decide) 10 (by decide) (by decide) w1 (HE.out _ HQ1.out.bel).1 (HE.out _ HQ1.out.bel).2 HP1.out ⟨rfl, fun h => absurd h (by omega), fun j p hp => by simp at hp, fun j p hp => by simp at hp⟩
  rw [gran_may, gran_put, asked_none, gran_grant] at hgr
  refine hgr.mono ?_
  rintro e w2 ⟨ha, hb2⟩
  have HQ2 : Hid (BoxQ 28 w #[.int .i64 0, .bool true, .string ⟨#[97, 46, 116, 101, 115, 116]⟩, .int .i64 443, .bool true, .string ⟨#[98, 46, 116, 101, 115, 116]⟩, .int .i64 443, .string ⟨#[47]⟩, .string ⟨#[]⟩, .string ⟨#[80, 85, 84]⟩, .slice none 0 0, .bool false, .string ⟨#[]⟩] w2) := HQ1.out.step hb2
  have HP2 : Hid (Pars w2 a 2 g 0 granF) := HP1.out.below hb2
  clear hgr hb2 HQ1 HP1 c0 c1 c2 c3 c4 c5 c6 c7 c8 c9 c10 c11 c12
  obtain ⟨v, rfl, hown⟩ : ∃ v, e = .returned (.tuple #[v, .nilIface]) ∧ OwnX ⟨true, ⟨#[97, 46, 116, 101, 115, 116]⟩, 443, true, ⟨#[98, 46, 116, 101, 115, 116]⟩, 443, ⟨#[47]⟩, ⟨#[]⟩, false, ⟨#[]⟩, ⟨#[]⟩, 10 + ageL granF⟩ w2 w1.heap.size v [(⟨#[80, 85, 84]⟩, ⟨#[]⟩), (⟨#[88]⟩, ⟨#[]⟩)] := by
    rcases ha with ⟨l, v, h1, _, h3, h4⟩ | ⟨n, h1, _⟩
    · injection h1 with h1
      subst h1
      exact ⟨v, h3, h4⟩
    · cases h1
  obtain ⟨xa, xc, xg, rfl, hpx⟩ := hown.pss
  obtain ⟨hxa, _⟩ := hpx.lies (by decide)
  subst hxa
  have hp9 := (hpx.all (j := 0) rfl).2.2.2.2.2.2.2.2.2.1
  have hp11 := (hpx.all (j := 1) rfl).2.2.2.2.2.2.2.2.2.2.2
  rw [granF_age] at hp11
  simp only [PsV.of, Nat.zero_add, Nat.zero_mul, Nat.one_mul, Nat.reduceAdd, Int.reduceAdd] at hp9 hp11
  clear ha hown hpx
  simp only [List.length_cons, List.length_nil, Nat.zero_add, Nat.reduceAdd]
  have d0 := HQ2.out.at 0 _ rfl
  have d1 := HQ2.out.at 1 _ rfl
  have d2 := HQ2.out.at 2 _ rfl
  have d3 := HQ2.out.at 3 _ rfl
  have d4 := HQ2.out.at 4 _ rfl
  have d5 := HQ2.out.at 5 _ rfl
  have d6 := HQ2.out.at 6 _ rfl
  have d7 := HQ2.out.at 7 _ rfl
  have d8 := HQ2.out.at 8 _ rfl
  have d9 := HQ2.out.at 9 _ rfl
  have d10 := HQ2.out.at 10 _ rfl
  have d11 := HQ2.out.at 11 _ rfl
  have d12 := HQ2.out.at 12 _ rfl
  have hn := needs9_any [] (by intro p hp; cases hp) none 0 0 0 0 (by decide) 0 443 443 true true false ⟨#[97, 46, 116, 101, 115, 116]⟩ ⟨#[98, 46, 116, 101, 115, 116]⟩ ⟨#[47]⟩ ⟨#[]⟩ ⟨#[80, 85, 84]⟩ ⟨#[]⟩ (by decide) w2 (HE.out _ HQ2.out.bel).2 ⟨rfl, fun h => absurd h (by omega), fun j p hp => by simp at hp, fun j p hp => by simp at hp⟩
  rw [gran_put, asked_none, gran_cov, gran_same] at hn
  go_wp2_with fail
  refine hn.mono ?_
  rintro e w3 ⟨rfl, hb3⟩
  have HQ3 : Hid (BoxQ 28 w #[.int .i64 0, .bool true, .string ⟨#[97, 46, 116, 101, 115, 116]⟩, .int .i64 443, .bool true, .string ⟨#[98, 46, 116, 101, 115, 116]⟩, .int .i64 443, .string ⟨#[47]⟩, .string ⟨#[]⟩, .string ⟨#[80, 85, 84]⟩, .slice none 0 0, .bool false, .string ⟨#[]⟩] w3) := HQ2.out.step hb3
  have HP3 : Hid (Pars w3 a 2 g 0 granF) := HP2.out.below hb3
  clear hn hb3 HQ2 HP2 d0 d1 d2 d3 d4 d5 d6 d7 d8 d9 d10 d11 d12 hp9 hp11
  have e0 := HQ3.out.at 0 _ rfl
  have e1 := HQ3.out.at 1 _ rfl
  have e2 := HQ3.out.at 2 _ rfl
  have e3 := HQ3.out.at 3 _ rfl
  have e4 := HQ3.out.at 4 _ rfl
  have e5 := HQ3.out.at 5 _ rfl
  have e6 := HQ3.out.at 6 _ rfl
  have e7 := HQ3.out.at 7 _ rfl
  have e8 := HQ3.out.at 8 _ rfl
  have e9 := HQ3.out.at 9 _ rfl
  have e10 := HQ3.out.at 10 _ rfl
  have e11 := HQ3.out.at 11 _ rfl
  have e12 := HQ3.out.at 12 _ rfl
  have hma := may9_any granF granF_few a 2 cap g 0 0 443 443 true true ⟨#[97, 46, 116, 101, 115, 116]⟩ ⟨#[98, 46, 116, 101, 115, 116]⟩ ⟨#[47]⟩ ⟨#[]⟩ ⟨#[80, 85, 84]⟩ ⟨#[]⟩ none 0 0 false (by decide) (by decide) (by decide) w3 (HE.out _ HQ3.out.bel).1 HP3.out
  rw [gran_may] at hma
  go_wp2_with fail
  refine hma.mono ?_
  rintro e w4 ⟨rfl, hb4⟩
  have HB4 : Hid (Below w.heap.size w w4) := HQ3.out.inB hb4
  clear hma hb4
  go_wp2
  go_ret
  exact ⟨rfl, HB4.out⟩
end Go.Proofs.YtoblpjknnchlmabGreatDoor

/- Headers that are too long to be held. -/
namespace Go.Proofs.YtoblpjknnchlmabGreatDoor
open Go.RowKit

def overP (p : Par) : Bool := decide (300 < p.1.size + p.2.size)
/-- Headers that are too many, or too long; n: the bytes of all else. -/
def largeL (ps : List Par) (n : Nat) : Bool := decide (45 < ps.length) || (decide (900 < n) || ps.any overP)
theorem over_snoc {ps : List Par} {k : Nat} {p : Par} (h : (ps.take k).any overP = false) (hk : ps[k]? = some p) (hp : ¬ 300 < p.1.size + p.2.size) : (ps.take (k + 1)).any overP = false := by
  obtain ⟨hk1, e⟩ := List.getElem?_eq_some_iff.1 hk
  rw [List.take_succ_eq_append_getElem hk1, List.any_append, h, e]
  have : overP p = false := by unfold overP; exact decide_eq_false hp
  simp [this]
theorem large_small {ps : List Par} {n : Nat} (h : largeL ps n = false) : ps.length ≤ 45 ∧ n ≤ 900 ∧ ∀ p ∈ ps, p.1.size + p.2.size ≤ 300 := by
  unfold largeL at h
  simp only [Bool.or_eq_false_iff, decide_eq_false_iff_not] at h
  refine ⟨by omega, by omega, fun p hp => ?_⟩
  have h3 := List.any_eq_false.1 h.2.2 p hp
  unfold overP at h3
  simpa using h3
end Go.Proofs.YtoblpjknnchlmabGreatDoor

/- Whether headers are few, by the law's own words: the library's functions over a row of parameters that lies somewhere. -/
namespace Go.Proofs.YtoblpjknnchlmabGreatDoor
open Go.RowKit

/-- A function that says whether a parameter is of a kind, at these. -/
structure KindP (K : Nat) (f : Par → Bool) (ps : List Par) : Prop where
  says : ∀ p ∈ ps, ∀ w : World, Calls Tryz.prog K #[.agg #[.string p.1, .string p.2]] w fun e w' => e = .returned (.bool (f p)) ∧ Below w.heap.size w w'
  enters : ∀ (args : Array Value) (w : World), (callFunc K args).run Tryz.prog w = .ok (.enter K args) w
set_option maxRecDepth 100000 in
set_option maxHeartbeats 2000000 in
theorem indexP8_any (K : Nat) (f : Par → Bool) (ps : List Par) (hK : KindP K f ps) (a0 : Option Addr) (len cap b off : Nat) (hlen : len ≤ 1000000) (w : World) (hx : Pars w a0 len b off ps) :
    Calls Tryz.prog 68 #[.slice a0 len cap, .func (.func K) #[] #[]] w fun e w' => (∃ r : Int, e = .returned (.int .i64 r) ∧ Hid (decide (0 ≤ r) = ps.any f)) ∧ Below w.heap.size w w' := by
  have HX : Hid (Pars w a0 len b off ps) := hx
  have hl := hx.len_eq
  have HK0 : Hid (KindP K f ps) := hK
  have hen := hK.enters
  clear hK hx
  go_enter Tryz.func68, Tryz.ntmps68
  go_wp2
  go_loopw [8] (fun i wr => ∃ (k : Nat), k ≤ len ∧ i = .int .i64 k ∧ Hid ((ps.take k).any f = false) ∧ Hid (Below w.heap.size w wr)) (fun i _ => len - (intOf i).toNat)
  case atStart => exact ⟨0, Nat.zero_le _, rfl, rfl, Below.refl _ _⟩
  case round =>
    obtain ⟨k, hk, rfl, HK, HB⟩ := hrel
    by_cases hlt : k < len
    · have hltz : (k : Int) < (len : Int) := by omega
      obtain ⟨p, hp⟩ : ∃ p, ps[k]? = some p := ⟨ps[k]'(by omega), List.getElem?_eq_getElem (by omega)⟩
      obtain ⟨pn, pv⟩ := p
      have HPK : Hid (ps[k]? = some (pn, pv)) := hp
      have HM : Hid ((pn, pv) ∈ ps) := List.mem_of_getElem? hp
      obtain ⟨ha0, _⟩ := HX.out.lies (by omega)
      subst ha0
      have hXr := HX.out.below HB.out
      have c1 : wr.cell? ⟨b, off + k * 2, none⟩ = some (.string pn) := hXr.one k _ hp
      have c2 : wr.cell? ⟨b, off + k * 2 + 1, none⟩ = some (.string pv) := hXr.two k _ hp
      have hsay := HK0.out.says _ HM.out
      clear hp hXr
      cases hf : f (pn, pv)
      · have HS : Hid ((ps.take (k + 1)).any f = false) := by
          show _ = _
          obtain ⟨hk1, e⟩ := List.getElem?_eq_some_iff.1 HPK.out
          rw [List.take_succ_eq_append_getElem hk1, List.any_append, HK.out, e]
          simp [hf]
        go_wp2_with fail
        refine (hsay _).mono ?_
        rintro e w' ⟨rfl, hb'⟩
        rw [hf]
        have HB2 : Hid (Below w.heap.size w w') := HB.out.trans (hb'.mono HB.out.size)
        clear hb'
        go_wp2
        go_roundw
        case rel => exact ⟨k + 1, by omega, by go_num, HS, HB2⟩
        case measure => simp [intOf]; omega
      · have HS : Hid (ps.any f = true) := List.any_eq_true.2 ⟨_, HM.out, hf⟩
        go_wp2_with fail
        refine (hsay _).mono ?_
        rintro e w' ⟨rfl, hb'⟩
        rw [hf]
        have HB2 : Hid (Below w.heap.size w w') := HB.out.trans (hb'.mono HB.out.size)
        clear hb'
        go_wp2
        go_ret
        exact ⟨⟨_, rfl, by show _ = _; rw [HS.out]; exact decide_eq_true (Int.natCast_nonneg _)⟩, HB2.out⟩
    · have hltz : ¬ (k : Int) < (len : Int) := by omega
      have HS : Hid (ps.any f = false) := by
        have := HK.out
        rw [List.take_of_length_le (by omega)] at this
        exact this
      go_wp2
      go_ret
      exact ⟨⟨_, rfl, by show _ = _; rw [HS.out]; rfl⟩, HB.out⟩
theorem overF_any (p : Par) (h1 : p.1.size ≤ 140737488355328) (h2 : p.2.size ≤ 140737488355328) (w : World) :
    Calls Tryz.prog 38 #[.agg #[.string p.1, .string p.2]] w fun e w' => e = .returned (.bool (overP p)) ∧ Below w.heap.size w w' := by
  obtain ⟨x, y⟩ := p
  simp only at h1 h2 ⊢
  have HO : Hid (overP (x, y) = decide ((300 : Int) < (x.size : Int) + (y.size : Int))) := by
    show _ = _
    unfold overP
    simp only [← Int.ofNat_lt]
    rfl
  go_enter Tryz.func38, Tryz.ntmps38
  go_wp2
  go_ret
  exact ⟨ret_bool HO.out.symm, (Below.refl _ _).alloc (Nat.le_refl _) _⟩
/-- Few headers, and small ones. -/
def fewL (ps : List Par) : Bool := decide (ps.length ≤ 40) && !ps.any overP
set_option maxHeartbeats 1000000 in
theorem few_any (ps : List Par) (hz : ∀ p ∈ ps, p.1.size ≤ 140737488355328 ∧ p.2.size ≤ 140737488355328) (a0 : Option Addr) (len cap b off : Nat) (hlb : len ≤ 9223372036854775807) (w : World) (hx : Pars w a0 len b off ps) :
    Calls Tryz.prog 18 #[.slice a0 len cap] w fun e w' => e = .returned (.bool (fewL ps)) ∧ Below w.heap.size w w' := by
  have hl := hx.len_eq
  by_cases h : len ≤ 40
  · have h' : (len : Int) ≤ 40 := by omega
    have hK : KindP 38 overP ps := ⟨fun p hp w => overF_any p (hz p hp).1 (hz p hp).2 w, enters_at Tryz.func38 (by kernel_rfl) rfl⟩
    have hcon : ∀ w', Pars w' a0 len b off ps → Calls Tryz.prog 37 #[.slice a0 len cap, .func (.func 38) #[] #[]] w' fun e w'' => e = .returned (.bool (ps.any overP)) ∧ Below w'.heap.size w' w'' := fun w' hx' => by
      go_enter Tryz.func37, Tryz.ntmps37
      go_wp2_with (go_at_call 68; refine (indexP8_any _ overP ps hK a0 len cap b off (by omega) _ hx').mono ?_; rintro e w'' ⟨⟨r, rfl, HR⟩, hb⟩)
      go_ret
      exact ⟨ret_bool HR.out, hb⟩
    obtain ⟨q, HQ⟩ : ∃ q, Hid (ps.any overP = q) := ⟨_, rfl⟩
    rw [HQ.out] at hcon
    have HF : Hid (fewL ps = !q) := by
      show _ = _
      unfold fewL
      rw [decide_eq_true (by omega), HQ.out, Bool.true_and]
    clear hK hz
    go_enter Tryz.func18, Tryz.ntmps18
    go_wp2_with fail
    refine (hcon _ hx).mono ?_
    rintro e w1 ⟨rfl, hb1⟩
    go_wp2
    go_ret
    exact ⟨ret_bool HF.out.symm, hb1⟩
  · have h' : ¬ (len : Int) ≤ 40 := by omega
    have HF : Hid (fewL ps = false) := by
      show _ = _
      unfold fewL
      rw [decide_eq_false (by omega), Bool.false_and]
    go_enter Tryz.func18, Tryz.ntmps18
    go_wp2
    go_ret
    exact ⟨ret_bool HF.out.symm, Below.refl _ _⟩
theorem fewL_small {ps : List Par} (h : fewL ps = true) : ps.length ≤ 40 ∧ ∀ p ∈ ps, p.1.size + p.2.size ≤ 300 := by
  unfold fewL at h
  rw [Bool.and_eq_true] at h
  refine ⟨of_decide_eq_true h.1, fun p hp => ?_⟩
  have h2 : ps.any overP = false := by simpa using h.2
  have h3 := List.any_eq_false.1 h2 p hp
  unfold overP at h3
  simpa using h3
end Go.Proofs.YtoblpjknnchlmabGreatDoor

/- Whether a request is few bytes, by the law's own words. -/
namespace Go.Proofs.YtoblpjknnchlmabGreatDoor
open Go.RowKit

def rightB (hs : List Par) (n : Nat) : Bool := fewL hs && decide (n ≤ 600)
theorem rightB_small {hs : List Par} {n : Nat} (h : rightB hs n = true) : hs.length ≤ 40 ∧ (∀ p ∈ hs, p.1.size + p.2.size ≤ 300) ∧ n ≤ 600 := by
  unfold rightB at h
  rw [Bool.and_eq_true, decide_eq_true_eq] at h
  obtain ⟨h1, h2⟩ := fewL_small h.1
  exact ⟨h1, h2, h.2⟩
set_option maxRecDepth 100000 in
set_option maxHeartbeats 4000000 in
theorem rightful_any (hs : List Par) (hz : ∀ p ∈ hs, p.1.size ≤ 140737488355328 ∧ p.2.size ≤ 140737488355328) (ra : Option Addr) (rl rc rb ro : Nat) (hlb : rl ≤ 9223372036854775807)
    (pt fp up : Int) (fs us wi : Bool) (fh uh pa qu me bo : ByteArray) (h1 : fh.size ≤ 140737488355328) (h2 : uh.size ≤ 140737488355328) (h3 : pa.size ≤ 140737488355328) (h4 : qu.size ≤ 140737488355328) (h5 : me.size ≤ 140737488355328) (w : World) (hh : Pars w ra rl rb ro hs) :
    Calls Tryz.prog 17 #[.agg #[.int .i64 pt, .bool fs, .string fh, .int .i64 fp, .bool us, .string uh, .int .i64 up, .string pa, .string qu, .string me, .slice ra rl rc, .bool wi, .string bo]] w fun e w' => e = .returned (.bool (rightB hs (me.size + pa.size + qu.size + uh.size + fh.size))) ∧ Below w.heap.size w w' := by
  have HQ : Hid (BoxQ 28 w #[.int .i64 pt, .bool fs, .string fh, .int .i64 fp, .bool us, .string uh, .int .i64 up, .string pa, .string qu, .string me, .slice ra rl rc, .bool wi, .string bo] (w.alloc (.cells #[.int .i64 pt, .bool fs, .string fh, .int .i64 fp, .bool us, .string uh, .int .i64 up, .string pa, .string qu, .string me, .slice ra rl rc, .bool wi, .string bo] 28))) := BoxQ.new _ _ _
  have hfw := few_any hs hz ra rl rc rb ro hlb _ (hh.below HQ.out.bel)
  obtain ⟨q, HF⟩ : ∃ q, Hid (fewL hs = q) := ⟨_, rfl⟩
  rw [HF.out] at hfw
  have HD : Hid (decide (me.size + pa.size + qu.size + uh.size + fh.size ≤ 600) = decide ((me.size : Int) + (pa.size : Int) + (qu.size : Int) + (uh.size : Int) + (fh.size : Int) ≤ 600)) := by
    show _ = _
    rw [decide_eq_decide]
    omega
  have HR : Hid (rightB hs (me.size + pa.size + qu.size + uh.size + fh.size) = (q && decide ((me.size : Int) + (pa.size : Int) + (qu.size : Int) + (uh.size : Int) + (fh.size : Int) ≤ 600))) := by show _ = _; unfold rightB; rw [HF.out, HD.out]
  have c10 := HQ.out.at 10 _ rfl
  clear hz hh
  go_enter Tryz.func17, Tryz.ntmps17
  go_wp2_with fail
  refine hfw.mono ?_
  rintro e w1 ⟨rfl, hb1⟩
  have HQ1 : Hid (BoxQ 28 w #[.int .i64 pt, .bool fs, .string fh, .int .i64 fp, .bool us, .string uh, .int .i64 up, .string pa, .string qu, .string me, .slice ra rl rc, .bool wi, .string bo] w1) := HQ.out.step hb1
  clear hfw hb1 c10 HQ
  have c2 := HQ1.out.at 2 _ rfl
  have c5 := HQ1.out.at 5 _ rfl
  have c7 := HQ1.out.at 7 _ rfl
  have c8 := HQ1.out.at 8 _ rfl
  have c9 := HQ1.out.at 9 _ rfl
  cases q
  · go_wp2
    go_ret
    exact ⟨ret_bool (by rw [HR.out]; rfl), HQ1.out.bel⟩
  · go_wp2
    go_ret
    exact ⟨ret_bool (by rw [HR.out, Bool.true_and]), HQ1.out.bel⟩
end Go.Proofs.YtoblpjknnchlmabGreatDoor

/- What must be asked for, as lists: rising, each once, in small letters; in whichever order. -/
namespace Go.Proofs.YtoblpjknnchlmabGreatDoor
open Go.RowKit

theorem lt_of_le_ne8 {a b : List UInt8} (h : a ≤ b) (hne : a ≠ b) : a < b := by
  rcases Decidable.em (a < b) with h1 | h1
  · exact h1
  · exact absurd (List.le_antisymm h (List.not_lt.1 h1)) hne
theorem compact_rises (ss : List (List UInt8)) (hs : ss.Pairwise fun a b => a ≤ b) : ∀ m, m ≤ ss.length → (Lib.compactUpTo ss.toArray m).Pairwise (fun a b => a < b) ∧ ∀ x ∈ Lib.compactUpTo ss.toArray m, ∀ z, ss[m - 1]? = some z → x = z ∨ x < z
  | 0, _ => by
    unfold Lib.compactUpTo
    simp
  | m + 1, hm => by
    obtain ⟨h1, h2⟩ := compact_rises ss hs m (by omega)
    have hml : m < ss.length := by omega
    have em : ss.toArray[m]! = ss[m] := by simp [getElem!_pos, hml]
    rw [Lib.compactUpTo_succ]
    by_cases h0 : m = 0
    · subst h0
      have e0 : Lib.compactUpTo ss.toArray 0 = [] := by unfold Lib.compactUpTo; simp
      rw [e0, if_pos (by simp [Lib.keeps]), em]
      refine ⟨by simp, fun x hx z hz => ?_⟩
      have hz' : ss[0]? = some z := by simpa using hz
      obtain ⟨_, e⟩ := List.getElem?_eq_some_iff.1 hz'
      exact .inl ((show x = ss[0] by simpa using hx).trans e)
    · have em1 : ss.toArray[m - 1]! = ss[m - 1] := by simp [getElem!_pos, show m - 1 < ss.length by omega]
      have hle : ss[m - 1] ≤ ss[m] := List.pairwise_iff_getElem.1 hs (m - 1) m (by omega) hml (by omega)
      by_cases he : ss[m] = ss[m - 1]
      · rw [if_neg (by unfold Lib.keeps; rw [em, em1]; simp [h0, he])]
        simp only [List.append_nil]
        refine ⟨h1, fun x hx z hz => ?_⟩
        have hz' : ss[m]? = some z := by simpa using hz
        obtain ⟨_, e⟩ := List.getElem?_eq_some_iff.1 hz'
        rw [← e, he]
        exact h2 x hx _ (List.getElem?_eq_getElem (by omega))
      · have hlt : ss[m - 1] < ss[m] := lt_of_le_ne8 hle (fun e => he e.symm)
        rw [if_pos (by unfold Lib.keeps; rw [em, em1]; simp [he]), em]
        have hall : ∀ x ∈ Lib.compactUpTo ss.toArray m, x < ss[m] := fun x hx => by
          rcases h2 x hx _ (List.getElem?_eq_getElem (show m - 1 < ss.length by omega)) with e | e
          · rw [e]; exact hlt
          · exact List.lt_trans e hlt
        refine ⟨?_, fun x hx z hz => ?_⟩
        · rw [List.pairwise_append]
          exact ⟨h1, by simp, fun a ha b hb => by rw [List.mem_singleton.1 hb]; exact hall a ha⟩
        · have hz' : ss[m]? = some z := by simpa using hz
          obtain ⟨_, e⟩ := List.getElem?_eq_some_iff.1 hz'
          rw [← e]
          rcases List.mem_append.1 hx with h | h
          · exact .inr (hall x h)
          · exact .inl (List.mem_singleton.1 h)
theorem compact_mem (ss : List (List UInt8)) (x : List UInt8) (h : x ∈ Lib.compact ss) : x ∈ ss := by
  unfold Lib.compact Lib.compactUpTo at h
  obtain ⟨j, hj, rfl⟩ := List.mem_map.1 h
  have hj1 := List.mem_range.1 (List.mem_filter.1 hj).1
  rw [show ss.toArray[j]! = ss[j] by simp [getElem!_pos, hj1]]
  exact List.getElem_mem hj1
/-- The names that must be asked for, as lists. -/
def askT (ps : List Par) : List (List UInt8) := Lib.compact (sortL (tx (askedNames ps)))
theorem askedL_is (ps : List Par) : askedL ps = (askT ps).map bs := rfl
theorem askT_rises (ps : List Par) : (askT ps).Pairwise fun a b => a < b := by
  have := (compact_rises (sortL (tx (askedNames ps))) (sortL_sorted _) _ (Nat.le_refl _)).1
  exact this
theorem askT_next (ps : List Par) (k : Nat) (x y : List UInt8) (hx : (askT ps)[k]? = some x) (hy : (askT ps)[k + 1]? = some y) : x < y := by
  obtain ⟨h1, e1⟩ := List.getElem?_eq_some_iff.1 hx
  obtain ⟨h2, e2⟩ := List.getElem?_eq_some_iff.1 hy
  rw [← e1, ← e2]
  exact List.pairwise_iff_getElem.1 (askT_rises ps) k (k + 1) h1 h2 (by omega)
theorem low8_low : ∀ c : UInt8, low (low c) = low c := by
  intro c
  have : ∀ n : Fin 256, low (low (UInt8.ofNat n.1)) = low (UInt8.ofNat n.1) := by decide +kernel
  have h := this ⟨c.toNat, c.toNat_lt⟩
  simpa using h
theorem askT_from (ps : List Par) (x : List UInt8) (h : x ∈ askT ps) : ∃ p ∈ ps, x = p.1.data.toList.map low := by
  have h1 := compact_mem _ x h
  have h2 := (sortL_perm _).mem_iff.1 h1
  unfold tx at h2
  obtain ⟨b, hb, rfl⟩ := List.mem_map.1 h2
  have h3 : ∃ p ∈ ps, b = lowN p := by
    unfold askedNames notPlain arePlain at hb
    split at hb
    · rcases List.mem_append.1 hb with h | h
      · obtain ⟨p, hp, e⟩ := List.mem_map.1 h; exact ⟨p, (List.mem_filter.1 hp).1, e.symm⟩
      · obtain ⟨p, hp, e⟩ := List.mem_map.1 h; exact ⟨p, (List.mem_filter.1 hp).1, e.symm⟩
    · obtain ⟨p, hp, e⟩ := List.mem_map.1 hb; exact ⟨p, (List.mem_filter.1 hp).1, e.symm⟩
  obtain ⟨p, hp, rfl⟩ := h3
  exact ⟨p, hp, by unfold lowN; rw [bs_data]⟩
theorem askT_low (ps : List Par) (x : List UInt8) (h : x ∈ askT ps) : x.map low = x := by
  obtain ⟨p, _, rfl⟩ := askT_from ps x h
  rw [List.map_map]
  apply List.map_congr_left
  intro c _
  exact low8_low c
theorem askT_size (ps : List Par) (hs : Small8 ps) (x : List UInt8) (h : x ∈ askT ps) : (bs x).size ≤ 3000 := by
  obtain ⟨p, hp, rfl⟩ := askT_from ps x h
  rw [bs_size, List.length_map]
  have e : p.1.data.toList.length = p.1.size := Array.length_toList
  have := (hs p hp).1
  omega
theorem together_rev (ps : List Par) : together ps.reverse = together ps := by
  unfold together
  rw [List.filter_reverse, List.map_reverse, List.sum_reverse]
theorem askedL_rev (ps : List Par) : askedL ps.reverse = askedL ps := by
  unfold askedL
  congr 2
  apply sortL_of_perm
  unfold tx
  apply List.Perm.map
  unfold askedNames
  rw [together_rev]
  have h1 : (notPlain ps.reverse).Perm (notPlain ps) := by
    unfold notPlain
    rw [List.filter_reverse, List.map_reverse]
    exact List.reverse_perm _
  have h2 : (arePlain ps.reverse).Perm (arePlain ps) := by
    unfold arePlain
    rw [List.filter_reverse, List.map_reverse]
    exact List.reverse_perm _
  split
  · exact h1.append h2
  · exact h1
theorem not_leq (x y : List UInt8) (h : x < y) : (Op.bytesLess y x || y == x) = false := by
  rw [bytesLess_eq]
  have h1 : ¬ y < x := fun h2 => List.lt_irrefl x (List.lt_trans h h2)
  have h2 : y ≠ x := fun e => List.lt_irrefl x (by rw [e] at h; exact h)
  rw [decide_eq_false h1, beq_eq_false_iff_ne.2 h2]
  rfl
theorem asked_len (ps : List Par) : (askedL ps).length ≤ ps.length := by
  unfold askedL
  rw [List.length_map]
  have h1 := compact_len (sortL (tx (askedNames ps)))
  have h2 : (tx (askedNames ps)).length = (askedNames ps).length := by unfold tx; simp
  rw [sortL_len, h2] at h1
  have h3 := lens_le ps
  have h4 : (askedNames ps).length ≤ ps.length := by
    unfold askedNames
    split
    · rw [List.length_append]; omega
    · omega
  omega
end Go.Proofs.YtoblpjknnchlmabGreatDoor

/- What stands in the row of what must be asked for. -/
namespace Go.Proofs.YtoblpjknnchlmabGreatDoor
open Go.RowKit

theorem kept_mem (ss : List (List UInt8)) : ∀ (m j : Nat) (x : List UInt8), j < m → m ≤ ss.length → ss[j]? = some x → x ∈ Lib.compactUpTo ss.toArray m
  | 0, j, x, h, _, _ => absurd h (by omega)
  | m + 1, j, x, hj, hm, hx => by
    rw [Lib.compactUpTo_succ, List.mem_append]
    by_cases hjm : j < m
    · exact .inl (kept_mem ss m j x hjm (by omega) hx)
    · obtain rfl : j = m := by omega
      obtain ⟨h1, e1⟩ := List.getElem?_eq_some_iff.1 hx
      have em : ss.toArray[j]! = x := by simp [getElem!_pos, h1, e1]
      by_cases hk : Lib.keeps ss.toArray j = true
      · exact .inr (by rw [if_pos hk, em]; simp)
      · have hj0 : j ≠ 0 := fun e => hk (by unfold Lib.keeps; simp [e])
        have he : ss.toArray[j]! = ss.toArray[j - 1]! := by
          rcases Decidable.em (ss.toArray[j]! = ss.toArray[j - 1]!) with e | e
          · exact e
          · exact absurd (by unfold Lib.keeps; exact decide_eq_true (.inr e)) hk
        have hy : ss[j - 1]? = some x := by
          rw [List.getElem?_eq_getElem (show j - 1 < ss.length by omega)]
          congr 1
          rw [← em, he]
          simp [getElem!_pos, show j - 1 < ss.length by omega]
        exact .inl (kept_mem ss j (j - 1) x (by omega) (by omega) hy)
theorem askedL_mem (ps : List Par) (x : ByteArray) : x ∈ askedL ps ↔ x ∈ askedNames ps := by
  constructor
  · intro h
    rw [askedL_is] at h
    obtain ⟨l, hl, rfl⟩ := List.mem_map.1 h
    have h2 := (sortL_perm _).mem_iff.1 (compact_mem _ l hl)
    unfold tx at h2
    obtain ⟨b, hb, rfl⟩ := List.mem_map.1 h2
    rw [bs_self]
    exact hb
  · intro h
    have h1 : x.data.toList ∈ sortL (tx (askedNames ps)) := (sortL_perm _).mem_iff.2 (List.mem_map.2 ⟨x, h, rfl⟩)
    obtain ⟨j, hj⟩ := List.mem_iff_getElem?.1 h1
    have h2 := kept_mem _ _ j _ (List.getElem?_eq_some_iff.1 hj).1 (Nat.le_refl _) hj
    rw [askedL_is]
    exact List.mem_map.2 ⟨_, h2, bs_self x⟩
end Go.Proofs.YtoblpjknnchlmabGreatDoor

/- More passes allow no less, fewer headers want no more. -/
namespace Go.Proofs.YtoblpjknnchlmabGreatDoor
open Go.RowKit

theorem coversL_more {wi : Bool} {m : ByteArray} {xs : List ByteArray} {ps qs : List PsV} (h : ∀ p ∈ ps, p ∈ qs) (hc : coversL wi m xs ps = true) : coversL wi m xs qs = true := by
  unfold coversL at hc ⊢
  rw [Bool.and_eq_true, Bool.or_eq_true] at hc ⊢
  have ha : ∀ f : PsV → Bool, ps.any f = true → qs.any f = true := fun f hf => by
    obtain ⟨p, hp, e⟩ := List.any_eq_true.1 hf
    exact List.any_eq_true.2 ⟨p, h p hp, e⟩
  refine ⟨hc.1.imp id (ha _), List.all_eq_true.2 fun n hn => ha _ (List.all_eq_true.1 hc.2 n hn)⟩
theorem coversL_less {wi : Bool} {m : ByteArray} {xs ys : List ByteArray} {ps : List PsV} (h : ∀ y ∈ ys, y ∈ xs) (hc : coversL wi m xs ps = true) : coversL wi m ys ps = true := by
  unfold coversL at hc ⊢
  rw [Bool.and_eq_true] at hc ⊢
  exact ⟨hc.1, List.all_eq_true.2 fun n hn => List.all_eq_true.1 hc.2 n (h n hn)⟩
theorem asked_tail (p : Par) (t : List Par) (x : ByteArray) (h : x ∈ askedL t) : x ∈ askedL (p :: t) := by
  rw [askedL_mem] at h ⊢
  have h1 : ∀ y ∈ notPlain t, y ∈ notPlain (p :: t) := fun y hy => by
    unfold notPlain at hy ⊢
    obtain ⟨q, hq, e⟩ := List.mem_map.1 hy
    refine List.mem_map.2 ⟨q, ?_, e⟩
    have := List.mem_filter.1 hq
    exact List.mem_filter.2 ⟨List.mem_cons_of_mem _ this.1, this.2⟩
  have h2 : ∀ y ∈ arePlain t, y ∈ arePlain (p :: t) := fun y hy => by
    unfold arePlain at hy ⊢
    obtain ⟨q, hq, e⟩ := List.mem_map.1 hy
    refine List.mem_map.2 ⟨q, ?_, e⟩
    have := List.mem_filter.1 hq
    exact List.mem_filter.2 ⟨List.mem_cons_of_mem _ this.1, this.2⟩
  have h3 : together t ≤ together (p :: t) := by
    unfold together
    rw [List.filter_cons]
    split
    · rw [List.map_cons, List.sum_cons]; omega
    · exact Nat.le_refl _
  unfold askedNames at h ⊢
  split at h
  · rw [if_pos (by omega)]
    rcases List.mem_append.1 h with h | h
    · exact List.mem_append.2 (.inl (h1 x h))
    · exact List.mem_append.2 (.inr (h2 x h))
  · split
    · exact List.mem_append.2 (.inl (h1 x h))
    · exact h1 x h
theorem Pars.tail {w : World} {b off len : Nat} {a0 : Option Addr} {p : Par} {t : List Par} (h : Pars w a0 len b off (p :: t)) : Pars w (some ⟨b, off + 2, none⟩) (len - 1) b (off + 2) t := by
  have hl : t.length + 1 = len := h.len_eq
  refine ⟨by omega, fun h0 => ⟨rfl, (h.lies (by omega)).2⟩, fun j q hq => ?_, fun j q hq => ?_⟩
  · have := h.one (j + 1) q hq
    rwa [show off + (j + 1) * 2 = off + 2 + j * 2 by omega] at this
  · have := h.two (j + 1) q hq
    rwa [show off + (j + 1) * 2 + 1 = off + 2 + j * 2 + 1 by omega] at this
end Go.Proofs.YtoblpjknnchlmabGreatDoor

/- Two rows of passes behind each other, by the library's own functions. -/
namespace Go.Proofs.YtoblpjknnchlmabGreatDoor
open Go.RowKit Go.Shelf

def growQ_ren : Go.Shelf.Ren := ⟨fun | 4 => 49 | n => n, fun | 22 => 46 | 25 => 50 | 20 => 20 | n => n, fun | n => n⟩
theorem growQL : Go.Proofs.Lays8.n4 Tryz.prog growQ_ren := {
  mixed := by kernel_rfl
  f4 := ⟨"slices.Grow[[]gatepost/api.Pass,gatepost/api.Pass]", by kernel_rfl, Tryz.func49.trans (congrArg some (by kernel_rfl))⟩
  t0 := Tryz.underlying0
  a0 := Tryz.isAgg0
  z0 := Tryz.sizeOf0
  v0 := Tryz.zeroValue0
  t3 := Tryz.underlying3
  a3 := Tryz.isAgg3
  z3 := Tryz.sizeOf3
  v3 := Tryz.zeroValue3
  t4 := Tryz.underlying4
  a4 := Tryz.isAgg4
  z4 := Tryz.sizeOf4
  v4 := Tryz.zeroValue4
  t9 := Tryz.underlying9
  a9 := Tryz.isAgg9
  z9 := Tryz.sizeOf9
  v9 := Tryz.zeroValue9
  t20 := Tryz.underlying20
  a20 := Tryz.isAgg20
  z20 := Tryz.sizeOf20
  v20 := Tryz.zeroValue20
  t22 := Tryz.underlying46
  a22 := Tryz.isAgg46
  z22 := Tryz.sizeOf46
  v22 := Tryz.zeroValue46 }
/-- A value of type []api.Pass that owns these passes. -/
def OwnQ (w : World) (B : Nat) (v : Value) (ps : List PsV) : Prop := OwnK 12 50 w B v (ps.map PsV.vals)
theorem valsq_len (ps : List PsV) : ∀ x ∈ ps.map PsV.vals, x.length = 12 := fun x hx => by
  obtain ⟨p, _, rfl⟩ := List.mem_map.1 hx
  rfl
theorem valsq_one (ps : List PsV) : ∀ x ∈ ps.map PsV.vals, ∀ u ∈ x, u.oneCell' = true := fun x hx => by
  obtain ⟨p, _, rfl⟩ := List.mem_map.1 hx
  exact vals_one p
theorem ownQ_nil (w : World) (B : Nat) : OwnQ w B (.slice none 0 0) [] := ownK_nil 12 _ w B
theorem OwnQ.pss {w : World} {B : Nat} {v : Value} {ps : List PsV} (h : OwnQ w B v ps) : ∃ (a : Option Addr) (cap g : Nat), v = .slice a ps.length cap ∧ Pss w a ps.length g 0 ps := by
  have hl : (ps.map PsV.vals).length = ps.length := by simp
  rcases OwnK.forms h with ⟨rfl, he⟩ | ⟨g, cap, rfl, hB, hg, hc, _⟩
  · have h0 : ps = [] := by simpa using he
    subst h0
    exact ⟨none, 0, 0, rfl, pss_nil w⟩
  · refine ⟨_, cap, g, by rw [hl], rfl, fun _ => ⟨rfl, hg⟩, fun j v hj i u hi => ?_⟩
    have hj' : (ps.map PsV.vals)[j]? = some v.vals := by rw [List.getElem?_map, hj]; rfl
    rw [Nat.zero_add]
    exact OwnK.cell (show OwnK 12 50 w B (.slice (some ⟨g, 0, none⟩) (ps.map PsV.vals).length cap) (ps.map PsV.vals) from h) hj' hi
theorem flatq_len (ps : List PsV) : (ps.map PsV.vals).flatten.length = ps.length * 12 := by
  rw [flat_len (valsq_len ps), List.length_map]
theorem flatq_cell {w : World} {a : Option Addr} {m b off : Nat} {ys : List PsV} (hy : Pss w a m b off ys) {j : Nat} {u : Value} (hu : (ys.map PsV.vals).flatten[j]? = some u) : w.cell? ⟨b, off + j, none⟩ = some u := by
  have hj : j < (ys.map PsV.vals).flatten.length := (List.getElem?_eq_some_iff.1 hu).1
  rw [flatq_len] at hj
  have h1 : j / 12 < ys.length := by omega
  have hp : ys[j / 12]? = some (ys[j / 12]'h1) := List.getElem?_eq_getElem h1
  have hv : (ys.map PsV.vals)[j / 12]? = some (ys[j / 12]'h1).vals := by rw [List.getElem?_map, hp]; rfl
  have hi : j % 12 < (ys[j / 12]'h1).vals.length := by show j % 12 < 12; omega
  have hq := flat_at (valsq_len ys) hv (List.getElem?_eq_getElem hi)
  rw [show j / 12 * 12 + j % 12 = j by omega, hu] at hq
  have := hy.cells (j / 12) _ hp (j % 12) u (by rw [List.getElem?_eq_getElem hi]; exact hq.symm)
  rwa [show off + j / 12 * 12 + j % 12 = off + j by omega] at this
theorem appendQ_none (W : World) (ty : TypeId) (base a : Option Addr) (sl sc c : Nat) (hle : sl ≤ sc) : (Builtin.append_ #[46, 46] ty #[.slice base sl sc, .slice a 0 c]).run Tryz.prog W = .ok (.slice base sl sc) W := by
  obtain ⟨i0, hi0, hz0, hz1, hz2⟩ := info_parts infoX
  refine run_append_nothing W 46 46 ty 50 i0 Tryz.underlying46 hi0 base sl sc hle _ ?_
  cases a with
  | none => exact Src.ofNil _ Tryz.underlying46 c
  | some a => exact Src.ofSlice _ Tryz.underlying46 a 0 c [] (by simp) (fun j u h => by simp at h) (fun u h => absurd h (by simp))
/-- A row of texts behind a row that is owned. -/
theorem wp_apprq {ops : Array Oper} {rest : List Oper} {o : Oper} {a : Act} {Q : Exit → Act → World → Prop} (hgd : o.guard = none) (s x : Operand)
    (ho : o.op = .call { callee := .builtin .append, args := #[s, x], argTypes := #[46, 46] })
    (B : Nat) (wr : World) (v : Value) (xs : List PsV) (hs : a.eval s = v) (hown : OwnQ wr B v xs) (hl : xs.length ≤ 1000) (hB : B ≤ wr.heap.size)
    (a2 : Option Addr) (m c b off : Nat) (ys : List PsV) (hx : a.eval x = .slice a2 m c) (hy : Pss wr a2 m b off ys) (hm : m ≤ 1000)
    (h : ∀ v' w', OwnQ w' B v' (xs ++ ys) → wr.grownBy w' v.ownBlock → wpList Tryz.prog ops Q rest (a.put o.dst v') w') :
    wpList Tryz.prog ops Q (o :: rest) a wr := by
  obtain ⟨i0, hi0, hz0, hz1, hz2⟩ := info_parts infoX
  have hym := hy.len_eq
  by_cases h0 : m = 0
  · subst h0
    have e : ys = [] := List.eq_nil_of_length_eq_zero hym
    subst e
    rcases hown.row.2 with ⟨rfl, hz⟩ | ⟨g, cap, cur, rfl, _, _, hle, _⟩
    · refine Lib.wpList_append_run _ hgd s x _ _ ho _ _ hs hx _ _ (appendQ_none wr _ none a2 0 0 c (Nat.le_refl _)) (h _ _ ?_ (World.grownBy.refl _ _))
      rw [List.append_nil]
      exact hown
    · refine Lib.wpList_append_run _ hgd s x _ _ ho _ _ hs hx _ _ (appendQ_none wr _ _ a2 _ _ c hle) (h _ _ ?_ (World.grownBy.refl _ _))
      rw [List.append_nil]
      exact hown
  · obtain ⟨rfl, _⟩ := hy.lies (by omega)
    have hxl : (xs.map PsV.vals).length ≤ 1000 := by rw [List.length_map]; exact hl
    refine wpList_append_lies _ hgd s x 46 ho B 50 i0 (.agg #[.bool false, .string ⟨#[]⟩, .int .i64 0, .bool false, .string ⟨#[]⟩, .int .i64 0, .string ⟨#[]⟩, .string ⟨#[]⟩, .bool false, .string ⟨#[]⟩, .string ⟨#[]⟩, .int .i64 0]) 12 144 Tryz.underlying46 hi0 hz0 hz1 hz2 rfl (by omega) v (xs.map PsV.vals).length _ hs hown.row ⟨b, off, none⟩ m c (ys.map PsV.vals).flatten hx (by rw [flatq_len, hym])
      (fun j u hu => ?_) (fun u hu => ?_) (by omega) (by unfold maxLen; omega) (by omega) hB _ rfl ?_
    · rw [WideShapes.add_plain]
      exact flatq_cell hy hu
    · obtain ⟨x, hx1, hx2⟩ := List.mem_flatten.1 hu
      exact valsq_one ys x hx1 u hx2
    · intro g cap w' hown1 hgrow _ hlt
      refine h _ w' ⟨?_, valsq_len _, valsq_one _⟩ hgrow
      rw [List.map_append, List.length_append, List.flatten_append, List.length_map, List.length_map, hym]
      rw [List.length_map] at hown1
      exact hown1
theorem growQ_nil (n : Nat) (hn : n ≤ 1000) (w : World) :
    Calls Tryz.prog 49 #[.slice none 0 0, .int .i64 (n : Int)] w fun e w' => ∃ v, e = .returned v ∧ OwnQ w' w.heap.size v [] ∧ Below w.heap.size w w' := by
  obtain ⟨i0, hi0, hz0, hz1, hz2⟩ := info_parts infoX
  by_cases h0 : n = 0
  · subst h0
    refine (Any8.slices_Grow_room growQL none 0 0 0 w (Nat.le_refl _) (by omega) (by omega) (by omega)).mono ?_
    rintro e w' ⟨rfl, rfl⟩
    exact ⟨_, rfl, ownQ_nil _ _, Below.refl _ _⟩
  · refine (Any8.slices_Grow_grow growQL i0 (.agg #[.bool false, .string ⟨#[]⟩, .int .i64 0, .bool false, .string ⟨#[]⟩, .int .i64 0, .string ⟨#[]⟩, .string ⟨#[]⟩, .bool false, .string ⟨#[]⟩, .string ⟨#[]⟩, .int .i64 0]) hi0 hz0 (by omega) none 0 0 n [] w (Nat.le_refl _) (by omega) (by rw [hz2]; omega) (by omega) (by simp) (fun _ => rfl) (fun a ha => by cases ha)).mono ?_
    rintro e w' ⟨rfl, rfl⟩
    have hge : 0 + n ≤ grownCap w (0 + n) 0 (growQ_ren.t 25) := grownCap_ge w _ _ _
    have hle : grownCap w (0 + n) 0 (growQ_ren.t 25) ≤ maxLen := grownCap_le_maxLen w (0 + n) 0 _ (by unfold maxLen; omega)
    refine ⟨_, rfl, ?_, ((Below.refl _ _).drew).alloc (Nat.le_refl _) _⟩
    generalize grownCap w (0 + n) 0 (growQ_ren.t 25) = G at hge hle
    refine ⟨⟨rfl, .inr ⟨_, _, _, rfl, Nat.le_refl _, heap_alloc_new w.drew _, Nat.zero_le _, hle, ?_, ?_⟩⟩, (fun x hx => by cases hx), (fun x hx => by cases hx)⟩
    · simp [Builtin.zeroCells, Value.cells]
      omega
    · simp
set_option maxRecDepth 100000 in
set_option maxHeartbeats 2000000 in
theorem concatQ_two (g : Nat) (a1 a2 : Option Addr) (n1 c1 b1 o1 n2 c2 b2 o2 : Nat) (xs ys : List PsV) (w : World) (hg : g < w.heap.size) (h1 : w.cell? ⟨g, 0, none⟩ = some (.slice a1 n1 c1)) (h2 : w.cell? ⟨g, 0 + 1, none⟩ = some (.slice a2 n2 c2))
    (hx : Pss w a1 n1 b1 o1 xs) (hy : Pss w a2 n2 b2 o2 ys) (hn1 : n1 ≤ 100) (hn2 : n2 ≤ 100) :
    Calls Tryz.prog 24 #[.slice (some ⟨g, 0, none⟩) 2 2] w fun e w' => ∃ v, e = .returned v ∧ OwnQ w' w.heap.size v (xs ++ ys) ∧ Below w.heap.size w w' := by
  have HX : Hid (Pss w a1 n1 b1 o1 xs) := hx
  have HY : Hid (Pss w a2 n2 b2 o2 ys) := hy
  clear hx hy
  go_enter Tryz.func24, Tryz.ntmps24
  have s1 : IntKind.i64.wrap (0 + (n1 : Int)) = (n1 : Int) := by unfold IntKind.wrap; simp [IntKind.bits, IntKind.signed]; omega
  have hgr : ∀ w, Calls Tryz.prog 49 #[.slice none 0 0, .int .i64 ((n1 : Int) + (n2 : Int))] w fun e w' => ∃ v, e = .returned v ∧ OwnQ w' w.heap.size v [] ∧ Below w.heap.size w w' := fun w => by
    have := growQ_nil (n1 + n2) (by omega) w
    push_cast at this
    exact this
  have hl1 := HX.out.len_eq
  have hl2 := HY.out.len_eq
  go_wp2
  refine wp_loop_rounds 3 ?_
  rw [rounds_succ]
  go_wp2
  rw [rounds_succ]
  go_wp2
  rw [rounds_succ]
  go_wp2_with fail
  refine (hgr _).mono ?_
  rintro e w3 ⟨v3, rfl, hown3, hb3⟩
  have HO3 : Hid (OwnQ w3 w.heap.size v3 []) := hown3
  have f1 : w3.cell? ⟨g, 0, none⟩ = some (.slice a1 n1 c1) := (hb3.cell (p := ⟨g, 0, none⟩) hg).trans h1
  have z3 := hb3.size
  have HX3 : Hid (Pss w3 a1 n1 b1 o1 xs) := HX.out.below hb3
  have HF2 : Hid (w3.cell? ⟨g, 0 + 1, none⟩ = some (.slice a2 n2 c2)) := (hb3.cell (p := ⟨g, 0 + 1, none⟩) hg).trans h2
  clear hown3
  go_wp2
  refine wp_loop_rounds 3 ?_
  rw [rounds_succ]
  go_wp2_with (at_builtin; refine wp_apprq rfl _ _ rfl w.heap.size w3 v3 [] rfl HO3.out (by simp) z3 a1 n1 c1 b1 o1 xs rfl HX3.out (by omega) ?_; intro v4 w4 hown4 hg4; have HO4 : Hid (OwnQ w4 w.heap.size v4 xs) := hown4; clear hown4)
  have hb4 : Below w.heap.size w w4 := hb3.grown hg4 z3 (fun i hi => (HO3.out.lt i hi).1)
  have z4 := hb4.size
  have f2 : w4.cell? ⟨g, 1, none⟩ = some (.slice a2 n2 c2) := (hb4.cell (p := ⟨g, 1, none⟩) hg).trans h2
  have HY4 : Hid (Pss w4 a2 n2 b2 o2 ys) := HY.out.below hb4
  clear hg4 HF2 f1
  rw [rounds_succ]
  go_wp2_with (at_builtin; refine wp_apprq rfl _ _ rfl w.heap.size w4 v4 xs rfl HO4.out (by omega) z4 a2 n2 c2 b2 o2 ys rfl HY4.out (by omega) ?_; intro v5 w5 hown5 hg5; have HO5 : Hid (OwnQ w5 w.heap.size v5 (xs ++ ys)) := hown5; clear hown5)
  have hb5 : Below w.heap.size w w5 := hb4.grown hg5 z4 (fun i hi => (HO4.out.lt i hi).1)
  clear hg5
  rw [rounds_succ]
  go_wp2
  go_ret
  exact ⟨v5, rfl, HO5, hb5⟩
end Go.Proofs.YtoblpjknnchlmabGreatDoor

/- A row of passes turned around, by the library's own function. -/
namespace Go.Proofs.YtoblpjknnchlmabGreatDoor
open Go.RowKit
set_option linter.unusedVariables false
set_option linter.unusedSimpArgs false

/-- The first k, and the last k, have changed places. -/
def RevQ (cs ds : List PsV) (n k : Nat) : Prop := ds.length = n ∧ ∀ m, m < n → ds[m]? = if m < k ∨ n < m + 1 + k then cs[n - 1 - m]? else cs[m]?
theorem revQ_zero (cs : List PsV) : RevQ cs cs cs.length 0 := ⟨rfl, fun m hm => by rw [if_neg (by omega)]⟩
theorem revQ_step {cs ds : List PsV} {n k : Nat} {ci cj : PsV} (h : RevQ cs ds n k) (hk : 2 * k + 1 < n) (hi : ds[k]? = some ci) (hj : ds[n - 1 - k]? = some cj) : RevQ cs ((ds.set k cj).set (n - 1 - k) ci) n (k + 1) := by
  have h1 := h.2 k (by omega)
  rw [if_neg (by omega), hi] at h1
  have h2 := h.2 (n - 1 - k) (by omega)
  rw [if_neg (by omega), hj] at h2
  refine ⟨by simp [h.1], fun m hm => ?_⟩
  rw [List.getElem?_set, List.getElem?_set, List.length_set, h.1]
  by_cases e1 : n - 1 - k = m
  · rw [if_pos e1, if_pos (by omega), if_pos (by omega), h1]
    congr 1
    omega
  · rw [if_neg e1]
    by_cases e2 : k = m
    · rw [if_pos e2, if_pos (by omega), if_pos (by omega), h2]
      congr 1
      omega
    · rw [if_neg e2, h.2 m hm]
      by_cases e3 : m < k ∨ n < m + 1 + k
      · rw [if_pos e3, if_pos (by omega)]
      · rw [if_neg e3, if_neg (by omega)]
theorem revQ_end {cs ds : List PsV} {n k : Nat} (hc : cs.length = n) (h : RevQ cs ds n k) (hk : n ≤ 2 * k + 1) : ds = cs.reverse := by
  refine List.ext_getElem? fun m => ?_
  by_cases hm : m < n
  · rw [List.getElem?_reverse (by omega), hc, h.2 m hm]
    by_cases e : m < k ∨ n < m + 1 + k
    · rw [if_pos e]
    · rw [if_neg e]
      congr 1
      omega
  · rw [List.getElem?_eq_none (by rw [h.1]; omega), List.getElem?_eq_none (by simp; omega)]
theorem OwnQ.cells12 {w : World} {B g n cap : Nat} {ds : List PsV} (h : OwnQ w B (.slice (some ⟨g, 0, none⟩) n cap) ds) {j : Nat} {v : PsV} (hj : ds[j]? = some v) :
    w.cell? ⟨g, j * 12, none⟩ = some (.bool v.fs) ∧ w.cell? ⟨g, j * 12 + 1, none⟩ = some (.string v.fh) ∧ w.cell? ⟨g, j * 12 + 2, none⟩ = some (.int .i64 v.fp) ∧ w.cell? ⟨g, j * 12 + 3, none⟩ = some (.bool v.us) ∧ w.cell? ⟨g, j * 12 + 4, none⟩ = some (.string v.uh) ∧ w.cell? ⟨g, j * 12 + 5, none⟩ = some (.int .i64 v.up) ∧ w.cell? ⟨g, j * 12 + 6, none⟩ = some (.string v.pa) ∧ w.cell? ⟨g, j * 12 + 7, none⟩ = some (.string v.qu) ∧ w.cell? ⟨g, j * 12 + 8, none⟩ = some (.bool v.wi) ∧ w.cell? ⟨g, j * 12 + 9, none⟩ = some (.string v.me) ∧ w.cell? ⟨g, j * 12 + 10, none⟩ = some (.string v.he) ∧ w.cell? ⟨g, j * 12 + 11, none⟩ = some (.int .i64 v.un) :=
  have hv : (ds.map PsV.vals)[j]? = some v.vals := by rw [List.getElem?_map, hj]; rfl
  ⟨OwnK.cell h hv (i := 0) rfl, OwnK.cell h hv (i := 1) rfl, OwnK.cell h hv (i := 2) rfl, OwnK.cell h hv (i := 3) rfl, OwnK.cell h hv (i := 4) rfl, OwnK.cell h hv (i := 5) rfl, OwnK.cell h hv (i := 6) rfl, OwnK.cell h hv (i := 7) rfl, OwnK.cell h hv (i := 8) rfl, OwnK.cell h hv (i := 9) rfl, OwnK.cell h hv (i := 10) rfl, OwnK.cell h hv (i := 11) rfl⟩
theorem OwnQ.set {w : World} {B g n cap : Nat} {ds : List PsV} (h : OwnQ w B (.slice (some ⟨g, 0, none⟩) n cap) ds) (i : Nat) (x : PsV) (hi : i < ds.length) : OwnQ (w.setCells g (i * 12) x.vals) B (.slice (some ⟨g, 0, none⟩) n cap) (ds.set i x) := by
  have := OwnK.set (show OwnK 12 50 w B (.slice (some ⟨g, 0, none⟩) n cap) (ds.map PsV.vals) from h) i x.vals rfl (vals_one x) (by rw [List.length_map]; exact hi)
  rw [← List.map_set] at this
  exact this
theorem OwnQ.len {w : World} {B g n cap : Nat} {ds : List PsV} (h : OwnQ w B (.slice (some ⟨g, 0, none⟩) n cap) ds) : n = ds.length ∧ ds.length ≤ cap := by
  rcases OwnK.forms (show OwnK 12 50 w B (.slice (some ⟨g, 0, none⟩) n cap) (ds.map PsV.vals) from h) with ⟨e, _⟩ | ⟨g', cap', e, _, _, h1, _⟩
  · cases e
  · injection e with e1 e2 e3
    rw [List.length_map] at e2 h1
    omega
theorem OwnQ.stores {w : World} {B g n cap : Nat} {ds : List PsV} (h : OwnQ w B (.slice (some ⟨g, 0, none⟩) n cap) ds) (i : Nat) (x : PsV) (hi : i < ds.length) : Sem.run Tryz.prog (storeCells ⟨g, i * 12, none⟩ x.vals 0) w = .ok () (w.setCells g (i * 12) x.vals) := by
  have hk : OwnK 12 50 w B (.slice (some ⟨g, 0, none⟩) n cap) (ds.map PsV.vals) := h
  have hl := h.len
  have := run_storeCells_cells (P := Tryz.prog) g (i * 12) x.vals 0 w (fun j hj => hk.there _ (by rw [vals_len] at hj; omega)) (fun j hj => hk.frozen _) (vals_one x)
  rw [Nat.add_zero] at this
  exact this
set_option maxRecDepth 100000 in
set_option maxHeartbeats 4000000 in
theorem reverseQ_any (cs : List PsV) (B g n cap : Nat) (hl : cs.length = n) (hn : n ≤ 1000) (w : World) (hx : OwnQ w B (.slice (some ⟨g, 0, none⟩) n cap) cs) :
    Calls Tryz.prog 25 #[.slice (some ⟨g, 0, none⟩) n cap] w fun e w' => e = .returned (.tuple #[]) ∧ Hid (OwnQ w' B (.slice (some ⟨g, 0, none⟩) n cap) cs.reverse ∧ w.grownBy w' (some g)) := by
  have HX : Hid (OwnQ w B (.slice (some ⟨g, 0, none⟩) n cap) cs) := hx
  have HL : Hid (cs.length = n) := hl
  clear hx hl
  go_enter Tryz.func25, Tryz.ntmps25
  go_wp2
  go_loopw [2, 3] (fun i j wr => ∃ (k : Nat) (jz : Int) (ds : List PsV), k ≤ n ∧ i = .int .i64 k ∧ j = .int .i64 jz ∧ jz = (n : Int) - 1 - (k : Int) ∧ Hid (RevQ cs ds n k ∧ OwnQ wr B (.slice (some ⟨g, 0, none⟩) n cap) ds ∧ w.grownBy wr (some g))) (fun i _ _ => n - (intOf i).toNat)
  case atStart => exact ⟨0, _, cs, Nat.zero_le _, rfl, rfl, by omega, ⟨by rw [← HL.out]; exact revQ_zero cs, HX.out, World.grownBy.refl _ _⟩⟩
  case round =>
    obtain ⟨k, jz, ds, hk, rfl, rfl, hjz, HI⟩ := hrel
    by_cases hlt : (k : Int) < jz
    · obtain ⟨jn, hjn⟩ : ∃ jn : Nat, jz = jn := ⟨jz.toNat, by omega⟩
      subst hjn
      have hkn : 2 * k + 1 < n := by omega
      have hjk : jn = n - 1 - k := by omega
      have hdl : ds.length = n := HI.out.1.1
      obtain ⟨ci, hci⟩ : ∃ c, ds[k]? = some c := ⟨ds[k]'(by omega), List.getElem?_eq_getElem (by omega)⟩
      obtain ⟨cj, hcj⟩ : ∃ c, ds[jn]? = some c := ⟨ds[jn]'(by omega), List.getElem?_eq_getElem (by omega)⟩
      have HST : Hid (RevQ cs ((ds.set k cj).set jn ci) n (k + 1)) := by
        have := revQ_step HI.out.1 hkn hci (by rw [← hjk]; exact hcj)
        rw [← hjk] at this
        exact this
      have HD : Hid (OwnQ wr.drew B (.slice (some ⟨g, 0, none⟩) n cap) ds) := OwnK.drewN HI.out.2.1 1
      obtain ⟨a0, a1, a2, a3, a4, a5, a6, a7, a8, a9, a10, a11⟩ := HD.out.cells12 hci
      obtain ⟨b0, b1, b2, b3, b4, b5, b6, b7, b8, b9, b10, b11⟩ := HD.out.cells12 hcj
      have hst1 := HD.out.stores k cj (by omega)
      have HD1 : Hid (OwnQ (wr.drew.setCells g (k * 12) cj.vals) B (.slice (some ⟨g, 0, none⟩) n cap) (ds.set k cj)) := HD.out.set k cj (by omega)
      have hst2 := HD1.out.stores jn ci (by rw [List.length_set]; omega)
      have HD2 : Hid (OwnQ ((wr.drew.setCells g (k * 12) cj.vals).setCells g (jn * 12) ci.vals) B (.slice (some ⟨g, 0, none⟩) n cap) ((ds.set k cj).set jn ci)) := HD1.out.set jn ci (by rw [List.length_set]; omega)
      have hdr : wr.grownBy wr.drew (some g) := ⟨rfl, rfl, rfl, Nat.le_refl _, fun _ _ _ => rfl⟩
      have hg1 := grown_setCells wr.drew g (k * 12) cj.vals
      have hg2 := grown_setCells (wr.drew.setCells g (k * 12) cj.vals) g (jn * 12) ci.vals
      have HGW : Hid (w.grownBy ((wr.drew.setCells g (k * 12) cj.vals).setCells g (jn * 12) ci.vals) (some g)) := gtrans (gtrans (gtrans HI.out.2.2 hdr) hg1) hg2
      have hkL : (k : Int) < (n : Int) := by omega
      have hjL : (jn : Int) < (n : Int) := by omega
      have HJZ : Hid ((jn : Int) = (n : Int) - 1 - (k : Int)) := hjz
      clear hci hcj hdl hjk hjz hkn HD HD1 hdr hg1 hg2
      go_upto_region 3 with fail
      refine wp_region_held_drew (S := fun _ => True) (by kernel_rfl) trivial (fun hHeld => ?_)
      refine takeH (i := 0) (d := some 14) (v := ?_) rfl rfl (by kernel_rfl) (by kernel_rfl) (by kernel_rfl) (fun _ _ _ h => h) (by rfl) ?_ trivial ?_
      rotate_left
      · intro w _; go_simp; with_reducible rfl
      try simp only [Act.put, List.setIfInBounds_toArray, List.set_cons_zero, List.set_cons_succ]
      refine takeH (i := 1) (d := some 15) (v := ?_) rfl rfl (by kernel_rfl) (by kernel_rfl) (by kernel_rfl) (fun _ _ _ h => h) (by rfl) ?_ trivial ?_
      rotate_left
      · intro w _; go_simp; with_reducible rfl
      try simp only [Act.put, List.setIfInBounds_toArray, List.set_cons_zero, List.set_cons_succ]
      refine takeH (i := 2) (d := some 16) (v := ?_) rfl rfl (by kernel_rfl) (by kernel_rfl) (by kernel_rfl) (fun _ _ _ h => h) (by rfl) ?_ trivial ?_
      rotate_left
      · intro w _; go_simp; with_reducible rfl
      try simp only [Act.put, List.setIfInBounds_toArray, List.set_cons_zero, List.set_cons_succ]
      refine takeH (i := 3) (d := some 17) (v := ?_) rfl rfl (by kernel_rfl) (by kernel_rfl) (by kernel_rfl) (fun _ _ _ h => h) (by rfl) ?_ trivial ?_
      rotate_left
      · intro w _; go_simp; with_reducible rfl
      try simp only [Act.put, List.setIfInBounds_toArray, List.set_cons_zero, List.set_cons_succ]
      refine takeH (i := 4) (d := some 18) (v := ?_) rfl rfl (by kernel_rfl) (by kernel_rfl) (by kernel_rfl) (fun _ _ _ h => h) (by rfl) ?_ trivial ?_
      rotate_left
      · intro w _; go_simp; with_reducible rfl
      try simp only [Act.put, List.setIfInBounds_toArray, List.set_cons_zero, List.set_cons_succ]
      refine takeH (i := 5) (d := some 19) (v := ?_) rfl rfl (by kernel_rfl) (by kernel_rfl) (by kernel_rfl) (fun _ _ _ h => h) (by rfl) ?_ trivial ?_
      rotate_left
      · intro w _; go_simp; with_reducible rfl
      try simp only [Act.put, List.setIfInBounds_toArray, List.set_cons_zero, List.set_cons_succ]
      refine takeH (i := 8) (d := some 22) (v := ?_) rfl rfl (by kernel_rfl) (by kernel_rfl) (by kernel_rfl) (fun _ _ _ h => h) (by rfl) ?_ trivial ?_
      rotate_left
      · intro w _; go_simp; with_reducible rfl
      try simp only [Act.put, List.setIfInBounds_toArray, List.set_cons_zero, List.set_cons_succ]
      refine takeH (i := 9) (d := some 23) (v := ?_) rfl rfl (by kernel_rfl) (by kernel_rfl) (by kernel_rfl) (fun _ _ _ h => h) (by rfl) ?_ trivial ?_
      rotate_left
      · intro w _; go_simp; with_reducible rfl
      try simp only [Act.put, List.setIfInBounds_toArray, List.set_cons_zero, List.set_cons_succ]
      refine takeH (i := 6) (d := some 20) (v := ?_) rfl rfl (by kernel_rfl) (by kernel_rfl) (by kernel_rfl) (fun _ _ _ h => h) (by rfl) ?_ trivial ?_
      rotate_left
      · intro w _; go_simp; with_reducible rfl
      try simp only [Act.put, List.setIfInBounds_toArray, List.set_cons_zero, List.set_cons_succ]
      refine takeH (i := 10) (d := some 24) (v := ?_) rfl rfl (by kernel_rfl) (by kernel_rfl) (by kernel_rfl) (fun _ _ _ h => h) (by rfl) ?_ trivial ?_
      rotate_left
      · intro w _; go_simp; with_reducible rfl
      try simp only [Act.put, List.setIfInBounds_toArray, List.set_cons_zero, List.set_cons_succ]
      refine wpAnyH_ready (rs := [7, 11]) (by kernel_rfl) (by simp) ?_
      refine AllReadyH.cons (by rfl) (fun K hKK => ?_) (AllReadyH.cons (by rfl) (fun K hKK => ?_) AllReadyH.nil)
      · skip
        go_simp
        rw [show (#[.bool cj.fs, .string cj.fh, .int .i64 cj.fp, .bool cj.us, .string cj.uh, .int .i64 cj.up, .string cj.pa, .string cj.qu, .bool cj.wi, .string cj.me, .string cj.he, .int .i64 cj.un] : Array Value) = cj.vals.toArray from rfl]
        refine hKK.out _ _ trivial (fun hHeld => ?_)
        clear hKK K
        try simp only [Act.put, List.setIfInBounds_toArray, List.set_cons_zero, List.set_cons_succ]
        refine wpAnyH_ready (rs := [11]) (by kernel_rfl) (by simp) ?_
        refine AllReadyH.cons (by rfl) (fun K hKK => ?_) AllReadyH.nil
        go_simp
        rw [show (#[.bool ci.fs, .string ci.fh, .int .i64 ci.fp, .bool ci.us, .string ci.uh, .int .i64 ci.up, .string ci.pa, .string ci.qu, .bool ci.wi, .string ci.me, .string ci.he, .int .i64 ci.un] : Array Value) = ci.vals.toArray from rfl]
        refine hKK.out _ _ trivial (fun hHeld => ?_)
        clear hKK K
        try simp only [Act.put, List.setIfInBounds_toArray, List.set_cons_zero, List.set_cons_succ]
        refine takeH (i := 12) (d := some 26) (v := ?_) rfl rfl (by kernel_rfl) (by kernel_rfl) (by kernel_rfl) (fun _ _ _ h => h) (by rfl) ?_ trivial ?_
        rotate_left
        · intro w _; go_simp; with_reducible rfl
        try simp only [Act.put, List.setIfInBounds_toArray, List.set_cons_zero, List.set_cons_succ]
        refine wpAnyH_ready (rs := [13]) (by kernel_rfl) (by simp) ?_
        refine AllReadyH.cons (by rfl) (fun K hKK => ?_) AllReadyH.nil
        go_simp
        refine hKK.out _ _ trivial (fun hHeld => ?_)
        clear hKK K hst1
        try simp only [Act.put, List.setIfInBounds_toArray, List.set_cons_zero, List.set_cons_succ]
        refine takeH (i := 14) (d := some 27) (v := ?_) rfl rfl (by kernel_rfl) (by kernel_rfl) (by kernel_rfl) (fun _ _ _ h => h) (by rfl) ?_ trivial ?_
        rotate_left
        · intro w _; go_simp; with_reducible rfl
        try simp only [Act.put, List.setIfInBounds_toArray, List.set_cons_zero, List.set_cons_succ]
        refine wpAnyH_ready (rs := [15]) (by kernel_rfl) (by simp) ?_
        refine AllReadyH.cons (by rfl) (fun K hKK => ?_) AllReadyH.nil
        go_simp
        refine hKK.out _ _ trivial (fun hHeld => ?_)
        clear hKK K hst2
        try simp only [Act.put, List.setIfInBounds_toArray, List.set_cons_zero, List.set_cons_succ]
        refine wpAnyH_done (by kernel_rfl) ?_ _
        clear a0 a1 a2 a3 a4 a5 a6 a7 a8 a9 a10 a11 b0 b1 b2 b3 b4 b5 b6 b7 b8 b9 b10 b11
        generalize (wr.drew.setCells g (k * 12) cj.vals).setCells g (jn * 12) ci.vals = W9 at HD2 HGW ⊢
        go_wp2
        go_roundw
        case rel => exact ⟨k + 1, _, _, by omega, by go_num, rfl, by have := HJZ.out; push_cast; omega, ⟨HST.out, HD2.out, HGW.out⟩⟩
        case measure => simp [intOf]; omega
      · skip
        go_simp
        rw [show (#[.bool ci.fs, .string ci.fh, .int .i64 ci.fp, .bool ci.us, .string ci.uh, .int .i64 ci.up, .string ci.pa, .string ci.qu, .bool ci.wi, .string ci.me, .string ci.he, .int .i64 ci.un] : Array Value) = ci.vals.toArray from rfl]
        refine hKK.out _ _ trivial (fun hHeld => ?_)
        clear hKK K
        try simp only [Act.put, List.setIfInBounds_toArray, List.set_cons_zero, List.set_cons_succ]
        refine wpAnyH_ready (rs := [7]) (by kernel_rfl) (by simp) ?_
        refine AllReadyH.cons (by rfl) (fun K hKK => ?_) AllReadyH.nil
        go_simp
        rw [show (#[.bool cj.fs, .string cj.fh, .int .i64 cj.fp, .bool cj.us, .string cj.uh, .int .i64 cj.up, .string cj.pa, .string cj.qu, .bool cj.wi, .string cj.me, .string cj.he, .int .i64 cj.un] : Array Value) = cj.vals.toArray from rfl]
        refine hKK.out _ _ trivial (fun hHeld => ?_)
        clear hKK K
        try simp only [Act.put, List.setIfInBounds_toArray, List.set_cons_zero, List.set_cons_succ]
        refine takeH (i := 12) (d := some 26) (v := ?_) rfl rfl (by kernel_rfl) (by kernel_rfl) (by kernel_rfl) (fun _ _ _ h => h) (by rfl) ?_ trivial ?_
        rotate_left
        · intro w _; go_simp; with_reducible rfl
        try simp only [Act.put, List.setIfInBounds_toArray, List.set_cons_zero, List.set_cons_succ]
        refine wpAnyH_ready (rs := [13]) (by kernel_rfl) (by simp) ?_
        refine AllReadyH.cons (by rfl) (fun K hKK => ?_) AllReadyH.nil
        go_simp
        refine hKK.out _ _ trivial (fun hHeld => ?_)
        clear hKK K hst1
        try simp only [Act.put, List.setIfInBounds_toArray, List.set_cons_zero, List.set_cons_succ]
        refine takeH (i := 14) (d := some 27) (v := ?_) rfl rfl (by kernel_rfl) (by kernel_rfl) (by kernel_rfl) (fun _ _ _ h => h) (by rfl) ?_ trivial ?_
        rotate_left
        · intro w _; go_simp; with_reducible rfl
        try simp only [Act.put, List.setIfInBounds_toArray, List.set_cons_zero, List.set_cons_succ]
        refine wpAnyH_ready (rs := [15]) (by kernel_rfl) (by simp) ?_
        refine AllReadyH.cons (by rfl) (fun K hKK => ?_) AllReadyH.nil
        go_simp
        refine hKK.out _ _ trivial (fun hHeld => ?_)
        clear hKK K hst2
        try simp only [Act.put, List.setIfInBounds_toArray, List.set_cons_zero, List.set_cons_succ]
        refine wpAnyH_done (by kernel_rfl) ?_ _
        clear a0 a1 a2 a3 a4 a5 a6 a7 a8 a9 a10 a11 b0 b1 b2 b3 b4 b5 b6 b7 b8 b9 b10 b11
        generalize (wr.drew.setCells g (k * 12) cj.vals).setCells g (jn * 12) ci.vals = W9 at HD2 HGW ⊢
        go_wp2
        go_roundw
        case rel => exact ⟨k + 1, _, _, by omega, by go_num, rfl, by have := HJZ.out; push_cast; omega, ⟨HST.out, HD2.out, HGW.out⟩⟩
        case measure => simp [intOf]; omega
    · have HE : Hid (OwnQ wr B (.slice (some ⟨g, 0, none⟩) n cap) cs.reverse ∧ w.grownBy wr (some g)) := ⟨by rw [← revQ_end HL.out HI.out.1 (by omega)]; exact HI.out.2.1, HI.out.2.2⟩
      clear HI
      go_wp2
      go_end0
      exact ⟨rfl, HE⟩
set_option maxRecDepth 100000 in
set_option maxHeartbeats 1000000 in
theorem reverseQ_nil (w : World) : Calls Tryz.prog 25 #[.slice none 0 0] w fun e w' => e = .returned (.tuple #[]) ∧ w' = w := by
  go_enter Tryz.func25, Tryz.ntmps25
  go_wp2
  refine wp_loop_rounds 1 ?_
  rw [rounds_succ]
  go_wp2
  go_end0
  exact ⟨rfl, rfl⟩
theorem reverseQ_own (cs : List PsV) (B : Nat) (v : Value) (hn : cs.length ≤ 1000) (w : World) (hB : B ≤ w.heap.size) (hx : OwnQ w B v cs) :
    Calls Tryz.prog 25 #[v] w fun e w' => e = .returned (.tuple #[]) ∧ Hid (OwnQ w' B v cs.reverse ∧ Below B w w') := by
  rcases OwnK.forms (show OwnK 12 50 w B v (cs.map PsV.vals) from hx) with ⟨rfl, h0⟩ | ⟨g, cap, rfl, hBg, _, _, _⟩
  · obtain rfl : cs = [] := by simpa using h0
    refine (reverseQ_nil w).mono ?_
    rintro e w' ⟨rfl, rfl⟩
    exact ⟨rfl, hx, Below.refl _ _⟩
  · refine (reverseQ_any cs B g _ cap (by rw [List.length_map]) (by rw [List.length_map]; exact hn) w hx).mono ?_
    rintro e w' ⟨rfl, h⟩
    exact ⟨rfl, h.out.1, ⟨h.out.2.os, h.out.2.tape, h.out.2.output, h.out.2.size, fun i hi => h.out.2.block i (by omega) (by intro e; injection e; omega)⟩⟩
end Go.Proofs.YtoblpjknnchlmabGreatDoor
