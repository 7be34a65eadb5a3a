/- Texts of one claim, joined: each begins with what it proves. -/
import Derived.Test.YtoblpjknnchlmabGreatDoorJo5
import Derived.Test.YtoblpjknnchlmabGreatDoorJo1
import Derived.Test.YtoblpjknnchlmabGreatDoorJo3
import Derived.Test.YtoblpjknnchlmabGreatDoorJo6
import Derived.Test.YtoblpjknnchlmabGreatDoorJo4
import Derived.Deep.RegionHeld3
import Derived.RegionTactic
import Derived.Deep.Cut
import Derived.Deep.CutRange
import Derived.Deep.DeepCutAuto
import Derived.Deep.Onto
import Derived.Shelf.Spec.SlicesGrow
import Derived.Deep.Upon
import Derived.Deep.LoopGhost
import Derived.Deep.QuietTactic
import Derived.BigQuiet
import Derived.Lib.LaidTab
/- An origin that shares nothing with another one, by the program. -/
namespace Go.Proofs.YtoblpjknnchlmabGreatDoor
open Go.RowKit
set_option linter.unusedVariables false

set_option maxRecDepth 100000 in
set_option maxHeartbeats 2000000 in
theorem fresh9_any (sec : Bool) (host : ByteArray) (port : Int) (ho : host.size ≤ 140737488355328) (w : World) :
    Calls Tryz.prog 73 #[.agg #[.bool sec, .string host, .int .i64 port]] w fun e w' => e = .returned (.agg #[.bool sec, .string host, .int .i64 port]) ∧ Below w.heap.size w w' := by
  have hb0 : Below w.heap.size w ((w.alloc (.cells #[.bool sec, .string host, .int .i64 port] 23)).alloc (.cells #[.bool false, .string ⟨#[]⟩, .int .i64 0] 23)) := ((Below.refl _ _).alloc (Nat.le_refl _) _).alloc (by simp) _
  have h1 : ((w.alloc (.cells #[.bool sec, .string host, .int .i64 port] 23)).alloc (.cells #[.bool false, .string ⟨#[]⟩, .int .i64 0] 23)).heap[w.heap.size]? = some (.cells #[.bool sec, .string host, .int .i64 port] 23 (0, 0)) := by
    rw [heap_alloc_old _ _ (by simp)]
    exact heap_alloc_new w _
  have h2 : ((w.alloc (.cells #[.bool sec, .string host, .int .i64 port] 23)).alloc (.cells #[.bool false, .string ⟨#[]⟩, .int .i64 0] 23)).heap[w.heap.size + 1]? = some (.cells #[.bool false, .string ⟨#[]⟩, .int .i64 0] 23 (0, 0)) := by
    have := heap_alloc_new (w.alloc (.cells #[.bool sec, .string host, .int .i64 port] 23)) (.cells #[.bool false, .string ⟨#[]⟩, .int .i64 0] 23)
    simpa using this
  have HW : Hid (Below w.heap.size w ((w.alloc (.cells #[.bool sec, .string host, .int .i64 port] 23)).alloc (.cells #[.bool false, .string ⟨#[]⟩, .int .i64 0] 23)) ∧ _ ∧ _) := ⟨hb0, h1, h2⟩
  clear hb0 h1 h2
  go_enter Tryz.func73, Tryz.ntmps73
  go_wp2_with fail
  refine (cloneS_any _ ho _).mono ?_
  rintro e w1 ⟨rfl, hb1⟩
  have HB : Hid (Below w.heap.size w w1 ∧ w1.heap[w.heap.size]? = some (.cells #[.bool sec, .string host, .int .i64 port] 23 (0, 0)) ∧ w1.heap[w.heap.size + 1]? = some (.cells #[.bool false, .string ⟨#[]⟩, .int .i64 0] 23 (0, 0))) :=
    ⟨HW.out.1.trans (hb1.mono HW.out.1.size), by rw [hb1.block _ (by simp; omega)]; exact HW.out.2.1, by rw [hb1.block _ (by simp)]; exact HW.out.2.2⟩
  clear hb1 HW
  have c0 := cell_of (i := 0) HB.out.2.1
  have c1 := cell_of (i := 1) HB.out.2.1
  have c2 := cell_of (i := 2) HB.out.2.1
  have d0 := cell_of (i := 0) HB.out.2.2
  have d1 := cell_of (i := 1) HB.out.2.2
  have d2 := cell_of (i := 2) HB.out.2.2
  have f0 := free_of HB.out.2.1
  have f1 := free_of HB.out.2.2
  have s1 : w1.setCell ⟨w.heap.size, 1, none⟩ (.string host) = w1 := setCell_same HB.out.2.1 rfl
  simp only [List.getElem?_toArray, List.getElem?_cons_zero, List.getElem?_cons_succ] at c0 c1 c2 d0 d1 d2
  go_wp2
  obtain ⟨z1, z2⟩ := setAll [.bool sec, .string host, .int .i64 port] HB.out.2.2 rfl
  simp only [World.setCells, Nat.reduceAdd] at z1 z2
  have e0 := cell_of (i := 0) z1
  have e1 := cell_of (i := 1) z1
  have e2 := cell_of (i := 2) z1
  simp only [List.getElem?_toArray, List.getElem?_cons_zero, List.getElem?_cons_succ] at e0 e1 e2
  exact bodyPost_ret (v := .agg #[.bool sec, .string host, .int .i64 port]) (by simp [results, Tryz.f73, go_sem, e0, e1, e2]) rfl ⟨rfl, HB.out.1.grown z2 HB.out.1.size (fun i hi => by injection hi with hi; omega)⟩
end Go.Proofs.YtoblpjknnchlmabGreatDoor

/- A URL that shares nothing with another one, by the program. -/
namespace Go.Proofs.YtoblpjknnchlmabGreatDoor
open Go.RowKit
set_option linter.unusedVariables false

set_option maxRecDepth 100000 in
set_option maxHeartbeats 4000000 in
theorem freshU9_any (sec : Bool) (host : ByteArray) (port : Int) (pa qu : ByteArray) (h1 : host.size ≤ 140737488355328) (h2 : pa.size ≤ 140737488355328) (h3 : qu.size ≤ 140737488355328) (w : World) :
    Calls Tryz.prog 74 #[.agg #[.bool sec, .string host, .int .i64 port, .string pa, .string qu]] w fun e w' => e = .returned (.agg #[.bool sec, .string host, .int .i64 port, .string pa, .string qu]) ∧ Below w.heap.size w w' := by
  have hd := BoxG.of ((boxF_start w #[.bool sec, .string host, .int .i64 port, .string pa, .string qu] #[.bool false, .string ⟨#[]⟩, .int .i64 0, .string ⟨#[]⟩, .string ⟨#[]⟩] 25).below (Below.refl _ _).drew)
  have hQ : ((w.alloc (.cells #[.bool sec, .string host, .int .i64 port, .string pa, .string qu] 25)).alloc (.cells #[.bool false, .string ⟨#[]⟩, .int .i64 0, .string ⟨#[]⟩, .string ⟨#[]⟩] 25)).drew.cell? ⟨w.heap.size, 0, none⟩ = some (.bool sec) ∧ ((w.alloc (.cells #[.bool sec, .string host, .int .i64 port, .string pa, .string qu] 25)).alloc (.cells #[.bool false, .string ⟨#[]⟩, .int .i64 0, .string ⟨#[]⟩, .string ⟨#[]⟩] 25)).drew.cell? ⟨w.heap.size, 1, none⟩ = some (.string host) ∧ ((w.alloc (.cells #[.bool sec, .string host, .int .i64 port, .string pa, .string qu] 25)).alloc (.cells #[.bool false, .string ⟨#[]⟩, .int .i64 0, .string ⟨#[]⟩, .string ⟨#[]⟩] 25)).drew.cell? ⟨w.heap.size, 2, none⟩ = some (.int .i64 port) ∧ ((w.alloc (.cells #[.bool sec, .string host, .int .i64 port, .string pa, .string qu] 25)).alloc (.cells #[.bool false, .string ⟨#[]⟩, .int .i64 0, .string ⟨#[]⟩, .string ⟨#[]⟩] 25)).drew.cell? ⟨w.heap.size, 3, none⟩ = some (.string pa) ∧ ((w.alloc (.cells #[.bool sec, .string host, .int .i64 port, .string pa, .string qu] 25)).alloc (.cells #[.bool false, .string ⟨#[]⟩, .int .i64 0, .string ⟨#[]⟩, .string ⟨#[]⟩] 25)).drew.cell? ⟨w.heap.size, 4, none⟩ = some (.string qu) ∧ Hid (BoxG w #[.bool sec, .string host, .int .i64 port, .string pa, .string qu] 5 25 ((w.alloc (.cells #[.bool sec, .string host, .int .i64 port, .string pa, .string qu] 25)).alloc (.cells #[.bool false, .string ⟨#[]⟩, .int .i64 0, .string ⟨#[]⟩, .string ⟨#[]⟩] 25)).drew) := ⟨hd.at 0 rfl, hd.at 1 rfl, hd.at 2 rfl, hd.at 3 rfl, hd.at 4 rfl, hd⟩
  clear hd
  go_enter Tryz.func74, Tryz.ntmps74
  go_upto_region 1 with fail
  generalize hW0 : ((w.alloc (.cells #[.bool sec, .string host, .int .i64 port, .string pa, .string qu] 25)).alloc (.cells #[.bool false, .string ⟨#[]⟩, .int .i64 0, .string ⟨#[]⟩, .string ⟨#[]⟩] 25)) = W0 at hQ ⊢
  clear hW0
  go_region_held3 (fun W => W.cell? ⟨w.heap.size, 0, none⟩ = some (.bool sec) ∧ W.cell? ⟨w.heap.size, 1, none⟩ = some (.string host) ∧ W.cell? ⟨w.heap.size, 2, none⟩ = some (.int .i64 port) ∧ W.cell? ⟨w.heap.size, 3, none⟩ = some (.string pa) ∧ W.cell? ⟨w.heap.size, 4, none⟩ = some (.string qu) ∧ Hid (BoxG w #[.bool sec, .string host, .int .i64 port, .string pa, .string qu] 5 25 W)) (with_reducible assumption) (first
    | (go_at_call 31; refine (cloneS_any qu h3 _).mono ?_; rintro e w3 ⟨rfl, hb3⟩; have H3 := (show BoxG _ _ _ _ _ from hQ2.2.2.2.2.2.out).below hb3; have hQ3 : w3.cell? ⟨w.heap.size, 0, none⟩ = some (.bool sec) ∧ w3.cell? ⟨w.heap.size, 1, none⟩ = some (.string host) ∧ w3.cell? ⟨w.heap.size, 2, none⟩ = some (.int .i64 port) ∧ w3.cell? ⟨w.heap.size, 3, none⟩ = some (.string pa) ∧ w3.cell? ⟨w.heap.size, 4, none⟩ = some (.string qu) ∧ Hid (BoxG w #[.bool sec, .string host, .int .i64 port, .string pa, .string qu] 5 25 w3) := ⟨H3.at 0 rfl, H3.at 1 rfl, H3.at 2 rfl, H3.at 3 rfl, H3.at 4 rfl, H3⟩; have f3 := H3.frees; obtain ⟨y0, d0⟩ := H3.some 0 (by decide); obtain ⟨y1, d1⟩ := H3.some 1 (by decide); obtain ⟨y2, d2⟩ := H3.some 2 (by decide); obtain ⟨y3, d3⟩ := H3.some 3 (by decide); obtain ⟨y4, d4⟩ := H3.some 4 (by decide); have H4 := H3.store [.bool sec, .string host, .int .i64 port, .string pa, .string qu] rfl; simp only [World.setCells, Nat.reduceAdd, Nat.zero_add] at H4; have HZ : Hid ((((((w3.setCell ⟨w.heap.size + 1, 0, none⟩ (.bool sec)).setCell ⟨w.heap.size + 1, 1, none⟩ (.string host)).setCell ⟨w.heap.size + 1, 2, none⟩ (.int .i64 port)).setCell ⟨w.heap.size + 1, 3, none⟩ (.string pa)).setCell ⟨w.heap.size + 1, 4, none⟩ (.string qu)).heap[w.heap.size + 1]? = some (.cells #[.bool sec, .string host, .int .i64 port, .string pa, .string qu] 25 (0, 0))) := H4.2; have hQ4 : (((((w3.setCell ⟨w.heap.size + 1, 0, none⟩ (.bool sec)).setCell ⟨w.heap.size + 1, 1, none⟩ (.string host)).setCell ⟨w.heap.size + 1, 2, none⟩ (.int .i64 port)).setCell ⟨w.heap.size + 1, 3, none⟩ (.string pa)).setCell ⟨w.heap.size + 1, 4, none⟩ (.string qu)).cell? ⟨w.heap.size, 0, none⟩ = some (.bool sec) ∧ (((((w3.setCell ⟨w.heap.size + 1, 0, none⟩ (.bool sec)).setCell ⟨w.heap.size + 1, 1, none⟩ (.string host)).setCell ⟨w.heap.size + 1, 2, none⟩ (.int .i64 port)).setCell ⟨w.heap.size + 1, 3, none⟩ (.string pa)).setCell ⟨w.heap.size + 1, 4, none⟩ (.string qu)).cell? ⟨w.heap.size, 1, none⟩ = some (.string host) ∧ (((((w3.setCell ⟨w.heap.size + 1, 0, none⟩ (.bool sec)).setCell ⟨w.heap.size + 1, 1, none⟩ (.string host)).setCell ⟨w.heap.size + 1, 2, none⟩ (.int .i64 port)).setCell ⟨w.heap.size + 1, 3, none⟩ (.string pa)).setCell ⟨w.heap.size + 1, 4, none⟩ (.string qu)).cell? ⟨w.heap.size, 2, none⟩ = some (.int .i64 port) ∧ (((((w3.setCell ⟨w.heap.size + 1, 0, none⟩ (.bool sec)).setCell ⟨w.heap.size + 1, 1, none⟩ (.string host)).setCell ⟨w.heap.size + 1, 2, none⟩ (.int .i64 port)).setCell ⟨w.heap.size + 1, 3, none⟩ (.string pa)).setCell ⟨w.heap.size + 1, 4, none⟩ (.string qu)).cell? ⟨w.heap.size, 3, none⟩ = some (.string pa) ∧ (((((w3.setCell ⟨w.heap.size + 1, 0, none⟩ (.bool sec)).setCell ⟨w.heap.size + 1, 1, none⟩ (.string host)).setCell ⟨w.heap.size + 1, 2, none⟩ (.int .i64 port)).setCell ⟨w.heap.size + 1, 3, none⟩ (.string pa)).setCell ⟨w.heap.size + 1, 4, none⟩ (.string qu)).cell? ⟨w.heap.size, 4, none⟩ = some (.string qu) ∧ Hid (BoxG w #[.bool sec, .string host, .int .i64 port, .string pa, .string qu] 5 25 (((((w3.setCell ⟨w.heap.size + 1, 0, none⟩ (.bool sec)).setCell ⟨w.heap.size + 1, 1, none⟩ (.string host)).setCell ⟨w.heap.size + 1, 2, none⟩ (.int .i64 port)).setCell ⟨w.heap.size + 1, 3, none⟩ (.string pa)).setCell ⟨w.heap.size + 1, 4, none⟩ (.string qu))) := ⟨H4.1.at 0 rfl, H4.1.at 1 rfl, H4.1.at 2 rfl, H4.1.at 3 rfl, H4.1.at 4 rfl, H4.1⟩; clear H4; clear H3 hb3)
    | (go_at_call 31; refine (cloneS_any pa h2 _).mono ?_; rintro e w2 ⟨rfl, hb2⟩; have H2 := (show BoxG _ _ _ _ _ from hQ1.2.2.2.2.2.out).below hb2; have hQ2 : w2.cell? ⟨w.heap.size, 0, none⟩ = some (.bool sec) ∧ w2.cell? ⟨w.heap.size, 1, none⟩ = some (.string host) ∧ w2.cell? ⟨w.heap.size, 2, none⟩ = some (.int .i64 port) ∧ w2.cell? ⟨w.heap.size, 3, none⟩ = some (.string pa) ∧ w2.cell? ⟨w.heap.size, 4, none⟩ = some (.string qu) ∧ Hid (BoxG w #[.bool sec, .string host, .int .i64 port, .string pa, .string qu] 5 25 w2) := ⟨H2.at 0 rfl, H2.at 1 rfl, H2.at 2 rfl, H2.at 3 rfl, H2.at 4 rfl, H2⟩; clear H2 hb2)
    | (go_at_call 73; refine (fresh9_any sec host port h1 _).mono ?_; rintro e w1 ⟨rfl, hb1⟩; have H1 := (show BoxG _ _ _ _ _ from hQ.2.2.2.2.2.out).below hb1; have hQ1 : w1.cell? ⟨w.heap.size, 0, none⟩ = some (.bool sec) ∧ w1.cell? ⟨w.heap.size, 1, none⟩ = some (.string host) ∧ w1.cell? ⟨w.heap.size, 2, none⟩ = some (.int .i64 port) ∧ w1.cell? ⟨w.heap.size, 3, none⟩ = some (.string pa) ∧ w1.cell? ⟨w.heap.size, 4, none⟩ = some (.string qu) ∧ Hid (BoxG w #[.bool sec, .string host, .int .i64 port, .string pa, .string qu] 5 25 w1) := ⟨H1.at 0 rfl, H1.at 1 rfl, H1.at 2 rfl, H1.at 3 rfl, H1.at 4 rfl, H1⟩; clear H1 hb1))
  go_wp2_with fail
  exact bodyPost_ret (v := .agg #[.bool sec, .string host, .int .i64 port, .string pa, .string qu]) (res_cell rfl rfl Tryz.isAgg25 Tryz.sizeOf25 rfl HZ.out) rfl ⟨rfl, (show BoxG _ _ _ _ _ from hQ4.2.2.2.2.2.out).bel⟩
end Go.Proofs.YtoblpjknnchlmabGreatDoor

/- A region driven by hand: an operation taken first. -/
namespace Go.Proofs.YtoblpjknnchlmabGreatDoor
open Go.RowKit

section
variable {P : Program} {ops : Array Oper} {Q : Exit → Act → World → Prop} {md : Region.Mode} {S : World → Prop}
theorem takeH {i : Nat} {oi : Oper} {d : Option Tmp} {v : Value} {fuel : Nat} {listed : Array Bool} {a : Act} {w : World} (hi : ops[i]? = some oi) (hd : oi.dst = d)
    (hs : Region.noSelect ops = true) (hf : Region.free md ops listed i = true) (hr : (Region.ready md ops listed).contains i = true)
    (hQ : ∀ c a w, Q (.panic c) (a.put oi.dst v) w → Q (.panic c) a w) (hw : Region.wanted oi (yielded ops a.tmps) = true) (hy : ∀ w, S w → (execOp a.eval oi).run P w = .ok (.value v) w) (hS : S w)
    (h : wpAnyH P md ops Q S fuel (listed.setIfInBounds i true) (a.put d v) w) : wpAnyH P md ops Q S (fuel + 1) listed a w := by
  subst hd
  exact wpAnyH_take hi hs hf hr hQ (Or.inl ⟨hw, hy⟩) hS h
theorem skipH {i : Nat} {oi : Oper} {d : Option Tmp} {fuel : Nat} {listed : Array Bool} {a : Act} {w : World} (hi : ops[i]? = some oi) (hd : oi.dst = d)
    (hs : Region.noSelect ops = true) (hf : Region.free md ops listed i = true) (hr : (Region.ready md ops listed).contains i = true)
    (hQ : ∀ c a w, Q (.panic c) (a.put oi.dst undef) w → Q (.panic c) a w) (hw : Region.wanted oi (yielded ops a.tmps) = false) (hS : S w)
    (h : wpAnyH P md ops Q S fuel (listed.setIfInBounds i true) (a.put d undef) w) : wpAnyH P md ops Q S (fuel + 1) listed a w := by
  subst hd
  exact wpAnyH_take hi hs hf hr hQ (Or.inr ⟨hw, rfl⟩) hS h
end
end Go.Proofs.YtoblpjknnchlmabGreatDoor

/- passesFor, by the program. -/
namespace Go.Proofs.YtoblpjknnchlmabGreatDoor
open Go.RowKit
set_option linter.unusedVariables false
set_option linter.unusedSimpArgs false

/-- The request's block and the passes' one. -/
structure PfS (w : World) (x : Array Value) (W : World) : Prop where
  box : BoxQ 28 w x W
  row : W.heap[w.heap.size + 1]? = some (.cells #[.slice none 0 0] 46 (0, 0))
theorem PfS.step {w W W' : World} {x : Array Value} (h : PfS w x W) (hb : Below W.heap.size W W') : PfS w x W' :=
  ⟨h.box.step hb, by rw [hb.block _ (Array.getElem?_eq_some_iff.1 h.row).1]; exact h.row⟩
theorem PfS.new (w : World) (x : Array Value) : PfS w x ((w.alloc (.cells x 28)).alloc (.cells #[.slice none 0 0] 46)) := by
  refine ⟨(BoxQ.new 28 w x).step ((Below.refl _ _).alloc (Nat.le_refl _) _), ?_⟩
  have := heap_alloc_new (w.alloc (.cells x 28)) (.cells #[.slice none 0 0] 46)
  simpa using this
theorem PfS.grown {w W W' : World} {x : Array Value} {g : Nat} (h : PfS w x W) (hg : W.grownBy W' (some g)) (hl : w.heap.size + 1 < g) : PfS w x W' := by
  have h1 : w.heap.size + 1 < W.heap.size := (Array.getElem?_eq_some_iff.1 h.row).1
  refine ⟨⟨h.box.bel.grown hg h.box.bel.size (fun i hi => by injection hi with hi; omega), ?_⟩, ?_⟩
  · rw [hg.block _ (by omega) (by intro e; injection e with e; omega)]
    exact h.box.row
  · rw [hg.block _ h1 (by intro e; injection e with e; omega)]
    exact h.row
theorem store12 {W : World} {g : Nat} {y : Array Value} {T : TypeId} (h : W.heap[g]? = some (.cells y T (0, 0))) (x : List Value) (hs : y.size = x.length) (h1 : ∀ u ∈ x, u.oneCell' = true) :
    Sem.run Tryz.prog (storeCells ⟨g, 0, none⟩ x 0) W = .ok () (W.setCells g 0 x) ∧ (W.setCells g 0 x).heap[g]? = some (.cells x.toArray T (0, 0)) ∧ W.grownBy (W.setCells g 0 x) (some g) := by
  have hr := run_storeCells_cells (P := Tryz.prog) g 0 x 0 W (fun j hj => by
    rw [Nat.add_zero, Nat.zero_add, cell_of h, Array.getElem?_eq_getElem (by omega)]
    rfl) (fun j _ => free_of h _) h1
  rw [Nat.add_zero] at hr
  exact ⟨hr, setAll x h hs⟩
theorem PfS.lt {w W : World} {x : Array Value} (h : PfS w x W) : w.heap.size + 1 < W.heap.size := (Array.getElem?_eq_some_iff.1 h.row).1
set_option maxRecDepth 100000 in
set_option maxHeartbeats 8000000 in
theorem passesFor9_any (pt fp up : Int) (fs us wi : Bool) (fh uh pa qu me bo : ByteArray) (ra : Option Addr) (rl rc : Nat) (h1 : fh.size ≤ 140737488355328) (h2 : uh.size ≤ 140737488355328) (h3 : pa.size ≤ 140737488355328) (h4 : qu.size ≤ 140737488355328) (un : Int)
    (ms hs : List ByteArray) (hms : ms.length ≤ 100) (hhs : hs.length ≤ 100) (hz : ∀ x ∈ hs, x.size ≤ 20000) (ma ha : Option Addr) (mn mc mb mo hn hc hb ho : Nat) (w : World) (hm : Strs w ma mn mb mo ms) (hh : Strs w ha hn hb ho hs) :
    Calls Tryz.prog 43 #[.agg #[.int .i64 pt, .bool fs, .string fh, .int .i64 fp, .bool us, .string uh, .int .i64 up, .string pa, .string qu, .string me, .slice ra rl rc, .bool wi, .string bo], .int .i64 un, .slice ma mn mc, .slice ha hn hc] w fun e w' => (∃ v, e = .returned v ∧ OwnX ⟨fs, fh, fp, us, uh, up, pa, qu, wi, ⟨#[]⟩, ⟨#[]⟩, un⟩ w' w.heap.size v (passL ms hs)) ∧ Below w.heap.size w w' := by
  have HM : Hid (Strs w ma mn mb mo ms ∧ ms.length = mn) := ⟨hm, hm.len_eq⟩
  have HH : Hid (Strs w ha hn hb ho hs ∧ hs.length = hn) := ⟨hh, hh.len_eq⟩
  have HZ : Hid (∀ x ∈ hs, x.size ≤ 20000) := hz
  have hmn : mn ≤ 100 := by rw [← hm.len_eq]; exact hms
  have hhn : hn ≤ 100 := by rw [← hh.len_eq]; exact hhs
  have hP := PfS.new w #[.int .i64 pt, .bool fs, .string fh, .int .i64 fp, .bool us, .string uh, .int .i64 up, .string pa, .string qu, .string me, .slice ra rl rc, .bool wi, .string bo]
  have hen := enters_at Tryz.func75 (by kernel_rfl) rfl
  obtain ⟨p, HPB⟩ : ∃ p : PsV, Hid (p = ⟨fs, fh, fp, us, uh, up, pa, qu, wi, ⟨#[]⟩, ⟨#[]⟩, un⟩) := ⟨_, rfl⟩
  clear hm hh hz hms hhs
  go_enter Tryz.func43, Tryz.ntmps43
  go_upto_region 2 with fail
  generalize hW0 : ((w.alloc (.cells #[.int .i64 pt, .bool fs, .string fh, .int .i64 fp, .bool us, .string uh, .int .i64 up, .string pa, .string qu, .string me, .slice ra rl rc, .bool wi, .string bo] 28)).alloc (.cells #[.slice none 0 0] 46)) = W0 at hP ⊢
  clear hW0
  have HP : Hid (PfS w #[.int .i64 pt, .bool fs, .string fh, .int .i64 fp, .bool us, .string uh, .int .i64 up, .string pa, .string qu, .string me, .slice ra rl rc, .bool wi, .string bo] W0.drew) := hP.step (Below.refl _ _).drew
  clear hP
  have hbase : ∀ W, PfS w #[.int .i64 pt, .bool fs, .string fh, .int .i64 fp, .bool us, .string uh, .int .i64 up, .string pa, .string qu, .string me, .slice ra rl rc, .bool wi, .string bo] W → W.cell? ⟨w.heap.size, 1, none⟩ = some (.bool fs) ∧ W.cell? ⟨w.heap.size, 2, none⟩ = some (.string fh) ∧ W.cell? ⟨w.heap.size, 3, none⟩ = some (.int .i64 fp) ∧ W.cell? ⟨w.heap.size, 4, none⟩ = some (.bool us) ∧ W.cell? ⟨w.heap.size, 5, none⟩ = some (.string uh) ∧ W.cell? ⟨w.heap.size, 6, none⟩ = some (.int .i64 up) ∧ W.cell? ⟨w.heap.size, 7, none⟩ = some (.string pa) ∧ W.cell? ⟨w.heap.size, 8, none⟩ = some (.string qu) ∧ W.cell? ⟨w.heap.size, 11, none⟩ = some (.bool wi) ∧ Hid (PfS w #[.int .i64 pt, .bool fs, .string fh, .int .i64 fp, .bool us, .string uh, .int .i64 up, .string pa, .string qu, .string me, .slice ra rl rc, .bool wi, .string bo] W) := fun W h => ⟨(PfS.box h).at 1 _ rfl, (PfS.box h).at 2 _ rfl, (PfS.box h).at 3 _ rfl, (PfS.box h).at 4 _ rfl, (PfS.box h).at 5 _ rfl, (PfS.box h).at 6 _ rfl, (PfS.box h).at 7 _ rfl, (PfS.box h).at 8 _ rfl, (PfS.box h).at 11 _ rfl, h⟩
  go_cut [10] (fun v wc => ∃ gp : Nat, v = .pointer (some ⟨gp, 0, none⟩) ∧ Hid (PfS w #[.int .i64 pt, .bool fs, .string fh, .int .i64 fp, .bool us, .string uh, .int .i64 up, .string pa, .string qu, .string me, .slice ra rl rc, .bool wi, .string bo] wc ∧ wc.heap[gp]? = some (.cells p.vals.toArray 50 (0, 0)) ∧ w.heap.size + 1 < gp))
  case first =>
    refine wp_region_held_drew (S := fun W => W.cell? ⟨w.heap.size, 1, none⟩ = some (.bool fs) ∧ W.cell? ⟨w.heap.size, 2, none⟩ = some (.string fh) ∧ W.cell? ⟨w.heap.size, 3, none⟩ = some (.int .i64 fp) ∧ W.cell? ⟨w.heap.size, 4, none⟩ = some (.bool us) ∧ W.cell? ⟨w.heap.size, 5, none⟩ = some (.string uh) ∧ W.cell? ⟨w.heap.size, 6, none⟩ = some (.int .i64 up) ∧ W.cell? ⟨w.heap.size, 7, none⟩ = some (.string pa) ∧ W.cell? ⟨w.heap.size, 8, none⟩ = some (.string qu) ∧ W.cell? ⟨w.heap.size, 11, none⟩ = some (.bool wi) ∧ Hid (PfS w #[.int .i64 pt, .bool fs, .string fh, .int .i64 fp, .bool us, .string uh, .int .i64 up, .string pa, .string qu, .string me, .slice ra rl rc, .bool wi, .string bo] W)) (by kernel_rfl) (hbase _ (show PfS _ _ _ from HP.out)) (fun hHeld => ?_)
    refine takeH (i := 0) (d := some 16) (v := ?_) rfl rfl (by kernel_rfl) (by kernel_rfl) (by kernel_rfl) (fun _ _ _ h => h) (by rfl) ?_ (by assumption) ?_
    rotate_left
    · intro w hSw; (try dsimp only at hSw); obtain ⟨q1, q2, q3, q4, q5, q6, q7, q8, q11, _⟩ := hSw; go_simp; with_reducible rfl
    try simp only [Act.put, List.setIfInBounds_toArray, List.set_cons_zero, List.set_cons_succ]
    refine takeH (i := 1) (d := some 17) (v := ?_) rfl rfl (by kernel_rfl) (by kernel_rfl) (by kernel_rfl) (fun _ _ _ h => h) (by rfl) ?_ (by assumption) ?_
    rotate_left
    · intro w hSw; (try dsimp only at hSw); obtain ⟨q1, q2, q3, q4, q5, q6, q7, q8, q11, _⟩ := hSw; go_simp; with_reducible rfl
    try simp only [Act.put, List.setIfInBounds_toArray, List.set_cons_zero, List.set_cons_succ]
    refine takeH (i := 3) (d := some 19) (v := ?_) rfl rfl (by kernel_rfl) (by kernel_rfl) (by kernel_rfl) (fun _ _ _ h => h) (by rfl) ?_ (by assumption) ?_
    rotate_left
    · intro w hSw; (try dsimp only at hSw); obtain ⟨q1, q2, q3, q4, q5, q6, q7, q8, q11, _⟩ := hSw; go_simp; with_reducible rfl
    try simp only [Act.put, List.setIfInBounds_toArray, List.set_cons_zero, List.set_cons_succ]
    refine takeH (i := 4) (d := some 20) (v := ?_) rfl rfl (by kernel_rfl) (by kernel_rfl) (by kernel_rfl) (fun _ _ _ h => h) (by rfl) ?_ (by assumption) ?_
    rotate_left
    · intro w hSw; (try dsimp only at hSw); obtain ⟨q1, q2, q3, q4, q5, q6, q7, q8, q11, _⟩ := hSw; go_simp; with_reducible rfl
    try simp only [Act.put, List.setIfInBounds_toArray, List.set_cons_zero, List.set_cons_succ]
    refine takeH (i := 6) (d := some 22) (v := ?_) rfl rfl (by kernel_rfl) (by kernel_rfl) (by kernel_rfl) (fun _ _ _ h => h) (by rfl) ?_ (by assumption) ?_
    rotate_left
    · intro w hSw; (try dsimp only at hSw); obtain ⟨q1, q2, q3, q4, q5, q6, q7, q8, q11, _⟩ := hSw; go_simp; with_reducible rfl
    try simp only [Act.put, List.setIfInBounds_toArray, List.set_cons_zero, List.set_cons_succ]
    refine takeH (i := 7) (d := some 23) (v := ?_) rfl rfl (by kernel_rfl) (by kernel_rfl) (by kernel_rfl) (fun _ _ _ h => h) (by rfl) ?_ (by assumption) ?_
    rotate_left
    · intro w hSw; (try dsimp only at hSw); obtain ⟨q1, q2, q3, q4, q5, q6, q7, q8, q11, _⟩ := hSw; go_simp; with_reducible rfl
    try simp only [Act.put, List.setIfInBounds_toArray, List.set_cons_zero, List.set_cons_succ]
    refine takeH (i := 8) (d := some 24) (v := ?_) rfl rfl (by kernel_rfl) (by kernel_rfl) (by kernel_rfl) (fun _ _ _ h => h) (by rfl) ?_ (by assumption) ?_
    rotate_left
    · intro w hSw; (try dsimp only at hSw); obtain ⟨q1, q2, q3, q4, q5, q6, q7, q8, q11, _⟩ := hSw; go_simp; with_reducible rfl
    try simp only [Act.put, List.setIfInBounds_toArray, List.set_cons_zero, List.set_cons_succ]
    refine wpAnyH_ready (rs := [2, 10]) (by kernel_rfl) (by simp) ?_
    refine AllReadyH.cons (by rfl) (fun K hKK => ?_) (AllReadyH.cons (by rfl) (fun K hKK => ?_) AllReadyH.nil)
    · skip
      go_simp
      refine (fresh9_any fs fh fp h1 _).mono ?_
      rintro e w1 ⟨rfl, hbw1⟩
      have P1 : Hid (PfS w #[.int .i64 pt, .bool fs, .string fh, .int .i64 fp, .bool us, .string uh, .int .i64 up, .string pa, .string qu, .string me, .slice ra rl rc, .bool wi, .string bo] w1) := (show PfS _ _ _ from HP.out).step hbw1
      clear hbw1
      go_wp2_with fail
      refine hKK.out _ _ (hbase _ (show PfS _ _ _ from P1.out)) (fun hHeld => ?_)
      clear hKK K
      try simp only [Act.put, List.setIfInBounds_toArray, List.set_cons_zero, List.set_cons_succ]
      refine wpAnyH_ready (rs := [5, 10]) (by kernel_rfl) (by simp) ?_
      refine AllReadyH.cons (by rfl) (fun K hKK => ?_) (AllReadyH.cons (by rfl) (fun K hKK => ?_) AllReadyH.nil)
      · skip
        go_simp
        refine (freshU9_any us uh up pa qu h2 h3 h4 _).mono ?_
        rintro e w2 ⟨rfl, hbw2⟩
        have P2 : Hid (PfS w #[.int .i64 pt, .bool fs, .string fh, .int .i64 fp, .bool us, .string uh, .int .i64 up, .string pa, .string qu, .string me, .slice ra rl rc, .bool wi, .string bo] w2) := (show PfS _ _ _ from P1.out).step hbw2
        clear hbw2
        go_wp2_with fail
        refine hKK.out _ _ (hbase _ (show PfS _ _ _ from P2.out)) (fun hHeld => ?_)
        clear hKK K
        try simp only [Act.put, List.setIfInBounds_toArray, List.set_cons_zero, List.set_cons_succ]
        refine takeH (i := 9) (d := some 25) (v := .agg p.vals.toArray) rfl rfl (by kernel_rfl) (by kernel_rfl) (by kernel_rfl) (fun _ _ _ h => h) (by rfl) ?_ (by assumption) ?_
        · intro w hSw; (try dsimp only at hSw); obtain ⟨q1, q2, q3, q4, q5, q6, q7, q8, q11, _⟩ := hSw; go_simp; rw [HPB.out]; rfl
        try simp only [Act.put, List.setIfInBounds_toArray, List.set_cons_zero, List.set_cons_succ]
        refine wpAnyH_ready (rs := [10]) (by kernel_rfl) (by simp) ?_
        refine AllReadyH.cons (by rfl) (fun K hKK => ?_) AllReadyH.nil
        go_simp
        have P3 : Hid (PfS w #[.int .i64 pt, .bool fs, .string fh, .int .i64 fp, .bool us, .string uh, .int .i64 up, .string pa, .string qu, .string me, .slice ra rl rc, .bool wi, .string bo] (w2.alloc (.cells #[.bool false, .string ⟨#[]⟩, .int .i64 0, .bool false, .string ⟨#[]⟩, .int .i64 0, .string ⟨#[]⟩, .string ⟨#[]⟩, .bool false, .string ⟨#[]⟩, .string ⟨#[]⟩, .int .i64 0] 50))) := (show PfS _ _ _ from P2.out).step ((Below.refl _ _).alloc (Nat.le_refl _) _)
        have R3 : Hid ((w2.alloc (.cells #[.bool false, .string ⟨#[]⟩, .int .i64 0, .bool false, .string ⟨#[]⟩, .int .i64 0, .string ⟨#[]⟩, .string ⟨#[]⟩, .bool false, .string ⟨#[]⟩, .string ⟨#[]⟩, .int .i64 0] 50)).heap[w2.heap.size]? = some (.cells #[.bool false, .string ⟨#[]⟩, .int .i64 0, .bool false, .string ⟨#[]⟩, .int .i64 0, .string ⟨#[]⟩, .string ⟨#[]⟩, .bool false, .string ⟨#[]⟩, .string ⟨#[]⟩, .int .i64 0] 50 (0, 0))) := heap_alloc_new _ _
        have LR3 : Hid (w.heap.size + 1 < w2.heap.size) := (show PfS _ _ _ from P2.out).lt
        refine hKK.out _ _ (hbase _ (show PfS _ _ _ from P3.out)) (fun hHeld => ?_)
        clear hKK K
        try simp only [Act.put, List.setIfInBounds_toArray, List.set_cons_zero, List.set_cons_succ]
        refine wpAnyH_ready (rs := [11]) (by kernel_rfl) (by simp) ?_
        refine AllReadyH.cons (by rfl) (fun K hKK => ?_) AllReadyH.nil
        obtain ⟨hst, z1, z2⟩ := store12 (show (w2.alloc (.cells #[.bool false, .string ⟨#[]⟩, .int .i64 0, .bool false, .string ⟨#[]⟩, .int .i64 0, .string ⟨#[]⟩, .string ⟨#[]⟩, .bool false, .string ⟨#[]⟩, .string ⟨#[]⟩, .int .i64 0] 50)).heap[w2.heap.size]? = some (.cells #[.bool false, .string ⟨#[]⟩, .int .i64 0, .bool false, .string ⟨#[]⟩, .int .i64 0, .string ⟨#[]⟩, .string ⟨#[]⟩, .bool false, .string ⟨#[]⟩, .string ⟨#[]⟩, .int .i64 0] 50 (0, 0)) from R3.out) p.vals rfl (vals_one p)
        have PZ := (show PfS _ _ _ from P3.out).grown z2 (show _ < _ from LR3.out)
        have HZ1 : Hid (_ = _) := z1
        clear z1 z2
        go_simp
        refine hKK.out _ _ (hbase _ PZ) (fun hHeld => ?_)
        clear hKK K hst
        try simp only [Act.put, List.setIfInBounds_toArray, List.set_cons_zero, List.set_cons_succ]
        refine wpAnyH_done (by kernel_rfl) ?_ _
        go_wp2_with fail
        go_meet
        exact ⟨_, rfl, ⟨PZ, HZ1.out, (show _ < _ from LR3.out)⟩⟩
      · skip
        go_simp
        have P3 : Hid (PfS w #[.int .i64 pt, .bool fs, .string fh, .int .i64 fp, .bool us, .string uh, .int .i64 up, .string pa, .string qu, .string me, .slice ra rl rc, .bool wi, .string bo] (w1.alloc (.cells #[.bool false, .string ⟨#[]⟩, .int .i64 0, .bool false, .string ⟨#[]⟩, .int .i64 0, .string ⟨#[]⟩, .string ⟨#[]⟩, .bool false, .string ⟨#[]⟩, .string ⟨#[]⟩, .int .i64 0] 50))) := (show PfS _ _ _ from P1.out).step ((Below.refl _ _).alloc (Nat.le_refl _) _)
        have R3 : Hid ((w1.alloc (.cells #[.bool false, .string ⟨#[]⟩, .int .i64 0, .bool false, .string ⟨#[]⟩, .int .i64 0, .string ⟨#[]⟩, .string ⟨#[]⟩, .bool false, .string ⟨#[]⟩, .string ⟨#[]⟩, .int .i64 0] 50)).heap[w1.heap.size]? = some (.cells #[.bool false, .string ⟨#[]⟩, .int .i64 0, .bool false, .string ⟨#[]⟩, .int .i64 0, .string ⟨#[]⟩, .string ⟨#[]⟩, .bool false, .string ⟨#[]⟩, .string ⟨#[]⟩, .int .i64 0] 50 (0, 0))) := heap_alloc_new _ _
        have LR3 : Hid (w.heap.size + 1 < w1.heap.size) := (show PfS _ _ _ from P1.out).lt
        refine hKK.out _ _ (hbase _ (show PfS _ _ _ from P3.out)) (fun hHeld => ?_)
        clear hKK K
        try simp only [Act.put, List.setIfInBounds_toArray, List.set_cons_zero, List.set_cons_succ]
        refine wpAnyH_ready (rs := [5]) (by kernel_rfl) (by simp) ?_
        refine AllReadyH.cons (by rfl) (fun K hKK => ?_) AllReadyH.nil
        go_simp
        refine (freshU9_any us uh up pa qu h2 h3 h4 _).mono ?_
        rintro e w2 ⟨rfl, hbw2⟩
        have P2 : Hid (PfS w #[.int .i64 pt, .bool fs, .string fh, .int .i64 fp, .bool us, .string uh, .int .i64 up, .string pa, .string qu, .string me, .slice ra rl rc, .bool wi, .string bo] w2) := (show PfS _ _ _ from P3.out).step hbw2
        have Rw2 : Hid (w2.heap[w1.heap.size]? = some (.cells #[.bool false, .string ⟨#[]⟩, .int .i64 0, .bool false, .string ⟨#[]⟩, .int .i64 0, .string ⟨#[]⟩, .string ⟨#[]⟩, .bool false, .string ⟨#[]⟩, .string ⟨#[]⟩, .int .i64 0] 50 (0, 0))) := (show _ = _ from (hbw2.block _ (Array.getElem?_eq_some_iff.1 R3.out).1).trans R3.out)
        clear hbw2
        go_wp2_with fail
        refine hKK.out _ _ (hbase _ (show PfS _ _ _ from P2.out)) (fun hHeld => ?_)
        clear hKK K
        try simp only [Act.put, List.setIfInBounds_toArray, List.set_cons_zero, List.set_cons_succ]
        refine takeH (i := 9) (d := some 25) (v := .agg p.vals.toArray) rfl rfl (by kernel_rfl) (by kernel_rfl) (by kernel_rfl) (fun _ _ _ h => h) (by rfl) ?_ (by assumption) ?_
        · intro w hSw; (try dsimp only at hSw); obtain ⟨q1, q2, q3, q4, q5, q6, q7, q8, q11, _⟩ := hSw; go_simp; rw [HPB.out]; rfl
        try simp only [Act.put, List.setIfInBounds_toArray, List.set_cons_zero, List.set_cons_succ]
        refine wpAnyH_ready (rs := [11]) (by kernel_rfl) (by simp) ?_
        refine AllReadyH.cons (by rfl) (fun K hKK => ?_) AllReadyH.nil
        obtain ⟨hst, z1, z2⟩ := store12 (show w2.heap[w1.heap.size]? = some (.cells #[.bool false, .string ⟨#[]⟩, .int .i64 0, .bool false, .string ⟨#[]⟩, .int .i64 0, .string ⟨#[]⟩, .string ⟨#[]⟩, .bool false, .string ⟨#[]⟩, .string ⟨#[]⟩, .int .i64 0] 50 (0, 0)) from Rw2.out) p.vals rfl (vals_one p)
        have PZ := (show PfS _ _ _ from P2.out).grown z2 (show _ < _ from LR3.out)
        have HZ1 : Hid (_ = _) := z1
        clear z1 z2
        go_simp
        refine hKK.out _ _ (hbase _ PZ) (fun hHeld => ?_)
        clear hKK K hst
        try simp only [Act.put, List.setIfInBounds_toArray, List.set_cons_zero, List.set_cons_succ]
        refine wpAnyH_done (by kernel_rfl) ?_ _
        go_wp2_with fail
        go_meet
        exact ⟨_, rfl, ⟨PZ, HZ1.out, (show _ < _ from LR3.out)⟩⟩
    · skip
      go_simp
      have P3 : Hid (PfS w #[.int .i64 pt, .bool fs, .string fh, .int .i64 fp, .bool us, .string uh, .int .i64 up, .string pa, .string qu, .string me, .slice ra rl rc, .bool wi, .string bo] (W0.drew.alloc (.cells #[.bool false, .string ⟨#[]⟩, .int .i64 0, .bool false, .string ⟨#[]⟩, .int .i64 0, .string ⟨#[]⟩, .string ⟨#[]⟩, .bool false, .string ⟨#[]⟩, .string ⟨#[]⟩, .int .i64 0] 50))) := (show PfS _ _ _ from HP.out).step ((Below.refl _ _).alloc (Nat.le_refl _) _)
      have R3 : Hid ((W0.drew.alloc (.cells #[.bool false, .string ⟨#[]⟩, .int .i64 0, .bool false, .string ⟨#[]⟩, .int .i64 0, .string ⟨#[]⟩, .string ⟨#[]⟩, .bool false, .string ⟨#[]⟩, .string ⟨#[]⟩, .int .i64 0] 50)).heap[W0.drew.heap.size]? = some (.cells #[.bool false, .string ⟨#[]⟩, .int .i64 0, .bool false, .string ⟨#[]⟩, .int .i64 0, .string ⟨#[]⟩, .string ⟨#[]⟩, .bool false, .string ⟨#[]⟩, .string ⟨#[]⟩, .int .i64 0] 50 (0, 0))) := heap_alloc_new _ _
      have LR3 : Hid (w.heap.size + 1 < W0.drew.heap.size) := (show PfS _ _ _ from HP.out).lt
      refine hKK.out _ _ (hbase _ (show PfS _ _ _ from P3.out)) (fun hHeld => ?_)
      clear hKK K
      try simp only [Act.put, List.setIfInBounds_toArray, List.set_cons_zero, List.set_cons_succ]
      refine wpAnyH_ready (rs := [2]) (by kernel_rfl) (by simp) ?_
      refine AllReadyH.cons (by rfl) (fun K hKK => ?_) AllReadyH.nil
      go_simp
      refine (fresh9_any fs fh fp h1 _).mono ?_
      rintro e w1 ⟨rfl, hbw1⟩
      have P1 : Hid (PfS w #[.int .i64 pt, .bool fs, .string fh, .int .i64 fp, .bool us, .string uh, .int .i64 up, .string pa, .string qu, .string me, .slice ra rl rc, .bool wi, .string bo] w1) := (show PfS _ _ _ from P3.out).step hbw1
      have Rw1 : Hid (w1.heap[W0.heap.size]? = some (.cells #[.bool false, .string ⟨#[]⟩, .int .i64 0, .bool false, .string ⟨#[]⟩, .int .i64 0, .string ⟨#[]⟩, .string ⟨#[]⟩, .bool false, .string ⟨#[]⟩, .string ⟨#[]⟩, .int .i64 0] 50 (0, 0))) := (show _ = _ from (hbw1.block _ (Array.getElem?_eq_some_iff.1 R3.out).1).trans R3.out)
      clear hbw1
      go_wp2_with fail
      refine hKK.out _ _ (hbase _ (show PfS _ _ _ from P1.out)) (fun hHeld => ?_)
      clear hKK K
      try simp only [Act.put, List.setIfInBounds_toArray, List.set_cons_zero, List.set_cons_succ]
      refine wpAnyH_ready (rs := [5]) (by kernel_rfl) (by simp) ?_
      refine AllReadyH.cons (by rfl) (fun K hKK => ?_) AllReadyH.nil
      go_simp
      refine (freshU9_any us uh up pa qu h2 h3 h4 _).mono ?_
      rintro e w2 ⟨rfl, hbw2⟩
      have P2 : Hid (PfS w #[.int .i64 pt, .bool fs, .string fh, .int .i64 fp, .bool us, .string uh, .int .i64 up, .string pa, .string qu, .string me, .slice ra rl rc, .bool wi, .string bo] w2) := (show PfS _ _ _ from P1.out).step hbw2
      have Rw2 : Hid (w2.heap[W0.heap.size]? = some (.cells #[.bool false, .string ⟨#[]⟩, .int .i64 0, .bool false, .string ⟨#[]⟩, .int .i64 0, .string ⟨#[]⟩, .string ⟨#[]⟩, .bool false, .string ⟨#[]⟩, .string ⟨#[]⟩, .int .i64 0] 50 (0, 0))) := (show _ = _ from (hbw2.block _ (Array.getElem?_eq_some_iff.1 Rw1.out).1).trans Rw1.out)
      clear hbw2
      go_wp2_with fail
      refine hKK.out _ _ (hbase _ (show PfS _ _ _ from P2.out)) (fun hHeld => ?_)
      clear hKK K
      try simp only [Act.put, List.setIfInBounds_toArray, List.set_cons_zero, List.set_cons_succ]
      refine takeH (i := 9) (d := some 25) (v := .agg p.vals.toArray) rfl rfl (by kernel_rfl) (by kernel_rfl) (by kernel_rfl) (fun _ _ _ h => h) (by rfl) ?_ (by assumption) ?_
      · intro w hSw; (try dsimp only at hSw); obtain ⟨q1, q2, q3, q4, q5, q6, q7, q8, q11, _⟩ := hSw; go_simp; rw [HPB.out]; rfl
      try simp only [Act.put, List.setIfInBounds_toArray, List.set_cons_zero, List.set_cons_succ]
      refine wpAnyH_ready (rs := [11]) (by kernel_rfl) (by simp) ?_
      refine AllReadyH.cons (by rfl) (fun K hKK => ?_) AllReadyH.nil
      obtain ⟨hst, z1, z2⟩ := store12 (show w2.heap[W0.heap.size]? = some (.cells #[.bool false, .string ⟨#[]⟩, .int .i64 0, .bool false, .string ⟨#[]⟩, .int .i64 0, .string ⟨#[]⟩, .string ⟨#[]⟩, .bool false, .string ⟨#[]⟩, .string ⟨#[]⟩, .int .i64 0] 50 (0, 0)) from Rw2.out) p.vals rfl (vals_one p)
      have PZ := (show PfS _ _ _ from P2.out).grown z2 (show _ < _ from LR3.out)
      have HZ1 : Hid (_ = _) := z1
      clear z1 z2
      go_simp
      refine hKK.out _ _ (hbase _ PZ) (fun hHeld => ?_)
      clear hKK K hst
      try simp only [Act.put, List.setIfInBounds_toArray, List.set_cons_zero, List.set_cons_succ]
      refine wpAnyH_done (by kernel_rfl) ?_ _
      go_wp2_with fail
      go_meet
      exact ⟨_, rfl, ⟨PZ, HZ1.out, (show _ < _ from LR3.out)⟩⟩
  case rest =>
  obtain ⟨gp, rfl, HC⟩ := hcut
  have hg := HC.out.1.row
  have HLT : Hid (w.heap.size + 1 < gp ∧ gp < wc.heap.size ∧ w.heap.size + 1 < wc.heap.size) := ⟨HC.out.2.2, (Array.getElem?_eq_some_iff.1 HC.out.2.1).1, (Array.getElem?_eq_some_iff.1 hg).1⟩
  have hpv : p.vals.toArray = #[.bool p.fs, .string p.fh, .int .i64 p.fp, .bool p.us, .string p.uh, .int .i64 p.up, .string p.pa, .string p.qu, .bool p.wi, .string ⟨#[]⟩, .string ⟨#[]⟩, .int .i64 p.un] := by rw [HPB.out]; rfl
  have HH0 : Hid (HoldX p gp (w.heap.size + 1) wc.heap.size [] wc) := ⟨by rw [← hpv]; exact HC.out.2.1, ⟨_, hg, ownX_nil p wc _⟩, HLT.out.2.1, HLT.out.2.2, (by have := HLT.out.1; omega), Nat.le_refl _⟩
  have HBW : Hid (Below w.heap.size w wc) := HC.out.1.box.bel
  have HADD : Hid (∀ (l : List (ByteArray × ByteArray)) (x y : ByteArray) (W : World), l.length ≤ 500 → HoldX p gp (w.heap.size + 1) wc.heap.size l W → Calls Tryz.prog 75 #[.string x, .string y, .pointer (some ⟨gp, 0, none⟩), .pointer (some ⟨w.heap.size + 1, 0, none⟩)] W fun e w' => e = .returned (.tuple #[]) ∧ HoldX p gp (w.heap.size + 1) wc.heap.size (addX l (x, y)) w' ∧ Below (w.heap.size + 1) W w') := fun l x y W hl h => add9_any p gp _ _ l hl x y W h
  clear hg hpv HC HLT hbase HP
  go_wp2
  go_loopw [29] (fun i wr => ∃ k : Nat, k ≤ mn ∧ i = .int .i64 k ∧ Hid (HoldX p gp (w.heap.size + 1) wc.heap.size (passM (ms.take k)) wr ∧ Below w.heap.size w wr)) (fun i _ => mn - (intOf i).toNat)
  case atStart => exact ⟨0, Nat.zero_le _, rfl, HH0.out, HBW.out⟩
  case round =>
    obtain ⟨k, hk, rfl, HI⟩ := hrel
    by_cases hlt : k < mn
    · have hltz : (k : Int) < (mn : Int) := by omega
      obtain ⟨x, hx⟩ : ∃ x, ms[k]? = some x := ⟨ms[k]'(by have := HM.out.2; omega), List.getElem?_eq_getElem _⟩
      have HXK : Hid (ms[k]? = some x) := hx
      obtain ⟨ha0, _⟩ := HM.out.1.lies (by omega)
      subst ha0
      have cx := (HM.out.1.below HI.out.2).cells k x hx
      have hcall := HADD.out (passM (ms.take k)) x ⟨#[]⟩ wr (by have := passM_len (ms.take k); rw [List.length_take] at this; omega) HI.out.1
      clear hx
      go_wp2_with fail
      refine hcall.mono ?_
      rintro e w4 ⟨rfl, h4, hb4⟩
      have HI4 : Hid (HoldX p gp (w.heap.size + 1) wc.heap.size (passM (ms.take (k + 1))) w4 ∧ Below w.heap.size w w4) := ⟨by have e4 := foldX_snoc mX [] HXK.out; unfold passM at h4 ⊢; rw [e4]; exact h4, HI.out.2.trans (hb4.mono (by omega))⟩
      clear hcall h4 hb4 cx
      go_wp2
      go_roundw
      case rel => exact ⟨k + 1, by omega, by go_num, HI4⟩
      case measure => simp [intOf]; omega
    · have hltz : ¬ (k : Int) < (mn : Int) := by omega
      have HI1 : Hid (HoldX p gp (w.heap.size + 1) wc.heap.size (passM ms) wr ∧ Below w.heap.size w wr) := by
        have := HI.out
        rw [List.take_of_length_le (by have := HM.out.2; omega)] at this
        exact this
      clear HI
      generalize hwx : wr = wx at HI1 ⊢
      clear hwx
      go_wp2
      go_loopw [39] (fun i wr => ∃ k : Nat, k ≤ hn ∧ i = .int .i64 k ∧ Hid (HoldX p gp (w.heap.size + 1) wc.heap.size (((hs.take k).map hX).foldl addX (passM ms)) wr ∧ Below w.heap.size w wr)) (fun i _ => hn - (intOf i).toNat)
      case atStart => exact ⟨0, Nat.zero_le _, rfl, HI1.out.1, HI1.out.2⟩
      case round =>
        obtain ⟨k, hk, rfl, HI⟩ := hrel
        by_cases hlt : k < hn
        · have hltz : (k : Int) < (hn : Int) := by omega
          obtain ⟨x, hx⟩ : ∃ x, hs[k]? = some x := ⟨hs[k]'(by have := HH.out.2; omega), List.getElem?_eq_getElem _⟩
          have HXK : Hid (hs[k]? = some x) := hx
          obtain ⟨ha0, _⟩ := HH.out.1.lies (by omega)
          subst ha0
          have cx := (HH.out.1.below HI.out.2).cells k x hx
          have hxz := HZ.out x (List.mem_of_getElem? hx)
          have HLN : Hid ((((hs.take k).map hX).foldl addX (passM ms)).length ≤ 500) := by
            show _ ≤ _
            have e1 := foldX_len (passM ms) ((hs.take k).map hX)
            have e2 := passM_len ms
            have e3 := HM.out.2
            rw [List.length_map, List.length_take] at e1
            omega
          obtain ⟨y, HY⟩ : ∃ y, Hid (bs (x.data.toList.map low) = y) := ⟨_, rfl⟩
          have hlow := lower_any x wr (by omega)
          rw [HY.out] at hlow
          clear hx hxz
          go_wp2_with fail
          refine hlow.mono ?_
          rintro e w4 ⟨rfl, hb4⟩
          have HI4 : Hid (HoldX p gp (w.heap.size + 1) wc.heap.size (((hs.take k).map hX).foldl addX (passM ms)) w4 ∧ Below w.heap.size w w4) := ⟨HI.out.1.below hb4, HI.out.2.trans (hb4.mono HI.out.2.size)⟩
          have hcall := HADD.out _ ⟨#[]⟩ y w4 HLN.out HI4.out.1
          clear hlow hb4 cx
          go_wp2_with fail
          refine hcall.mono ?_
          rintro e w5 ⟨rfl, h5, hb5⟩
          have HI5 : Hid (HoldX p gp (w.heap.size + 1) wc.heap.size (((hs.take (k + 1)).map hX).foldl addX (passM ms)) w5 ∧ Below w.heap.size w w5) := ⟨by rw [foldX_snoc hX (passM ms) HXK.out]; unfold hX; rw [HY.out]; exact h5, HI4.out.2.trans (hb5.mono (by omega))⟩
          clear hcall h5 hb5
          go_wp2
          go_roundw
          case rel => exact ⟨k + 1, by omega, by go_num, HI5⟩
          case measure => simp [intOf]; omega
        · have hltz : ¬ (k : Int) < (hn : Int) := by omega
          have HI2 : Hid (HoldX p gp (w.heap.size + 1) wc.heap.size (passL ms hs) wr ∧ Below w.heap.size w wr) := by
            have := HI.out
            rw [List.take_of_length_le (by have := HH.out.2; omega)] at this
            exact this
          clear HI
          obtain ⟨v, hv, hown⟩ := HI2.out.1.own
          have sv : wr.cell? ⟨w.heap.size + 1, 0, none⟩ = some v := cell_of hv
          have HOW : Hid (OwnX ⟨fs, fh, fp, us, uh, up, pa, qu, wi, ⟨#[]⟩, ⟨#[]⟩, un⟩ wr w.heap.size v (passL ms hs)) := by
            have := OwnK.mono hown (B' := w.heap.size) HBW.out.size
            rw [HPB.out] at this
            exact this
          clear hv hown
          go_wp2
          go_ret
          exact ⟨⟨v, rfl, HOW.out⟩, HI2.out.2⟩
end Go.Proofs.YtoblpjknnchlmabGreatDoor

/- Grant: what an answer allows a request, by the program. -/
namespace Go.Proofs.YtoblpjknnchlmabGreatDoor
open Go.RowKit
set_option linter.unusedVariables false

/-- What Grant answers. -/
def GraAns (p : PsV) (o : Except Int (List (ByteArray × ByteArray))) (B : Nat) (e : Ending) (w' : World) : Prop :=
  (∃ l v, o = .ok l ∧ l.length ≤ 80 ∧ e = .returned (.tuple #[v, .nilIface]) ∧ OwnX p w' B v l) ∨ (∃ n : Int, o = .error n ∧ e = .returned (.tuple #[.slice none 0 0, .iface 56 (.int .i64 n)]))
theorem wrap64_id {n : Int} (h0 : -9223372036854775808 ≤ n) (h1 : n ≤ 9223372036854775807) : IntKind.i64.wrap n = n := by
  simp [IntKind.wrap, IntKind.bits, IntKind.signed]
  omega
theorem strs_one (W : World) (x : ByteArray) : Strs (W.alloc (.cells #[.string x] 9)) (some ⟨W.heap.size, 0, none⟩) 1 W.heap.size 0 [x] := by
  refine ⟨rfl, fun _ => ⟨rfl, by simp⟩, fun j p hp => ?_⟩
  match j, hp with
  | 0, hp => cases hp; exact World.cell?_alloc_mark _ _ _ _ _
  | j + 1, hp => simp at hp
set_option maxRecDepth 100000 in
set_option maxHeartbeats 8000000 in
theorem grant9_any (ps : List Par) (hf : Few9 ps) (a0 : Option Addr) (len cap b off : Nat) (hq : List Par) (hps : Small8 hq) (ra : Option Addr) (rl rc rb ro : Nat) (hrl : rl ≤ 60) (pt fp up : Int) (fs us wi : Bool) (fh uh pa qu me bo : ByteArray)
    (z1 : fh.size ≤ 4000) (z2 : uh.size ≤ 4000) (z3 : pa.size ≤ 4000) (z4 : qu.size ≤ 4000) (z5 : me.size ≤ 3000) (h0 : -9223372036854775808 ≤ fp) (h1 : fp ≤ 9223372036854775807) (now : Int) (n0 : 0 ≤ now) (n1 : now ≤ 1099511627776)
    (w : World) (he : Env w) (hm : Methods w) (hx : Pars w a0 len b off ps) (hh : Pars w ra rl rb ro hq) :
    Calls Tryz.prog 22 #[.agg #[.int .i64 pt, .bool fs, .string fh, .int .i64 fp, .bool us, .string uh, .int .i64 up, .string pa, .string qu, .string me, .slice ra rl rc, .bool wi, .string bo], .slice a0 len cap, .int .i64 now] w fun e w' => GraAns ⟨fs, fh, fp, us, uh, up, pa, qu, wi, ⟨#[]⟩, ⟨#[]⟩, now + ageL ps⟩ (grantL ⟨fs, fh, fp, us, uh, up, pa, qu, wi, ⟨#[]⟩, ⟨#[]⟩, now + ageL ps⟩ (mayL wi (textL fs fh.data.toList fp) ps) wi (methodB me) (askedL hq) ps) w.heap.size e w' ∧ Below w.heap.size w w' := by
  obtain ⟨p, HPB⟩ : ∃ p : PsV, Hid (p = ⟨fs, fh, fp, us, uh, up, pa, qu, wi, ⟨#[]⟩, ⟨#[]⟩, now + ageL ps⟩) := ⟨_, rfl⟩
  rw [← HPB.out]
  obtain ⟨m, HM⟩ : ∃ m, Hid (methodB me = m) := ⟨_, rfl⟩
  rw [HM.out]
  obtain ⟨xs, HXS⟩ : ∃ xs, Hid (askedL hq = xs) := ⟨_, rfl⟩
  rw [HXS.out]
  obtain ⟨y, HMY⟩ : ∃ y, Hid (mayL wi (textL fs fh.data.toList fp) ps = y) := ⟨_, rfl⟩
  rw [HMY.out]
  obtain ⟨ag, HAG⟩ : ∃ ag, Hid (ageL ps = ag) := ⟨_, rfl⟩
  have hag := ageL_bounds ps
  rw [HAG.out] at hag HPB
  obtain ⟨ag0, ag1⟩ := hag
  have HQ : Hid (BoxQ 28 w #[.int .i64 pt, .bool fs, .string fh, .int .i64 fp, .bool us, .string uh, .int .i64 up, .string pa, .string qu, .string me, .slice ra rl rc, .bool wi, .string bo] (w.alloc (.cells #[.int .i64 pt, .bool fs, .string fh, .int .i64 fp, .bool us, .string uh, .int .i64 up, .string pa, .string qu, .string me, .slice ra rl rc, .bool wi, .string bo] 28))) := BoxQ.new _ _ _
  have HWM : Hid (∀ W, Below w.heap.size w W → Calls Tryz.prog 41 #[.slice a0 len cap, .string ⟨#[65, 99, 99, 101, 115, 115, 45, 67, 111, 110, 116, 114, 111, 108, 45, 65, 108, 108, 111, 119, 45, 77, 101, 116, 104, 111, 100, 115]⟩] W fun e w' => WdsAns (wordsO (fieldT mN ps)) W.heap.size e w' ∧ Below W.heap.size W w') := fun W hW => by
    have := words9_any ps hf ⟨#[65, 99, 99, 101, 115, 115, 45, 67, 111, 110, 116, 114, 111, 108, 45, 65, 108, 108, 111, 119, 45, 77, 101, 116, 104, 111, 100, 115]⟩ (by decide) a0 len cap b off W (hx.below hW)
    rw [← mN_is] at this
    exact this
  have HWH : Hid (∀ W, Below w.heap.size w W → Calls Tryz.prog 41 #[.slice a0 len cap, .string ⟨#[65, 99, 99, 101, 115, 115, 45, 67, 111, 110, 116, 114, 111, 108, 45, 65, 108, 108, 111, 119, 45, 72, 101, 97, 100, 101, 114, 115]⟩] W fun e w' => WdsAns (wordsO (fieldT hN ps)) W.heap.size e w' ∧ Below W.heap.size W w') := fun W hW => by
    have := words9_any ps hf ⟨#[65, 99, 99, 101, 115, 115, 45, 67, 111, 110, 116, 114, 111, 108, 45, 65, 108, 108, 111, 119, 45, 72, 101, 97, 100, 101, 114, 115]⟩ (by decide) a0 len cap b off W (hx.below hW)
    rw [← hN_is] at this
    exact this
  have HMA : Hid (∀ W, Below w.heap.size w W → Calls Tryz.prog 19 #[.agg #[.int .i64 pt, .bool fs, .string fh, .int .i64 fp, .bool us, .string uh, .int .i64 up, .string pa, .string qu, .string me, .slice ra rl rc, .bool wi, .string bo], .slice a0 len cap] W fun e w' => e = .returned (.bool y) ∧ Below W.heap.size W w') := fun W hW => by
    have := may9_any ps hf a0 len cap b off pt fp up fs us fh uh pa qu me bo ra rl rc wi z1 h0 h1 W (he.below hW (Nat.le_refl _)) (hx.below hW)
    rw [HMY.out] at this
    exact this
  have HAE : Hid (∀ W, Below w.heap.size w W → Calls Tryz.prog 20 #[.slice a0 len cap] W fun e w' => e = .returned (.int .i64 ag) ∧ Below W.heap.size W w') := fun W hW => by
    have := age9_any ps hf a0 len cap b off W (hx.below hW)
    rw [HAG.out] at this
    exact this
  have HME : Hid (∀ W, Below w.heap.size w W → Calls Tryz.prog 42 #[.string me] W fun e w' => e = .returned (.string m) ∧ Below W.heap.size W w') := fun W hW => by
    have := method_any me z5 W (hm.below hW (Nat.le_refl _))
    rw [HM.out] at this
    exact this
  have HCV : Hid (∀ (l : List PsV) (a : Option Addr) (n c g o : Nat) (W : World), n ≤ 1000000 → Below w.heap.size w W → Pss W a n g o l → Calls Tryz.prog 23 #[.agg #[.int .i64 pt, .bool fs, .string fh, .int .i64 fp, .bool us, .string uh, .int .i64 up, .string pa, .string qu, .string me, .slice ra rl rc, .bool wi, .string bo], .slice a n c] W fun e w' => e = .returned (.bool (coversL wi m xs l)) ∧ Below W.heap.size W w') := fun l a n c g o W hn hW hp => by
    have := covers9_any hq hps ra rl rc rb ro hrl pt fp up fs us wi fh uh pa qu me bo z5 l a n c g o hn W (hm.below hW (Nat.le_refl _)) (hh.below hW) hp
    rw [HM.out, HXS.out] at this
    exact this
  have HPF : Hid (∀ (ms hs : List ByteArray) (ma ha : Option Addr) (mn mc mb mo hn hc hb ho : Nat) (W : World), ms.length ≤ 100 → hs.length ≤ 100 → (∀ x ∈ hs, x.size ≤ 20000) → Strs W ma mn mb mo ms → Strs W ha hn hb ho hs → Calls Tryz.prog 43 #[.agg #[.int .i64 pt, .bool fs, .string fh, .int .i64 fp, .bool us, .string uh, .int .i64 up, .string pa, .string qu, .string me, .slice ra rl rc, .bool wi, .string bo], .int .i64 (now + ag), .slice ma mn mc, .slice ha hn hc] W fun e w' => (∃ v, e = .returned v ∧ OwnX p w' W.heap.size v (passL ms hs)) ∧ Below W.heap.size W w') := fun ms hs ma ha mn mc mb mo hn hc hb ho W l1 l2 l3 s1 s2 => by
    have := passesFor9_any pt fp up fs us wi fh uh pa qu me bo ra rl rc (by omega) (by omega) (by omega) (by omega) (now + ag) ms hs l1 l2 l3 ma ha mn mc mb mo hn hc hb ho W s1 s2
    rw [← HPB.out] at this
    exact this
  have HFT : Hid ((fieldT hN ps).length ≤ 13590) := hf.len hN
  clear hf hps he hm hx hh z1 z2 z3 z4 z5 h0 h1 HPB HM HXS HMY HAG
  go_enter Tryz.func22, Tryz.ntmps22
  go_wp2_with fail
  refine (HWM.out _ HQ.out.bel).mono ?_
  rintro e w1 ⟨ha1, hb1⟩
  have HQ1 : Hid (BoxQ 28 w #[.int .i64 pt, .bool fs, .string fh, .int .i64 fp, .bool us, .string uh, .int .i64 up, .string pa, .string qu, .string me, .slice ra rl rc, .bool wi, .string bo] w1) := HQ.out.step hb1
  have HA1 : Hid (WdsAns (wordsO (fieldT mN ps)) w.heap.size e w1) := by
    rcases ha1 with ⟨ms, v, e1, e2, e3⟩ | h
    · exact .inl ⟨ms, v, e1, e2, World.ownsRow.mono e3 HQ.out.bel.size⟩
    · exact .inr h
  clear ha1 hb1 HQ
  rcases HA1.out with ⟨ms, v, hms, rfl, hown⟩ | ⟨hms, rfl⟩
  case' inr =>
    have HE : Hid (grantL p y wi m xs ps = .error 3) := grantL_bad1 hms
    clear hms HA1
    go_wp2_with fail
    refine (HWH.out _ HQ1.out.bel).mono ?_
    rintro e w2 ⟨ha2, hb2⟩
    have HQ2 : Hid (BoxQ 28 w #[.int .i64 pt, .bool fs, .string fh, .int .i64 fp, .bool us, .string uh, .int .i64 up, .string pa, .string qu, .string me, .slice ra rl rc, .bool wi, .string bo] w2) := HQ1.out.step hb2
    clear hb2
    rcases ha2 with ⟨hs, v2, _, rfl, _⟩ | ⟨_, rfl⟩
    · go_wp2
      go_ret2
      exact ⟨.inr ⟨3, HE.out, rfl⟩, HQ2.out.bel⟩
    · go_wp2
      go_ret2
      exact ⟨.inr ⟨3, HE.out, rfl⟩, HQ2.out.bel⟩
  obtain ⟨ma, mc, mg, rfl, hmst⟩ := OwnS.strs hown
  have HMS : Hid (wordsO (fieldT mN ps) = some ms ∧ Strs w1 ma ms.length mg 0 ms) := ⟨hms, hmst⟩
  have hml : ms.length ≤ 40 := (wordsO_len hms).1
  obtain ⟨mn, HMN⟩ : ∃ mn, Hid (ms.length = mn) := ⟨_, rfl⟩
  rw [HMN.out] at HMS hml
  clear hms hown hmst HA1
  rw [HMN.out]
  go_wp2_with fail
  refine (HWH.out _ HQ1.out.bel).mono ?_
  rintro e w2 ⟨ha2, hb2⟩
  have HQ2 : Hid (BoxQ 28 w #[.int .i64 pt, .bool fs, .string fh, .int .i64 fp, .bool us, .string uh, .int .i64 up, .string pa, .string qu, .string me, .slice ra rl rc, .bool wi, .string bo] w2) := HQ1.out.step hb2
  have HMS2 : Hid (Strs w2 ma mn mg 0 ms) := HMS.out.2.below hb2
  clear hb2
  rcases ha2 with ⟨hs, v2, hhs, rfl, hown⟩ | ⟨hhs, rfl⟩
  case' inr =>
    have HE : Hid (grantL p y wi m xs ps = .error 3) := grantL_bad2 hhs
    clear hhs
    go_wp2
    go_ret2
    exact ⟨.inr ⟨3, HE.out, rfl⟩, HQ2.out.bel⟩
  obtain ⟨hha, hhc, hhg, rfl, hhst⟩ := OwnS.strs hown
  have HHS : Hid (wordsO (fieldT hN ps) = some hs ∧ Strs w2 hha hs.length hhg 0 hs) := ⟨hhs, hhst⟩
  have hhl : hs.length ≤ 40 := (wordsO_len hhs).1
  have HHZ : Hid (∀ x ∈ hs, x.size ≤ 20000) := fun x hx => Nat.le_trans ((wordsO_len hhs).2 x hx) (Nat.le_trans HFT.out (by decide))
  obtain ⟨hn, HHN⟩ : ∃ hn, Hid (hs.length = hn) := ⟨_, rfl⟩
  rw [HHN.out] at HHS hhl
  clear hhs hown hhst HQ1
  rw [HHN.out]
  have c0 := HQ2.out.at 0 _ rfl
  have c1 := HQ2.out.at 1 _ rfl
  have c2 := HQ2.out.at 2 _ rfl
  have c3 := HQ2.out.at 3 _ rfl
  have c4 := HQ2.out.at 4 _ rfl
  have c5 := HQ2.out.at 5 _ rfl
  have c6 := HQ2.out.at 6 _ rfl
  have c7 := HQ2.out.at 7 _ rfl
  have c8 := HQ2.out.at 8 _ rfl
  have c9 := HQ2.out.at 9 _ rfl
  have c10 := HQ2.out.at 10 _ rfl
  have c11 := HQ2.out.at 11 _ rfl
  have c12 := HQ2.out.at 12 _ rfl
  go_wp2_with fail
  refine (HMA.out _ HQ2.out.bel).mono ?_
  rintro e w3 ⟨rfl, hb3⟩
  have HQ3 : Hid (BoxQ 28 w #[.int .i64 pt, .bool fs, .string fh, .int .i64 fp, .bool us, .string uh, .int .i64 up, .string pa, .string qu, .string me, .slice ra rl rc, .bool wi, .string bo] w3) := HQ2.out.step hb3
  have HR3 : Hid (Strs w3 ma mn mg 0 ms ∧ Strs w3 hha hn hhg 0 hs) := ⟨HMS2.out.below hb3, HHS.out.2.below hb3⟩
  clear hb3 HQ2 HMS2 c0 c1 c2 c3 c4 c5 c6 c7 c8 c9 c10 c11 c12
  cases y
  · have HE : Hid (grantL p false wi m xs ps = .error 6) := grantL_no HMS.out.1 HHS.out.1
    go_wp2
    go_ret2
    exact ⟨.inr ⟨6, HE.out, rfl⟩, HQ3.out.bel⟩
  have c9 := HQ3.out.at 9 _ rfl
  go_upto_if 37 with fail
  go_cut [8] (fun v wc => ∃ (a : Option Addr) (n c g : Nat), v = .slice a n c ∧ n ≤ 40 ∧ Hid (Strs wc a n g 0 (msOf ms m) ∧ Strs wc hha hn hhg 0 hs ∧ BoxQ 28 w #[.int .i64 pt, .bool fs, .string fh, .int .i64 fp, .bool us, .string uh, .int .i64 up, .string pa, .string qu, .string me, .slice ra rl rc, .bool wi, .string bo] wc))
  case first =>
    by_cases hz : mn = 0
    · subst hz
      have HE : Hid (msOf ms m = [m]) := by show _ = _; unfold msOf; rw [if_pos HMN.out]
      go_wp2_with fail
      refine (HME.out _ HQ3.out.bel).mono ?_
      rintro e w4 ⟨rfl, hb4⟩
      have HB5 : Hid (Below w3.heap.size w3 (w4.alloc (.cells #[.string m] 9))) := hb4.alloc hb4.size _
      clear hb4
      go_wp2
      go_meet
      exact ⟨_, 1, _, w4.heap.size, rfl, by omega, ⟨by rw [HE.out]; exact strs_one w4 m, HR3.out.2.below HB5.out, HQ3.out.step HB5.out⟩⟩
    · have HE : Hid (msOf ms m = ms) := by show _ = _; unfold msOf; rw [if_neg (by rw [HMN.out]; exact hz)]
      have hzz : ¬ (mn : Int) = 0 := by omega
      go_wp2
      go_meet
      exact ⟨ma, mn, mc, mg, rfl, hml, ⟨by rw [HE.out]; exact HR3.out.1, HR3.out.2, HQ3.out⟩⟩
  case rest =>
    obtain ⟨qa, qn, qc, qg, rfl, hqn, HC⟩ := hcut
    obtain ⟨wp, rfl⟩ : ∃ x, x = wc := ⟨_, rfl⟩
    clear c9 HQ3 HR3
    obtain ⟨mt, HMT⟩ : ∃ mt, Hid (msOf ms m = mt) := ⟨_, rfl⟩
    have HC' : Hid (Strs wp qa qn qg 0 mt ∧ Strs wp hha hn hhg 0 hs ∧ BoxQ 28 w #[.int .i64 pt, .bool fs, .string fh, .int .i64 fp, .bool us, .string uh, .int .i64 up, .string pa, .string qu, .string me, .slice ra rl rc, .bool wi, .string bo] wp) := by rw [← HMT.out]; exact HC.out
    clear HC
    have hbase : ∀ W, Below wp.heap.size wp W → W.cell? ⟨w.heap.size, 0, none⟩ = some (.int .i64 pt) ∧ W.cell? ⟨w.heap.size, 1, none⟩ = some (.bool fs) ∧ W.cell? ⟨w.heap.size, 2, none⟩ = some (.string fh) ∧ W.cell? ⟨w.heap.size, 3, none⟩ = some (.int .i64 fp) ∧ W.cell? ⟨w.heap.size, 4, none⟩ = some (.bool us) ∧ W.cell? ⟨w.heap.size, 5, none⟩ = some (.string uh) ∧ W.cell? ⟨w.heap.size, 6, none⟩ = some (.int .i64 up) ∧ W.cell? ⟨w.heap.size, 7, none⟩ = some (.string pa) ∧ W.cell? ⟨w.heap.size, 8, none⟩ = some (.string qu) ∧ W.cell? ⟨w.heap.size, 9, none⟩ = some (.string me) ∧ W.cell? ⟨w.heap.size, 10, none⟩ = some (.slice ra rl rc) ∧ W.cell? ⟨w.heap.size, 11, none⟩ = some (.bool wi) ∧ W.cell? ⟨w.heap.size, 12, none⟩ = some (.string bo) ∧ Hid (Below wp.heap.size wp W) := fun W hW => (have hq := HC'.out.2.2.step hW; ⟨hq.at 0 _ rfl, hq.at 1 _ rfl, hq.at 2 _ rfl, hq.at 3 _ rfl, hq.at 4 _ rfl, hq.at 5 _ rfl, hq.at 6 _ rfl, hq.at 7 _ rfl, hq.at 8 _ rfl, hq.at 9 _ rfl, hq.at 10 _ rfl, hq.at 11 _ rfl, hq.at 12 _ rfl, hW⟩)
    have hS := hbase _ (Below.refl _ _).drew
    go_upto_region 9 with fail
    go_cut [12] (fun s12 w5 => ∃ v5 : Value, v5 = s12 ∧ Hid (Below wp.heap.size wp w5 ∧ OwnX p w5 wp.heap.size v5 (passL mt hs)))
    case first =>
      refine wp_region_held_drew (S := fun W => W.cell? ⟨w.heap.size, 0, none⟩ = some (.int .i64 pt) ∧ W.cell? ⟨w.heap.size, 1, none⟩ = some (.bool fs) ∧ W.cell? ⟨w.heap.size, 2, none⟩ = some (.string fh) ∧ W.cell? ⟨w.heap.size, 3, none⟩ = some (.int .i64 fp) ∧ W.cell? ⟨w.heap.size, 4, none⟩ = some (.bool us) ∧ W.cell? ⟨w.heap.size, 5, none⟩ = some (.string uh) ∧ W.cell? ⟨w.heap.size, 6, none⟩ = some (.int .i64 up) ∧ W.cell? ⟨w.heap.size, 7, none⟩ = some (.string pa) ∧ W.cell? ⟨w.heap.size, 8, none⟩ = some (.string qu) ∧ W.cell? ⟨w.heap.size, 9, none⟩ = some (.string me) ∧ W.cell? ⟨w.heap.size, 10, none⟩ = some (.slice ra rl rc) ∧ W.cell? ⟨w.heap.size, 11, none⟩ = some (.bool wi) ∧ W.cell? ⟨w.heap.size, 12, none⟩ = some (.string bo) ∧ Hid (Below wp.heap.size wp W)) (by kernel_rfl) hS (fun hHeld => ?_)
      refine takeH (i := 0) (d := some 42) (v := ?_) rfl rfl (by kernel_rfl) (by kernel_rfl) (by kernel_rfl) (fun _ _ _ h => h) (by rfl) ?_ (by assumption) ?_
      rotate_left
      · intro w hSw; (try dsimp only at hSw); obtain ⟨q0, q1, q2, q3, q4, q5, q6, q7, q8, q9, q10, q11, q12, _⟩ := hSw; go_simp; with_reducible rfl
      try simp only [Act.put, List.setIfInBounds_toArray, List.set_cons_zero, List.set_cons_succ]
      refine takeH (i := 1) (d := some 43) (v := ?_) rfl rfl (by kernel_rfl) (by kernel_rfl) (by kernel_rfl) (fun _ _ _ h => h) (by rfl) ?_ (by assumption) ?_
      rotate_left
      · intro w hSw; (try dsimp only at hSw); obtain ⟨q0, q1, q2, q3, q4, q5, q6, q7, q8, q9, q10, q11, q12, _⟩ := hSw; go_simp; with_reducible rfl
      try simp only [Act.put, List.setIfInBounds_toArray, List.set_cons_zero, List.set_cons_succ]
      refine takeH (i := 2) (d := some 44) (v := ?_) rfl rfl (by kernel_rfl) (by kernel_rfl) (by kernel_rfl) (fun _ _ _ h => h) (by rfl) ?_ (by assumption) ?_
      rotate_left
      · intro w hSw; (try dsimp only at hSw); obtain ⟨q0, q1, q2, q3, q4, q5, q6, q7, q8, q9, q10, q11, q12, _⟩ := hSw; go_simp; with_reducible rfl
      try simp only [Act.put, List.setIfInBounds_toArray, List.set_cons_zero, List.set_cons_succ]
      refine takeH (i := 5) (d := some 47) (v := ?_) rfl rfl (by kernel_rfl) (by kernel_rfl) (by kernel_rfl) (fun _ _ _ h => h) (by rfl) ?_ (by assumption) ?_
      rotate_left
      · intro w hSw; (try dsimp only at hSw); obtain ⟨q0, q1, q2, q3, q4, q5, q6, q7, q8, q9, q10, q11, q12, _⟩ := hSw; go_simp; with_reducible rfl
      try simp only [Act.put, List.setIfInBounds_toArray, List.set_cons_zero, List.set_cons_succ]
      refine takeH (i := 6) (d := some 48) (v := ?_) rfl rfl (by kernel_rfl) (by kernel_rfl) (by kernel_rfl) (fun _ _ _ h => h) (by rfl) ?_ (by assumption) ?_
      rotate_left
      · intro w hSw; (try dsimp only at hSw); obtain ⟨q0, q1, q2, q3, q4, q5, q6, q7, q8, q9, q10, q11, q12, _⟩ := hSw; go_simp; with_reducible rfl
      try simp only [Act.put, List.setIfInBounds_toArray, List.set_cons_zero, List.set_cons_succ]
      refine wpAnyH_ready (rs := [3]) (by kernel_rfl) (by simp) ?_
      refine AllReadyH.cons (by rfl) (fun K hKK => ?_) AllReadyH.nil
      go_simp
      refine (HAE.out _ (HC'.out.2.2.bel.trans ((show Below wp.heap.size wp wp.drew from (Below.refl _ _).drew).mono HC'.out.2.2.bel.size))).mono ?_
      rintro e w4 ⟨rfl, hb4⟩
      have HB4 : Hid (Below wp.heap.size wp w4) := (show Below wp.heap.size wp wp.drew from (Below.refl _ _).drew).trans hb4
      clear hb4
      go_wp2_with fail
      refine hKK.out _ _ (hbase _ HB4.out) (fun hHeld => ?_)
      clear hKK K
      try simp only [Act.put, List.setIfInBounds_toArray, List.set_cons_zero, List.set_cons_succ]
      have hwr : IntKind.i64.wrap (now + ag) = now + ag := wrap64_id (by omega) (by omega)
      refine takeH (i := 4) (d := some 46) (v := ?_) rfl rfl (by kernel_rfl) (by kernel_rfl) (by kernel_rfl) (fun _ _ _ h => h) (by rfl) ?_ (by assumption) ?_
      rotate_left
      · intro w hSw; (try dsimp only at hSw); obtain ⟨q0, q1, q2, q3, q4, q5, q6, q7, q8, q9, q10, q11, q12, _⟩ := hSw; go_simp; with_reducible rfl
      try simp only [Act.put, List.setIfInBounds_toArray, List.set_cons_zero, List.set_cons_succ]
      refine wpAnyH_ready (rs := [7]) (by kernel_rfl) (by simp) ?_
      refine AllReadyH.cons (by rfl) (fun K hKK => ?_) AllReadyH.nil
      go_simp
      refine (HPF.out mt hs qa hha qn qc qg 0 hn hhc hhg 0 _ (by have := HC'.out.1.len_eq; omega) (by have := HC'.out.2.1.len_eq; omega) HHZ.out (HC'.out.1.below HB4.out) (HC'.out.2.1.below HB4.out)).mono ?_
      rintro e w5 ⟨⟨v5, rfl, hv5⟩, hb5⟩
      have HB5 : Hid (Below wp.heap.size wp w5) := HB4.out.trans (hb5.mono HB4.out.size)
      have HV5 : Hid (OwnX p w5 wp.heap.size v5 (passL mt hs)) := OwnK.mono hv5 HB4.out.size
      clear hv5 hb5
      go_wp2_with fail
      refine hKK.out _ _ (hbase _ HB5.out) (fun hHeld => ?_)
      clear hKK K
      try simp only [Act.put, List.setIfInBounds_toArray, List.set_cons_zero, List.set_cons_succ]
      refine takeH (i := 8) (d := some 12) (v := ?_) rfl rfl (by kernel_rfl) (by kernel_rfl) (by kernel_rfl) (fun _ _ _ h => h) (by rfl) ?_ (by assumption) ?_
      rotate_left
      · intro w hSw; (try dsimp only at hSw); obtain ⟨q0, q1, q2, q3, q4, q5, q6, q7, q8, q9, q10, q11, q12, _⟩ := hSw; go_simp; with_reducible rfl
      try simp only [Act.put, List.setIfInBounds_toArray, List.set_cons_zero, List.set_cons_succ]
      refine wpAnyH_done (by kernel_rfl) ?_ _
      go_wp2_with fail
      go_meet
      exact ⟨v5, rfl, ⟨HB5.out, HV5.out⟩⟩
    case rest =>
    obtain ⟨v5, rfl, HV⟩ := hcut
    obtain ⟨w5, rfl⟩ : ∃ x, x = wc := ⟨_, rfl⟩
    have HB5 : Hid (Below wp.heap.size wp w5) := HV.out.1
    have HV5 : Hid (OwnX p w5 wp.heap.size v5 (passL mt hs)) := HV.out.2
    have hS5 := hbase _ HB5.out
    clear HV
    obtain ⟨xa, xc, xg, rfl, hps5⟩ := OwnX.pss HV5.out
    have HX5 : Hid (OwnX p w5 wp.heap.size (.slice xa (passL mt hs).length xc) (passL mt hs) ∧ Pss w5 xa (passL mt hs).length xg 0 ((passL mt hs).map p.of)) := ⟨HV5.out, hps5⟩
    have hpl : (passL mt hs).length ≤ 80 := by have := passL_len mt hs; have := HC'.out.1.len_eq; have := HC'.out.2.1.len_eq; omega
    obtain ⟨t, HT⟩ : ∃ t, Hid (coversL wi m xs ((passL mt hs).map p.of) = t) := ⟨_, rfl⟩
    have HG : Hid (grantL p true wi m xs ps = if t then .ok (passL mt hs) else .error 6) := by
      have e := grantL_cov (p := p) HMS.out.1 HHS.out.1 (t := t) (by rw [HMT.out]; exact HT.out)
      rw [HMT.out] at e
      exact e
    obtain ⟨pn, HPN⟩ : ∃ pn, Hid ((passL mt hs).length = pn) := ⟨_, rfl⟩
    rw [HPN.out] at HX5 hpl
    clear hps5 HV5 hS hbase
    obtain ⟨d0, d1, d2, d3, d4, d5, d6, d7, d8, d9, d10, d11, d12, _⟩ := hS5
    have HBW5 : Hid (Below w.heap.size w w5) := HC'.out.2.2.bel.trans (HB5.out.mono HC'.out.2.2.bel.size)
    rw [HPN.out]
    go_wp2_with fail
    refine (HCV.out _ xa pn xc xg 0 _ (by omega) HBW5.out HX5.out.2).mono ?_
    rintro e w6 ⟨rfl, hb6⟩
    rw [HT.out]
    have HB6 : Hid (Below w.heap.size w w6) := HBW5.out.trans (hb6.mono HBW5.out.size)
    have HX6 : Hid (OwnX p w6 w.heap.size (.slice xa pn xc) (passL mt hs)) := OwnK.mono (HX5.out.1.below hb6) HC'.out.2.2.bel.size
    clear hb6 d0 d1 d2 d3 d4 d5 d6 d7 d8 d9 d10 d11 d12
    cases t
    · go_wp2
      go_ret2
      exact ⟨.inr ⟨6, HG.out, rfl⟩, HB6.out⟩
    · go_wp2
      go_ret2
      exact ⟨.inl ⟨passL mt hs, _, HG.out, by rw [HPN.out]; exact hpl, rfl, HX6.out⟩, HB6.out⟩
end Go.Proofs.YtoblpjknnchlmabGreatDoor

/- The fact that servers' answers are read and held. -/
namespace Go.Proofs.YtoblpjknnchlmabGreatDoor
open Go.RowKit

theorem asked_none : askedL [] = [] := by
  have h : tx (askedNames []) = [] := by decide +kernel
  have h2 : sortL [] = [] := List.eq_nil_of_length_eq_zero (sortL_len [])
  unfold askedL
  rw [h, h2]
  rfl
def granS : ByteArray := ⟨#[65, 99, 99, 101, 115, 115, 45, 67, 111, 110, 116, 114, 111, 108, 45, 65, 108, 108, 111, 119, 45, 79, 114, 105, 103, 105, 110, 58, 32, 104, 116, 116, 112, 115, 58, 47, 47, 97, 46, 116, 101, 115, 116, 10, 65, 99, 99, 101, 115, 115, 45, 67, 111, 110, 116, 114, 111, 108, 45, 65, 108, 108, 111, 119, 45, 77, 101, 116, 104, 111, 100, 115, 58, 32, 80, 85, 84, 44, 88]⟩
def granF : List Par := [(⟨#[65, 99, 99, 101, 115, 115, 45, 67, 111, 110, 116, 114, 111, 108, 45, 65, 108, 108, 111, 119, 45, 79, 114, 105, 103, 105, 110]⟩, ⟨#[104, 116, 116, 112, 115, 58, 47, 47, 97, 46, 116, 101, 115, 116]⟩), (⟨#[65, 99, 99, 101, 115, 115, 45, 67, 111, 110, 116, 114, 111, 108, 45, 65, 108, 108, 111, 119, 45, 77, 101, 116, 104, 111, 100, 115]⟩, ⟨#[80, 85, 84, 44, 88]⟩)]
theorem granF_is : fieldsF granS.data.toList = .ok granF := by kernel_rfl
theorem granF_few : Few9 granF := by unfold Few9; decide +kernel
theorem granF_age : ageL granF = 5 := by kernel_rfl
theorem gran_may : mayL false (textL true (⟨#[97, 46, 116, 101, 115, 116]⟩ : ByteArray).data.toList 443) granF = true := by kernel_rfl
theorem gran_put : methodB ⟨#[80, 85, 84]⟩ = ⟨#[80, 85, 84]⟩ := by kernel_rfl
theorem gran_grant (p : PsV) : grantL p true false ⟨#[80, 85, 84]⟩ [] granF = .ok [(⟨#[80, 85, 84]⟩, ⟨#[]⟩), (⟨#[88]⟩, ⟨#[]⟩)] := by
  have h1 : wordsO (fieldT mN granF) = some [⟨#[80, 85, 84]⟩, ⟨#[88]⟩] := by kernel_rfl
  have h2 : wordsO (fieldT hN granF) = some [] := by kernel_rfl
  have h3 : passL (msOf [⟨#[80, 85, 84]⟩, ⟨#[88]⟩] ⟨#[80, 85, 84]⟩) [] = [(⟨#[80, 85, 84]⟩, ⟨#[]⟩), (⟨#[88]⟩, ⟨#[]⟩)] := by kernel_rfl
  have h4 : coversL false ⟨#[80, 85, 84]⟩ [] ((passL (msOf [⟨#[80, 85, 84]⟩, ⟨#[88]⟩] ⟨#[80, 85, 84]⟩) []).map p.of) = true := by
    rw [h3]
    unfold coversL
    simp [okM, PsV.of]
  rw [grantL_cov h1 h2 h4, if_pos rfl, h3]
theorem gran_cov : coversL false ⟨#[80, 85, 84]⟩ [] [] = false := by decide +kernel
theorem gran_same : sameO true ⟨#[97, 46, 116, 101, 115, 116]⟩ 443 true ⟨#[98, 46, 116, 101, 115, 116]⟩ 443 = false := by decide +kernel
set_option maxRecDepth 100000 in
set_option maxHeartbeats 8000000 in
theorem granted_any (w : World) (he : Env w) (hm : Methods w) : Calls Tryz.prog 12 #[] w fun e w' => e = .returned (.bool true) ∧ Below w.heap.size w w' := by
  have HQ : Hid (BoxQ 28 w #[.int .i64 0, .bool true, .string ⟨#[97, 46, 116, 101, 115, 116]⟩, .int .i64 443, .bool true, .string ⟨#[98, 46, 116, 101, 115, 116]⟩, .int .i64 443, .string ⟨#[47]⟩, .string ⟨#[]⟩, .string ⟨#[80, 85, 84]⟩, .slice none 0 0, .bool false, .string ⟨#[]⟩] (w.alloc (.cells #[.int .i64 0, .bool true, .string ⟨#[97, 46, 116, 101, 115, 116]⟩, .int .i64 443, .bool true, .string ⟨#[98, 46, 116, 101, 115, 116]⟩, .int .i64 443, .string ⟨#[47]⟩, .string ⟨#[]⟩, .string ⟨#[80, 85, 84]⟩, .slice none 0 0, .bool false, .string ⟨#[]⟩] 28))) := BoxQ.new _ _ _
  have HE : Hid (∀ W, Below w.heap.size w W → Env W ∧ Methods W) := fun W hW => ⟨he.below hW (Nat.le_refl _), hm.below hW (Nat.le_refl _)⟩
  have hfl := fields9_any granS (by decide +kernel) (w.alloc (.cells #[.int .i64 0, .bool true, .string ⟨#[97, 46, 116, 101, 115, 116]⟩, .int .i64 443, .bool true, .string ⟨#[98, 46, 116, 101, 115, 116]⟩, .int .i64 443, .string ⟨#[47]⟩, .string ⟨#[]⟩, .string ⟨#[80, 85, 84]⟩, .slice none 0 0, .bool false, .string ⟨#[]⟩] 28))
  rw [granF_is] at hfl
  clear he hm
  go_enter Tryz.func12, Tryz.ntmps12
  go_wp2_with fail
  refine hfl.mono ?_
  rintro e w1 ⟨ha, hb1⟩
  have HQ1 : Hid (BoxQ 28 w #[.int .i64 0, .bool true, .string ⟨#[97, 46, 116, 101, 115, 116]⟩, .int .i64 443, .bool true, .string ⟨#[98, 46, 116, 101, 115, 116]⟩, .int .i64 443, .string ⟨#[47]⟩, .string ⟨#[]⟩, .string ⟨#[80, 85, 84]⟩, .slice none 0 0, .bool false, .string ⟨#[]⟩] w1) := HQ.out.step hb1
  clear hfl hb1
  obtain ⟨v, rfl, hown⟩ : ∃ v, e = .returned (.tuple #[v, .nilIface]) ∧ OwnP w1 w.heap.size v granF := by
    rcases ha with ⟨acc, v, h1, _, h3, h4⟩ | ⟨h1, _⟩ | ⟨i, g, h1, _⟩
    · injection h1 with h1
      subst h1
      exact ⟨v, h3, h4.mono9 HQ.out.bel.size⟩
    · cases h1
    · cases h1
  obtain ⟨a, cap, g, rfl, hps, _⟩ := hown.pars
  have hl2 : granF.length = 2 := rfl
  rw [hl2] at hps
  have HP1 : Hid (Pars w1 a 2 g 0 granF) := hps
  clear ha hown hps HQ
  rw [hl2]
  have c0 := HQ1.out.at 0 _ rfl
  have c1 := HQ1.out.at 1 _ rfl
  have c2 := HQ1.out.at 2 _ rfl
  have c3 := HQ1.out.at 3 _ rfl
  have c4 := HQ1.out.at 4 _ rfl
  have c5 := HQ1.out.at 5 _ rfl
  have c6 := HQ1.out.at 6 _ rfl
  have c7 := HQ1.out.at 7 _ rfl
  have c8 := HQ1.out.at 8 _ rfl
  have c9 := HQ1.out.at 9 _ rfl
  have c10 := HQ1.out.at 10 _ rfl
  have c11 := HQ1.out.at 11 _ rfl
  have c12 := HQ1.out.at 12 _ rfl
  go_wp2_with fail
  have hgr := grant9_any granF granF_few a 2 cap g 0 [] (by intro p hp; cases hp) none 0 0 0 0 (by decide) 0 443 443 true true false ⟨#[97, 46, 116, 101, 115, 116]⟩ ⟨#[98, 46, 116, 101, 115, 116]⟩ ⟨#[47]⟩ ⟨#[]⟩ ⟨#[80, 85, 84]⟩ ⟨#[]⟩ (by decide) (by decide) (by decide) (by decide) (by decide) (by decide) (by decide) 10 (by decide) (by decide) w1 (HE.out _ HQ1.out.bel).1 (HE.out _ HQ1.out.bel).2 HP1.out ⟨rfl, fun h => absurd h (by omega), fun j p hp => by simp at hp, fun j p hp => by simp at hp⟩
  rw [gran_may, gran_put, asked_none, gran_grant] at hgr
  refine hgr.mono ?_
  rintro e w2 ⟨ha, hb2⟩
  have HQ2 : Hid (BoxQ 28 w #[.int .i64 0, .bool true, .string ⟨#[97, 46, 116, 101, 115, 116]⟩, .int .i64 443, .bool true, .string ⟨#[98, 46, 116, 101, 115, 116]⟩, .int .i64 443, .string ⟨#[47]⟩, .string ⟨#[]⟩, .string ⟨#[80, 85, 84]⟩, .slice none 0 0, .bool false, .string ⟨#[]⟩] w2) := HQ1.out.step hb2
  have HP2 : Hid (Pars w2 a 2 g 0 granF) := HP1.out.below hb2
  clear hgr hb2 HQ1 HP1 c0 c1 c2 c3 c4 c5 c6 c7 c8 c9 c10 c11 c12
  obtain ⟨v, rfl, hown⟩ : ∃ v, e = .returned (.tuple #[v, .nilIface]) ∧ OwnX ⟨true, ⟨#[97, 46, 116, 101, 115, 116]⟩, 443, true, ⟨#[98, 46, 116, 101, 115, 116]⟩, 443, ⟨#[47]⟩, ⟨#[]⟩, false, ⟨#[]⟩, ⟨#[]⟩, 10 + ageL granF⟩ w2 w1.heap.size v [(⟨#[80, 85, 84]⟩, ⟨#[]⟩), (⟨#[88]⟩, ⟨#[]⟩)] := by
    rcases ha with ⟨l, v, h1, _, h3, h4⟩ | ⟨n, h1, _⟩
    · injection h1 with h1
      subst h1
      exact ⟨v, h3, h4⟩
    · cases h1
  obtain ⟨xa, xc, xg, rfl, hpx⟩ := hown.pss
  obtain ⟨hxa, _⟩ := hpx.lies (by decide)
  subst hxa
  have hp9 := (hpx.all (j := 0) rfl).2.2.2.2.2.2.2.2.2.1
  have hp11 := (hpx.all (j := 1) rfl).2.2.2.2.2.2.2.2.2.2.2
  rw [granF_age] at hp11
  simp only [PsV.of, Nat.zero_add, Nat.zero_mul, Nat.one_mul, Nat.reduceAdd, Int.reduceAdd] at hp9 hp11
  clear ha hown hpx
  simp only [List.length_cons, List.length_nil, Nat.zero_add, Nat.reduceAdd]
  have d0 := HQ2.out.at 0 _ rfl
  have d1 := HQ2.out.at 1 _ rfl
  have d2 := HQ2.out.at 2 _ rfl
  have d3 := HQ2.out.at 3 _ rfl
  have d4 := HQ2.out.at 4 _ rfl
  have d5 := HQ2.out.at 5 _ rfl
  have d6 := HQ2.out.at 6 _ rfl
  have d7 := HQ2.out.at 7 _ rfl
  have d8 := HQ2.out.at 8 _ rfl
  have d9 := HQ2.out.at 9 _ rfl
  have d10 := HQ2.out.at 10 _ rfl
  have d11 := HQ2.out.at 11 _ rfl
  have d12 := HQ2.out.at 12 _ rfl
  have hn := needs9_any [] (by intro p hp; cases hp) none 0 0 0 0 (by decide) 0 443 443 true true false ⟨#[97, 46, 116, 101, 115, 116]⟩ ⟨#[98, 46, 116, 101, 115, 116]⟩ ⟨#[47]⟩ ⟨#[]⟩ ⟨#[80, 85, 84]⟩ ⟨#[]⟩ (by decide) w2 (HE.out _ HQ2.out.bel).2 ⟨rfl, fun h => absurd h (by omega), fun j p hp => by simp at hp, fun j p hp => by simp at hp⟩
  rw [gran_put, asked_none, gran_cov, gran_same] at hn
  go_wp2_with fail
  refine hn.mono ?_
  rintro e w3 ⟨rfl, hb3⟩
  have HQ3 : Hid (BoxQ 28 w #[.int .i64 0, .bool true, .string ⟨#[97, 46, 116, 101, 115, 116]⟩, .int .i64 443, .bool true, .string ⟨#[98, 46, 116, 101, 115, 116]⟩, .int .i64 443, .string ⟨#[47]⟩, .string ⟨#[]⟩, .string ⟨#[80, 85, 84]⟩, .slice none 0 0, .bool false, .string ⟨#[]⟩] w3) := HQ2.out.step hb3
  have HP3 : Hid (Pars w3 a 2 g 0 granF) := HP2.out.below hb3
  clear hn hb3 HQ2 HP2 d0 d1 d2 d3 d4 d5 d6 d7 d8 d9 d10 d11 d12 hp9 hp11
  have e0 := HQ3.out.at 0 _ rfl
  have e1 := HQ3.out.at 1 _ rfl
  have e2 := HQ3.out.at 2 _ rfl
  have e3 := HQ3.out.at 3 _ rfl
  have e4 := HQ3.out.at 4 _ rfl
  have e5 := HQ3.out.at 5 _ rfl
  have e6 := HQ3.out.at 6 _ rfl
  have e7 := HQ3.out.at 7 _ rfl
  have e8 := HQ3.out.at 8 _ rfl
  have e9 := HQ3.out.at 9 _ rfl
  have e10 := HQ3.out.at 10 _ rfl
  have e11 := HQ3.out.at 11 _ rfl
  have e12 := HQ3.out.at 12 _ rfl
  have hma := may9_any granF granF_few a 2 cap g 0 0 443 443 true true ⟨#[97, 46, 116, 101, 115, 116]⟩ ⟨#[98, 46, 116, 101, 115, 116]⟩ ⟨#[47]⟩ ⟨#[]⟩ ⟨#[80, 85, 84]⟩ ⟨#[]⟩ none 0 0 false (by decide) (by decide) (by decide) w3 (HE.out _ HQ3.out.bel).1 HP3.out
  rw [gran_may] at hma
  go_wp2_with fail
  refine hma.mono ?_
  rintro e w4 ⟨rfl, hb4⟩
  have HB4 : Hid (Below w.heap.size w w4) := HQ3.out.inB hb4
  clear hma hb4
  go_wp2
  go_ret
  exact ⟨rfl, HB4.out⟩
end Go.Proofs.YtoblpjknnchlmabGreatDoor

/- Two answers, one behind the other. -/
namespace Go.Proofs.YtoblpjknnchlmabGreatDoor

theorem splitL_two (d : UInt8) : ∀ (a b : List UInt8), splitL d (a ++ d :: b) = splitL d a ++ splitL d b
  | [], b => by simp [splitL]
  | c :: t, b => by
    have ih := splitL_two d t b
    by_cases h : c = d
    · simp [splitL, h, ih]
    · cases e : splitL d t with
      | nil => exact absurd e (splitL_ne9 d t)
      | cons p r =>
        rw [e] at ih
        simp [splitL, h, ih, e]
where
  splitL_ne9 (d : UInt8) : ∀ l, splitL d l ≠ []
    | [] => by simp [splitL]
    | c :: t => by
      rw [splitL]
      split
      · simp
      · split <;> simp
theorem runF_more : ∀ (R : List (List UInt8)) (j : Nat) (acc0 Z : List Par), runF j acc0 R = .ok Z → ∃ Y, Z = acc0 ++ Y ∧ ∀ (i : Nat) (acc : List Par), acc.length + Y.length ≤ 40 → runF i acc R = .ok (acc ++ Y)
  | [], j, acc0, Z, h => by
    rw [runF] at h
    injection h with h
    exact ⟨[], by rw [← h, List.append_nil], fun i acc _ => by rw [runF, List.append_nil]⟩
  | l :: r, j, acc0, Z, h => by
    by_cases h0 : lineT l = []
    · rw [runF_skip h0] at h
      obtain ⟨Y, h1, h2⟩ := runF_more r _ _ _ h
      exact ⟨Y, h1, fun i acc hl => by rw [runF_skip h0]; exact h2 _ _ hl⟩
    · cases hx : lineF (lineT l) with
      | none => rw [runF_bad h0 hx] at h; cases h
      | some x =>
        by_cases h4 : acc0.length = 40
        · rw [runF_many h0 hx h4] at h; cases h
        · rw [runF_next h0 hx h4] at h
          obtain ⟨Y, h1, h2⟩ := runF_more r _ _ _ h
          refine ⟨x :: Y, by rw [h1, List.append_assoc]; rfl, fun i acc hl => ?_⟩
          rw [List.length_cons] at hl
          rw [runF_next h0 hx (by omega), h2 _ _ (by rw [List.length_append, List.length_singleton]; omega), List.append_assoc]
          rfl
theorem runF_app : ∀ (L R : List (List UInt8)) (i : Nat) (acc X : List Par), runF i acc L = .ok X → runF i acc (L ++ R) = runF (i + L.length) X R
  | [], R, i, acc, X, h => by
    rw [runF] at h
    injection h with h
    rw [h]
    rfl
  | l :: r, R, i, acc, X, h => by
    rw [List.cons_append, List.length_cons, show i + (r.length + 1) = i + 1 + r.length by omega]
    by_cases h0 : lineT l = []
    · rw [runF_skip h0] at h ⊢
      exact runF_app r R _ _ _ h
    · cases hx : lineF (lineT l) with
      | none => rw [runF_bad h0 hx] at h; cases h
      | some x =>
        by_cases h4 : acc.length = 40
        · rw [runF_many h0 hx h4] at h; cases h
        · rw [runF_next h0 hx h4] at h ⊢
          exact runF_app r R _ _ _ h
theorem fieldsF_two {a b : List UInt8} {X Y : List Par} (h1 : fieldsF a = .ok X) (h2 : fieldsF b = .ok Y) (hl : X.length + Y.length ≤ 40) : fieldsF (a ++ 10 :: b) = .ok (X ++ Y) := by
  unfold fieldsF at *
  rw [splitL_two, runF_app _ _ _ _ _ h1]
  obtain ⟨Z, e, hz⟩ := runF_more _ _ _ _ h2
  rw [List.nil_append] at e
  subst e
  exact hz _ _ hl
theorem cutL_lens (c : UInt8) : ∀ l : List UInt8, (cutL c l).1.length ≤ l.length ∧ (cutL c l).2.1.length ≤ l.length
  | [] => by simp [cutL]
  | x :: t => by
    have ih := cutL_lens c t
    rw [cutL]
    split
    · simp
    · simp only [List.length_cons]
      omega
theorem trimW_len (p : List UInt8) : (trimW p).length ≤ p.length := by
  unfold trimW
  rw [List.length_reverse]
  refine Nat.le_trans (List.Sublist.length_le (List.dropWhile_sublist _)) ?_
  rw [List.length_reverse]
  exact List.Sublist.length_le (List.dropWhile_sublist _)
theorem lineF_lens {l : List UInt8} {x : Par} (h : lineF l = some x) : x.1.size ≤ l.length ∧ x.2.size ≤ l.length := by
  unfold lineF at h
  split at h
  · simp only [Option.some.injEq] at h
    rw [← h]
    have h1 := cutL_lens 58 l
    have h2 := trimW_len (cutL 58 l).2.1
    simp only [bs_size]
    omega
  · cases h
theorem lineT_len (l : List UInt8) : (lineT l).length ≤ l.length := by
  unfold lineT Lib.trimSuffix
  split <;> simp
theorem runF_lens : ∀ (R : List (List UInt8)) (i : Nat) (acc Z : List Par) (M : Nat), runF i acc R = .ok Z → (∀ l ∈ R, l.length ≤ M) → (∀ p ∈ acc, p.1.size ≤ M ∧ p.2.size ≤ M) → ∀ p ∈ Z, p.1.size ≤ M ∧ p.2.size ≤ M
  | [], i, acc, Z, M, h, _, ha, p, hp => by
    rw [runF] at h
    injection h with h
    rw [← h] at hp
    exact ha p hp
  | l :: r, i, acc, Z, M, h, hl, ha, p, hp => by
    by_cases h0 : lineT l = []
    · rw [runF_skip h0] at h
      exact runF_lens r _ _ _ M h (fun q hq => hl q (List.mem_cons_of_mem _ hq)) ha p hp
    · cases hx : lineF (lineT l) with
      | none => rw [runF_bad h0 hx] at h; cases h
      | some x =>
        by_cases h4 : acc.length = 40
        · rw [runF_many h0 hx h4] at h; cases h
        · rw [runF_next h0 hx h4] at h
          refine runF_lens r _ _ _ M h (fun q hq => hl q (List.mem_cons_of_mem _ hq)) (fun q hq => ?_) p hp
          rcases List.mem_append.1 hq with hq | hq
          · exact ha q hq
          · rw [List.mem_singleton.1 hq]
            have h5 := lineF_lens hx
            have h6 := lineT_len l
            have h7 := hl l List.mem_cons_self
            omega
theorem fieldsF_lens {s : List UInt8} {Z : List Par} (h : fieldsF s = .ok Z) : ∀ p ∈ Z, p.1.size ≤ s.length ∧ p.2.size ≤ s.length :=
  runF_lens _ _ _ _ _ h (fun l hl => splitL_lens 10 s l hl) (fun p hp => by cases hp)
theorem foldG (n : List UInt8) : ∀ (ps : List Par) (s : Option (List UInt8)), ps.foldl (getStep n) s = match fieldL n ps with | none => s | some v => some (joinV s v)
  | [], s => rfl
  | p :: r, s => by
    have e : fieldL n (p :: r) = match fieldL n r with | none => getStep n none p | some v => some (joinV (getStep n none p) v) := by
      unfold fieldL
      rw [List.foldl_cons]
      exact foldG n r (getStep n none p)
    rw [List.foldl_cons, foldG n r (getStep n s p), e]
    cases hq : sameL p.1.data.toList n with
    | false =>
      have g1 : ∀ u, getStep n u p = u := fun u => by unfold getStep; rw [hq]; rfl
      rw [g1, g1]
      cases fieldL n r with
      | none => rfl
      | some v => rfl
    | true =>
      have g1 : ∀ u, getStep n u p = some (joinV u p.2.data.toList) := fun u => by unfold getStep; rw [hq]; rfl
      rw [g1, g1]
      cases fieldL n r with
      | none => rfl
      | some v =>
        cases s with
        | none => rfl
        | some o => simp [joinV]
theorem fieldL_two (n : List UInt8) (X Y : List Par) : fieldL n (X ++ Y) = match fieldL n Y with | none => fieldL n X | some v => some (joinV (fieldL n X) v) := by
  unfold fieldL
  rw [List.foldl_append]
  exact foldG n Y _
end Go.Proofs.YtoblpjknnchlmabGreatDoor

/- Two rows of parameters behind each other, by the library's own functions. -/
namespace Go.Proofs.YtoblpjknnchlmabGreatDoor
open Go.RowKit Go.Shelf

def growP_ren : Go.Shelf.Ren := ⟨fun | 4 => 33 | n => n, fun | 22 => 26 | 25 => 37 | 20 => 20 | n => n, fun | n => n⟩
theorem growPL : Go.Proofs.Lays8.n4 Tryz.prog growP_ren := {
  mixed := by kernel_rfl
  f4 := ⟨"slices.Grow[[]gatepost/api.Param,gatepost/api.Param]", by kernel_rfl, Tryz.func33.trans (congrArg some (by kernel_rfl))⟩
  t0 := Tryz.underlying0
  a0 := Tryz.isAgg0
  z0 := Tryz.sizeOf0
  v0 := Tryz.zeroValue0
  t3 := Tryz.underlying3
  a3 := Tryz.isAgg3
  z3 := Tryz.sizeOf3
  v3 := Tryz.zeroValue3
  t4 := Tryz.underlying4
  a4 := Tryz.isAgg4
  z4 := Tryz.sizeOf4
  v4 := Tryz.zeroValue4
  t9 := Tryz.underlying9
  a9 := Tryz.isAgg9
  z9 := Tryz.sizeOf9
  v9 := Tryz.zeroValue9
  t20 := Tryz.underlying20
  a20 := Tryz.isAgg20
  z20 := Tryz.sizeOf20
  v20 := Tryz.zeroValue20
  t22 := Tryz.underlying26
  a22 := Tryz.isAgg26
  z22 := Tryz.sizeOf26
  v22 := Tryz.zeroValue26 }
theorem parCells_len : ∀ ps : List Par, (parCells ps).length = ps.length * 2
  | [] => rfl
  | p :: r => by rw [parCells, List.length_cons, List.length_cons, parCells_len r, List.length_cons]; omega
theorem parCells_one : ∀ (ps : List Par) (u : Value), u ∈ parCells ps → u.oneCell' = true
  | [], u, h => by cases h
  | p :: r, u, h => by
    rw [parCells] at h
    rcases List.mem_cons.1 h with h | h
    · rw [h]; rfl
    · rcases List.mem_cons.1 h with h | h
      · rw [h]; rfl
      · exact parCells_one r u h
theorem parCells_two : ∀ (ps : List Par) (j : Nat) (u : Value), (parCells ps)[j]? = some u → ∃ p, ps[j / 2]? = some p ∧ ((j % 2 = 0 ∧ u = .string p.1) ∨ (j % 2 = 1 ∧ u = .string p.2))
  | [], j, u, h => by simp [parCells] at h
  | p :: r, 0, u, h => by
    simp [parCells] at h
    exact ⟨p, rfl, .inl ⟨rfl, h.symm⟩⟩
  | p :: r, 1, u, h => by
    simp [parCells] at h
    exact ⟨p, rfl, .inr ⟨rfl, h.symm⟩⟩
  | p :: r, j + 2, u, h => by
    have h' : (parCells r)[j]? = some u := by simpa [parCells] using h
    obtain ⟨q, h1, h2⟩ := parCells_two r j u h'
    refine ⟨q, ?_, ?_⟩
    · rw [show (j + 2) / 2 = j / 2 + 1 by omega]
      simpa using h1
    · rw [show (j + 2) % 2 = j % 2 by omega]
      exact h2
theorem parCells_cell {w : World} {a : Option Addr} {m b off : Nat} {ys : List Par} (hy : Pars w a m b off ys) {j : Nat} {u : Value} (hu : (parCells ys)[j]? = some u) : w.cell? ⟨b, off + j, none⟩ = some u := by
  obtain ⟨p, h1, ⟨h2, rfl⟩ | ⟨h2, rfl⟩⟩ := parCells_two ys j u hu
  · have := hy.one (j / 2) p h1
    rw [show off + j / 2 * 2 = off + j by omega] at this
    exact this
  · have := hy.two (j / 2) p h1
    rw [show off + j / 2 * 2 + 1 = off + j by omega] at this
    exact this
theorem appendP_none (W : World) (ty : TypeId) (base a : Option Addr) (sl sc c : Nat) (hle : sl ≤ sc) : (Builtin.append_ #[26, 26] ty #[.slice base sl sc, .slice a 0 c]).run Tryz.prog W = .ok (.slice base sl sc) W := by
  obtain ⟨i0, hi0, hz0, hz1, hz2⟩ := info_parts infoP
  refine run_append_nothing W 26 26 ty 37 i0 Tryz.underlying26 hi0 base sl sc hle _ ?_
  cases a with
  | none => exact Src.ofNil _ Tryz.underlying26 c
  | some a => exact Src.ofSlice _ Tryz.underlying26 a 0 c [] (by simp) (fun j u h => by simp at h) (fun u h => absurd h (by simp))
/-- A row of texts behind a row that is owned. -/
theorem wp_apprp {ops : Array Oper} {rest : List Oper} {o : Oper} {a : Act} {Q : Exit → Act → World → Prop} (hgd : o.guard = none) (s x : Operand)
    (ho : o.op = .call { callee := .builtin .append, args := #[s, x], argTypes := #[26, 26] })
    (B : Nat) (wr : World) (v : Value) (xs : List Par) (hs : a.eval s = v) (hown : OwnP wr B v xs) (hl : xs.length ≤ 1000) (hB : B ≤ wr.heap.size)
    (a2 : Option Addr) (m c b off : Nat) (ys : List Par) (hx : a.eval x = .slice a2 m c) (hy : Pars wr a2 m b off ys) (hm : m ≤ 1000)
    (h : ∀ v' w', OwnP w' B v' (xs ++ ys) → wr.grownBy w' v.ownBlock → wpList Tryz.prog ops Q rest (a.put o.dst v') w') :
    wpList Tryz.prog ops Q (o :: rest) a wr := by
  obtain ⟨i0, hi0, hz0, hz1, hz2⟩ := info_parts infoP
  have hym := hy.len_eq
  by_cases h0 : m = 0
  · subst h0
    have e : ys = [] := List.eq_nil_of_length_eq_zero hym
    subst e
    rcases hown.2 with ⟨rfl, hz⟩ | ⟨g, cap, cur, rfl, _, _, hle, _⟩
    · refine Lib.wpList_append_run _ hgd s x _ _ ho _ _ hs hx _ _ (appendP_none wr _ none a2 0 0 c (Nat.le_refl _)) (h _ _ ?_ (World.grownBy.refl _ _))
      rw [List.append_nil]
      exact hown
    · refine Lib.wpList_append_run _ hgd s x _ _ ho _ _ hs hx _ _ (appendP_none wr _ _ a2 _ _ c hle) (h _ _ ?_ (World.grownBy.refl _ _))
      rw [List.append_nil]
      exact hown
  · obtain ⟨rfl, _⟩ := hy.lies (by omega)
    refine wpList_append_lies _ hgd s x 26 ho B 37 i0 (.agg #[.string ⟨#[]⟩, .string ⟨#[]⟩]) 2 32 Tryz.underlying26 hi0 hz0 hz1 hz2 rfl (by omega) v xs.length _ hs hown ⟨b, off, none⟩ m c (parCells ys) hx (by rw [parCells_len, hym])
      (fun j u hu => ?_) (fun u hu => ?_) (by omega) (by unfold maxLen; omega) (by omega) hB _ rfl ?_
    · rw [WideShapes.add_plain]
      exact parCells_cell hy hu
    · exact parCells_one ys u hu
    · intro g cap w' hown1 hgrow _ hlt
      refine h _ w' ?_ hgrow
      unfold OwnP
      rw [List.length_append, parCells_app, hym]
      exact hown1
theorem growP_nil (n : Nat) (hn : n ≤ 1000) (w : World) :
    Calls Tryz.prog 33 #[.slice none 0 0, .int .i64 (n : Int)] w fun e w' => ∃ v, e = .returned v ∧ OwnP w' w.heap.size v [] ∧ Below w.heap.size w w' := by
  obtain ⟨i0, hi0, hz0, hz1, hz2⟩ := info_parts infoP
  by_cases h0 : n = 0
  · subst h0
    refine (Any8.slices_Grow_room growPL none 0 0 0 w (Nat.le_refl _) (by omega) (by omega) (by omega)).mono ?_
    rintro e w' ⟨rfl, rfl⟩
    exact ⟨_, rfl, ownP_nil _ _, Below.refl _ _⟩
  · refine (Any8.slices_Grow_grow growPL i0 (.agg #[.string ⟨#[]⟩, .string ⟨#[]⟩]) hi0 hz0 (by omega) none 0 0 n [] w (Nat.le_refl _) (by omega) (by rw [hz2]; omega) (by omega) (by simp) (fun _ => rfl) (fun a ha => by cases ha)).mono ?_
    rintro e w' ⟨rfl, rfl⟩
    have hge : 0 + n ≤ grownCap w (0 + n) 0 (growP_ren.t 25) := grownCap_ge w _ _ _
    have hle : grownCap w (0 + n) 0 (growP_ren.t 25) ≤ maxLen := grownCap_le_maxLen w (0 + n) 0 _ (by unfold maxLen; omega)
    refine ⟨_, rfl, ?_, ((Below.refl _ _).drew).alloc (Nat.le_refl _) _⟩
    generalize grownCap w (0 + n) 0 (growP_ren.t 25) = G at hge hle
    refine ⟨rfl, .inr ⟨_, _, _, rfl, Nat.le_refl _, heap_alloc_new w.drew _, Nat.zero_le _, hle, ?_, ?_⟩⟩
    · simp [Builtin.zeroCells, Value.cells]
      omega
    · simp [parCells]
set_option maxRecDepth 100000 in
set_option maxHeartbeats 2000000 in
theorem concatP_two (g : Nat) (a1 a2 : Option Addr) (n1 c1 b1 o1 n2 c2 b2 o2 : Nat) (xs ys : List Par) (w : World) (hg : g < w.heap.size) (h1 : w.cell? ⟨g, 0, none⟩ = some (.slice a1 n1 c1)) (h2 : w.cell? ⟨g, 0 + 1, none⟩ = some (.slice a2 n2 c2))
    (hx : Pars w a1 n1 b1 o1 xs) (hy : Pars w a2 n2 b2 o2 ys) (hn1 : n1 ≤ 100) (hn2 : n2 ≤ 100) :
    Calls Tryz.prog 15 #[.slice (some ⟨g, 0, none⟩) 2 2] w fun e w' => ∃ v, e = .returned v ∧ OwnP w' w.heap.size v (xs ++ ys) ∧ Below w.heap.size w w' := by
  have HX : Hid (Pars w a1 n1 b1 o1 xs) := hx
  have HY : Hid (Pars w a2 n2 b2 o2 ys) := hy
  clear hx hy
  go_enter Tryz.func15, Tryz.ntmps15
  have s1 : IntKind.i64.wrap (0 + (n1 : Int)) = (n1 : Int) := by unfold IntKind.wrap; simp [IntKind.bits, IntKind.signed]; omega
  have hgr : ∀ w, Calls Tryz.prog 33 #[.slice none 0 0, .int .i64 ((n1 : Int) + (n2 : Int))] w fun e w' => ∃ v, e = .returned v ∧ OwnP w' w.heap.size v [] ∧ Below w.heap.size w w' := fun w => by
    have := growP_nil (n1 + n2) (by omega) w
    push_cast at this
    exact this
  have hl1 := HX.out.len_eq
  have hl2 := HY.out.len_eq
  go_wp2
  refine wp_loop_rounds 3 ?_
  rw [rounds_succ]
  go_wp2
  rw [rounds_succ]
  go_wp2
  rw [rounds_succ]
  go_wp2_with fail
  refine (hgr _).mono ?_
  rintro e w3 ⟨v3, rfl, hown3, hb3⟩
  have HO3 : Hid (OwnP w3 w.heap.size v3 []) := hown3
  have f1 : w3.cell? ⟨g, 0, none⟩ = some (.slice a1 n1 c1) := (hb3.cell (p := ⟨g, 0, none⟩) hg).trans h1
  have z3 := hb3.size
  have HX3 : Hid (Pars w3 a1 n1 b1 o1 xs) := HX.out.below hb3
  have HF2 : Hid (w3.cell? ⟨g, 0 + 1, none⟩ = some (.slice a2 n2 c2)) := (hb3.cell (p := ⟨g, 0 + 1, none⟩) hg).trans h2
  clear hown3
  go_wp2
  refine wp_loop_rounds 3 ?_
  rw [rounds_succ]
  go_wp2_with (at_builtin; refine wp_apprp rfl _ _ rfl w.heap.size w3 v3 [] rfl HO3.out (by simp) z3 a1 n1 c1 b1 o1 xs rfl HX3.out (by omega) ?_; intro v4 w4 hown4 hg4; have HO4 : Hid (OwnP w4 w.heap.size v4 xs) := hown4; clear hown4)
  have hb4 : Below w.heap.size w w4 := hb3.grown hg4 z3 (fun i hi => (HO3.out.lt i hi).1)
  have z4 := hb4.size
  have f2 : w4.cell? ⟨g, 1, none⟩ = some (.slice a2 n2 c2) := (hb4.cell (p := ⟨g, 1, none⟩) hg).trans h2
  have HY4 : Hid (Pars w4 a2 n2 b2 o2 ys) := HY.out.below hb4
  clear hg4 HF2 f1
  rw [rounds_succ]
  go_wp2_with (at_builtin; refine wp_apprp rfl _ _ rfl w.heap.size w4 v4 xs rfl HO4.out (by omega) z4 a2 n2 c2 b2 o2 ys rfl HY4.out (by omega) ?_; intro v5 w5 hown5 hg5; have HO5 : Hid (OwnP w5 w.heap.size v5 (xs ++ ys)) := hown5; clear hown5)
  have hb5 : Below w.heap.size w w5 := hb4.grown hg5 z4 (fun i hi => (HO4.out.lt i hi).1)
  clear hg5
  rw [rounds_succ]
  go_wp2
  go_ret
  exact ⟨v5, rfl, HO5, hb5⟩
end Go.Proofs.YtoblpjknnchlmabGreatDoor

/- Two rows of the same parameters, held against each other by the library's own function. -/
namespace Go.Proofs.YtoblpjknnchlmabGreatDoor
open Go.RowKit

theorem eqParq (x y : ByteArray) (w : World) :
    (Op.equalIn 10000 37 (.agg #[.string x, .string y]) (.agg #[.string x, .string y])).run Tryz.prog w = .ok true w := by
  have u9 := Tryz.underlying9
  have hS : Tryz.prog.underlying 37 = some (.struct (Tryz.prog.fieldsOf 37)) := by kernel_rfl
  have hp : Tryz.prog.stoodInHeld 37 = false := by kernel_rfl
  rw [show (10000 : Nat) = 9999 + 1 from rfl, run_equalIn_agg w 9999 37 _ _ hS hp]
  simp only [Program.fieldsOf, Tryz.underlying37]
  go_simp
set_option maxRecDepth 100000 in
set_option maxHeartbeats 4000000 in
theorem equalP_same (a1 a2 : Option Addr) (n c b1 o1 d b2 o2 : Nat) (xs : List Par) (w : World) (hn : n ≤ 1000) (h1 : Pars w a1 n b1 o1 xs) (h2 : Pars w a2 n b2 o2 xs) :
    Calls Tryz.prog 14 #[.slice a1 n c, .slice a2 n d] w fun e w' => e = .returned (.bool true) ∧ ∃ q, w' = w.drewN q := by
  have H1 : Hid (Pars w a1 n b1 o1 xs) := h1
  have H2 : Hid (Pars w a2 n b2 o2 xs) := h2
  have HL : Hid (xs.length = n) := h1.len_eq
  clear h1 h2
  go_enter Tryz.func14, Tryz.ntmps14
  go_wp2
  go_loopw [13] (fun i wr => ∃ (k q : Nat), k ≤ n ∧ i = .int .i64 k ∧ wr = w.drewN q) (fun i _ => n - (intOf i).toNat)
  case atStart => exact ⟨0, 0, Nat.zero_le _, rfl, rfl⟩
  case round =>
    obtain ⟨k, q, hk, rfl, rfl⟩ := hrel
    by_cases hlt : k < n
    · have hltz : (k : Int) < (n : Int) := by omega
      obtain ⟨x, hx⟩ : ∃ x, xs[k]? = some x := ⟨xs[k]'(by have := HL.out; omega), List.getElem?_eq_getElem _⟩
      obtain ⟨ha1, _⟩ := H1.out.lies (by omega)
      obtain ⟨ha2, _⟩ := H2.out.lies (by omega)
      subst ha1 ha2
      obtain ⟨xn, xv⟩ := x
      have c1 : w.cell? ⟨b1, o1 + k * 2, none⟩ = some (.string xn) := H1.out.one k _ hx
      have c2 : w.cell? ⟨b1, o1 + k * 2 + 1, none⟩ = some (.string xv) := H1.out.two k _ hx
      have d1 : w.cell? ⟨b2, o2 + k * 2, none⟩ = some (.string xn) := H2.out.one k _ hx
      have d2 : w.cell? ⟨b2, o2 + k * 2 + 1, none⟩ = some (.string xv) := H2.out.two k _ hx
      have ep := fun W => eqParq xn xv W
      clear hx
      go_wp2
      go_quiet (fail)
      go_wp2
      go_roundw
      case rel => exact ⟨k + 1, _, by omega, by go_num, rfl⟩
      case measure => simp [intOf]; omega
    · have hltz : ¬ (k : Int) < (n : Int) := by omega
      go_wp2
      go_ret
      exact ⟨rfl, q, rfl⟩
end Go.Proofs.YtoblpjknnchlmabGreatDoor

/- The law FieldsPieces, walked. -/
namespace Go.Proofs.YtoblpjknnchlmabGreatDoor
open Go.RowKit

theorem field_both {n : List UInt8} {X Y : List Par} {u v : List UInt8} (h1 : fieldL n X = some u) (h2 : fieldL n Y = some v) : fieldL n (X ++ Y) = some (u ++ 44 :: 32 :: v) := by
  rw [fieldL_two, h2, h1]
  rfl
theorem field_left {n : List UInt8} {X Y : List Par} (h2 : fieldL n Y = none) : fieldL n (X ++ Y) = fieldL n X := by rw [fieldL_two, h2]
theorem field_right {n : List UInt8} {X Y : List Par} (h1 : fieldL n X = none) : fieldL n (X ++ Y) = fieldL n Y := by
  rw [fieldL_two, h1]
  cases fieldL n Y <;> rfl
theorem fewW_fields {s : List UInt8} {acc : List Par} (hs : s.length ≤ 1300) (h : fieldsF s = .ok acc) (hl : acc.length ≤ 45) : FewW acc :=
  ⟨hl, fun p hp => by have := fieldsF_lens h p hp; omega⟩
/-- What the two ways of the law's end ask. -/
theorem pieces_end (n : List UInt8) (X Y : List Par) : ∃ (f g : Bool) (u v x : ByteArray), (fieldL n X).isSome = f ∧ (fieldL n Y).isSome = g ∧ bs (fieldT n X) = u ∧ bs (fieldT n Y) = v ∧ bs (fieldT n (X ++ Y)) = x ∧ (fieldL n (X ++ Y)).isSome = (f || g) ∧ (f = true → g = true → x = u ++ ⟨#[44, 32]⟩ ++ v) ∧ (f = false ∨ g = false → x = u ++ v) := by
  refine ⟨_, _, _, _, _, rfl, rfl, rfl, rfl, rfl, ?_, ?_, ?_⟩
  · cases h1 : fieldL n X with
    | none => rw [field_right h1]; simp
    | some u =>
      cases h2 : fieldL n Y with
      | none => rw [field_left h2, h1]; simp
      | some v => rw [field_both h1 h2]; simp
  · intro hf hg
    obtain ⟨u, h1⟩ := Option.isSome_iff_exists.1 hf
    obtain ⟨v, h2⟩ := Option.isSome_iff_exists.1 hg
    rw [fieldT_some (field_both h1 h2), fieldT_some h1, fieldT_some h2]
    apply ByteArray.ext
    apply Array.ext'
    simp [bs]
  · intro h
    cases h1 : fieldL n X with
    | none =>
      have e : fieldT n (X ++ Y) = fieldT n Y := by unfold fieldT; rw [field_right h1]
      rw [e, fieldT_none h1]
      apply ByteArray.ext
      simp [bs]
    | some u =>
      cases h2 : fieldL n Y with
      | none =>
        have e : fieldT n (X ++ Y) = fieldT n X := by unfold fieldT; rw [field_left h2]
        rw [e, fieldT_none h2]
        apply ByteArray.ext
        simp [bs]
      | some v =>
        rw [h1, h2] at h
        simp at h
set_option maxRecDepth 100000 in
set_option maxHeartbeats 16000000 in
theorem fieldsPieces_walk (a : ByteArray) (_ha : a.size ≤ 140737488355328) (b : ByteArray) (_hb : b.size ≤ 140737488355328) (n : ByteArray) (_hn : n.size ≤ 140737488355328) (w : World) (he : Env w) (hm : Methods w) :
    Calls Tryz.prog 4 #[.string a, .string b, .string n] w fun e w' => e = .returned (.bool true) ∧ Below w.heap.size w w' := by
  have hgr := granted_any w he hm
  clear he hm
  by_cases h6 : (600 : Int) < (a.size : Int) + (b.size : Int)
  · go_enter Tryz.func4, Tryz.ntmps4
    go_wp2_with fail
    refine hgr.mono ?_
    rintro e w1 ⟨rfl, hb1⟩
    clear hgr
    go_wp2
    go_ret
    exact ⟨rfl, hb1⟩
  by_cases h60 : (60 : Int) < (n.size : Int)
  · go_enter Tryz.func4, Tryz.ntmps4
    go_wp2_with fail
    refine hgr.mono ?_
    rintro e w1 ⟨rfl, hb1⟩
    clear hgr
    go_wp2
    go_ret
    exact ⟨rfl, hb1⟩
  have hn4 : n.size ≤ 4000 := by omega
  have ha3 : a.size ≤ 3000 := by omega
  have hb3 : b.size ≤ 3000 := by omega
  have HSZ : Hid (a.size + b.size ≤ 600) := (show _ ≤ _ by omega)
  obtain ⟨o1, HO1⟩ : ∃ o, Hid (fieldsF a.data.toList = o) := ⟨_, rfl⟩
  obtain ⟨o2, HO2⟩ : ∃ o, Hid (fieldsF b.data.toList = o) := ⟨_, rfl⟩
  have HP1 : Hid (∀ W, Calls Tryz.prog 13 #[.string a] W fun e w' => FldAns o1 W.heap.size e w' ∧ Below W.heap.size W w') := fun W => by
    have := fields9_any a ha3 W
    rw [HO1.out] at this
    exact this
  have HP2 : Hid (∀ W, Calls Tryz.prog 13 #[.string b] W fun e w' => FldAns o2 W.heap.size e w' ∧ Below W.heap.size W w') := fun W => by
    have := fields9_any b hb3 W
    rw [HO2.out] at this
    exact this
  clear ha3 hb3 _ha _hb _hn
  go_enter Tryz.func4, Tryz.ntmps4
  go_wp2_with fail
  refine hgr.mono ?_
  rintro e w1 ⟨rfl, hb1⟩
  have HB1 : Hid (Below w.heap.size w w1) := hb1
  clear hgr hb1
  go_wp2_with fail
  refine (HP1.out _).mono ?_
  rintro e w2 ⟨hA2, hb2⟩
  have HB2 : Hid (Below w.heap.size w w2) := HB1.out.trans (hb2.mono HB1.out.size)
  clear hb2
  rcases hA2 with ⟨X, v1, ho1, hx40, rfl, hown1⟩ | ⟨_, rfl⟩ | ⟨i, g, _, rfl, _⟩
  case' inr.inl =>
    go_wp2_with fail
    refine (HP2.out _).mono ?_
    rintro e w3 ⟨hA3, hb3⟩
    have HB3 : Hid (Below w.heap.size w w3) := HB2.out.trans (hb3.mono HB2.out.size)
    clear hb3
    rcases hA3 with ⟨Y, v2, _, _, rfl, _⟩ | ⟨_, rfl⟩ | ⟨i, g, _, rfl, _⟩
    · go_wp2
      go_ret
      exact ⟨rfl, HB3.out⟩
    · go_wp2
      go_ret
      exact ⟨rfl, HB3.out⟩
    · go_wp2
      go_ret
      exact ⟨rfl, HB3.out⟩
  case' inr.inr =>
    go_wp2_with fail
    refine (HP2.out _).mono ?_
    rintro e w3 ⟨hA3, hb3⟩
    have HB3 : Hid (Below w.heap.size w w3) := HB2.out.trans (hb3.mono HB2.out.size)
    clear hb3
    rcases hA3 with ⟨Y, v2, _, _, rfl, _⟩ | ⟨_, rfl⟩ | ⟨i, g, _, rfl, _⟩
    · go_wp2
      go_ret
      exact ⟨rfl, HB3.out⟩
    · go_wp2
      go_ret
      exact ⟨rfl, HB3.out⟩
    · go_wp2
      go_ret
      exact ⟨rfl, HB3.out⟩
  obtain ⟨a1, c1, g1, rfl, hps1, _⟩ := hown1.pars
  obtain ⟨n1, HN1⟩ : ∃ n1, Hid (X.length = n1) := ⟨_, rfl⟩
  rw [HN1.out] at hps1 hx40
  have HX2 : Hid (Pars w2 a1 n1 g1 0 X) := hps1
  have HOX : Hid (o1 = .ok X) := ho1
  clear hown1 hps1 ho1
  rw [HN1.out]
  go_wp2_with fail
  refine (HP2.out _).mono ?_
  rintro e w3 ⟨hA3, hb3⟩
  have HB3 : Hid (Below w.heap.size w w3) := HB2.out.trans (hb3.mono HB2.out.size)
  have HX3 : Hid (Pars w3 a1 n1 g1 0 X) := HX2.out.below hb3
  clear hb3 HX2
  rcases hA3 with ⟨Y, v2, ho2, hy40, rfl, hown2⟩ | ⟨_, rfl⟩ | ⟨i, g, _, rfl, _⟩
  case' inr.inl =>
    go_wp2
    go_ret
    exact ⟨rfl, HB3.out⟩
  case' inr.inr =>
    go_wp2
    go_ret
    exact ⟨rfl, HB3.out⟩
  obtain ⟨a2, c2, g2, rfl, hps2, _⟩ := hown2.pars
  obtain ⟨n2, HN2⟩ : ∃ n2, Hid (Y.length = n2) := ⟨_, rfl⟩
  rw [HN2.out] at hps2 hy40
  have HY3 : Hid (Pars w3 a2 n2 g2 0 Y) := hps2
  have HOY : Hid (o2 = .ok Y) := ho2
  clear hown2 hps2 ho2
  rw [HN2.out]
  by_cases h40 : (40 : Int) < (n1 : Int) + (n2 : Int)
  · go_wp2
    go_ret
    exact ⟨rfl, HB3.out⟩
  have HFX : Hid (fieldsF a.data.toList = .ok X) := HO1.out.trans HOX.out
  have HFY : Hid (fieldsF b.data.toList = .ok Y) := HO2.out.trans HOY.out
  obtain ⟨z, HZ⟩ : ∃ z : ByteArray, Hid (a ++ ⟨#[10]⟩ ++ b = z) := ⟨_, rfl⟩
  have hzd : z.data.toList = a.data.toList ++ 10 :: b.data.toList := by rw [← HZ.out]; simp
  have hla : a.data.toList.length = a.size := Array.length_toList
  have hlb : b.data.toList.length = b.size := Array.length_toList
  have hzs : z.size ≤ 700 := by
    have e : z.data.toList.length = z.size := Array.length_toList
    rw [hzd, List.length_append, List.length_cons, hla, hlb] at e
    have := HSZ.out
    omega
  have HFZ : Hid (fieldsF z.data.toList = .ok (X ++ Y)) := by
    show _ = _
    rw [hzd]
    exact fieldsF_two HFX.out HFY.out (by rw [HN1.out, HN2.out]; omega)
  have HWX : Hid (FewW X) := fewW_fields (by rw [hla]; have := HSZ.out; omega) HFX.out (by rw [HN1.out]; omega)
  have HWY : Hid (FewW Y) := fewW_fields (by rw [hlb]; have := HSZ.out; omega) HFY.out (by rw [HN2.out]; omega)
  have HWZ : Hid (FewW (X ++ Y)) := fewW_fields (by have e : z.data.toList.length = z.size := Array.length_toList; omega) HFZ.out (by rw [List.length_append, HN1.out, HN2.out]; omega)
  have HP3 : Hid (∀ W, Calls Tryz.prog 13 #[.string z] W fun e w' => FldAns (.ok (X ++ Y)) W.heap.size e w' ∧ Below W.heap.size W w') := fun W => by
    have := fields9_any z (by omega) W
    rw [HFZ.out] at this
    exact this
  clear hzd hla hlb
  go_wp2_with fail
  rw [HZ.out]
  refine (HP3.out _).mono ?_
  rintro e w4 ⟨hA4, hb4⟩
  have HB4 : Hid (Below w.heap.size w w4) := HB3.out.trans (hb4.mono HB3.out.size)
  have HX4 : Hid (Pars w4 a1 n1 g1 0 X ∧ Pars w4 a2 n2 g2 0 Y) := ⟨HX3.out.below hb4, HY3.out.below hb4⟩
  clear hb4 HX3 HY3
  rcases hA4 with ⟨Z, v3, ho3, hz40, rfl, hown3⟩ | ⟨ho3, _⟩ | ⟨i, g, ho3, _⟩
  case' inr.inl => cases ho3
  case' inr.inr => cases ho3
  injection ho3 with ho3
  subst ho3
  obtain ⟨a3, c3, g3, rfl, hps3, _⟩ := hown3.pars
  obtain ⟨n3, HN3⟩ : ∃ n3, Hid ((X ++ Y).length = n3) := ⟨_, rfl⟩
  rw [HN3.out] at hps3 hz40
  have HZ4 : Hid (Pars w4 a3 n3 g3 0 (X ++ Y)) := hps3
  clear hown3 hps3
  rw [HN3.out]
  have HBA : Hid (Below w4.heap.size w4 (w4.alloc (.cells #[.slice a1 n1 c1, .slice a2 n2 c2] 26))) := (Below.refl _ _).alloc (Nat.le_refl _) _
  have hcc := concatP_two w4.heap.size a1 a2 n1 c1 g1 0 n2 c2 g2 0 X Y (w4.alloc (.cells #[.slice a1 n1 c1, .slice a2 n2 c2] 26)) (by simp) (World.cell?_alloc_mark _ _ _ _ _) (World.cell?_alloc_mark _ _ _ _ _) (HX4.out.1.below HBA.out) (HX4.out.2.below HBA.out) (by omega) (by omega)
  go_wp2_with fail
  refine hcc.mono ?_
  rintro e w5 ⟨v5, rfl, hown5, hb5⟩
  have HB5 : Hid (Below w4.heap.size w4 w5) := HBA.out.trans (hb5.mono HBA.out.size)
  obtain ⟨a5, c5, g5, rfl, hps5, _⟩ := hown5.pars
  rw [HN3.out] at hps5
  have HE5 : Hid (Pars w5 a3 n3 g3 0 (X ++ Y) ∧ Pars w5 a5 n3 g5 0 (X ++ Y)) := ⟨HZ4.out.below HB5.out, hps5⟩
  clear hcc hb5 hown5 hps5 HBA
  rw [HN3.out]
  go_wp2_with fail
  refine (equalP_same a3 a5 n3 _ g3 0 _ g5 0 (X ++ Y) _ (by omega) HE5.out.1 HE5.out.2).mono ?_
  rintro e w6 ⟨rfl, q6, rfl⟩
  have HB6 : Hid (Below w4.heap.size w4 (w5.drewN q6)) := HB5.out.trans ⟨rfl, rfl, rfl, Nat.le_refl _, fun _ _ => rfl⟩
  obtain ⟨f, g, u, v, x, hf, hg, hu, hv, hx, hfg, hboth, hone⟩ := pieces_end n.data.toList X Y
  have HGX : Hid (∀ W, Below w4.heap.size w4 W → Calls Tryz.prog 16 #[.slice a1 n1 c1, .string n] W fun e w' => e = .returned (.tuple #[.string u, .bool f]) ∧ Below W.heap.size W w') := fun W hW => by
    have := get9w_any X HWX.out n hn4 a1 n1 c1 g1 0 W (HX4.out.1.below hW)
    rw [hu, hf] at this
    exact this
  have HGY : Hid (∀ W, Below w4.heap.size w4 W → Calls Tryz.prog 16 #[.slice a2 n2 c2, .string n] W fun e w' => e = .returned (.tuple #[.string v, .bool g]) ∧ Below W.heap.size W w') := fun W hW => by
    have := get9w_any Y HWY.out n hn4 a2 n2 c2 g2 0 W (HX4.out.2.below hW)
    rw [hv, hg] at this
    exact this
  have HGZ : Hid (∀ W, Below w4.heap.size w4 W → Calls Tryz.prog 16 #[.slice a3 n3 c3, .string n] W fun e w' => e = .returned (.tuple #[.string x, .bool (f || g)]) ∧ Below W.heap.size W w') := fun W hW => by
    have := get9w_any (X ++ Y) HWZ.out n hn4 a3 n3 c3 g3 0 W (HZ4.out.below hW)
    rw [hx, hfg] at this
    exact this
  have HUZ : Hid (u.size ≤ 200000 ∧ v.size ≤ 200000) := by
    have e1 := fieldT_len n.data.toList X 3000 (fun p hp => (HWX.out.2 p hp).2)
    have e2 := fieldT_len n.data.toList Y 3000 (fun p hp => (HWY.out.2 p hp).2)
    have e3 := HWX.out.1
    have e4 := HWY.out.1
    refine ⟨?_, ?_⟩
    · rw [← hu, bs_size]
      have : (3000 + 2) * X.length ≤ 3002 * 45 := Nat.mul_le_mul_left _ e3
      omega
    · rw [← hv, bs_size]
      have : (3000 + 2) * Y.length ≤ 3002 * 45 := Nat.mul_le_mul_left _ e4
      omega
  have HBO : Hid ((f = true → g = true → x = u ++ ⟨#[44, 32]⟩ ++ v) ∧ (f = false ∨ g = false → x = u ++ v)) := ⟨hboth, hone⟩
  obtain ⟨hu2, hv2⟩ := HUZ.out
  clear hf hg hu hv hx hfg hboth hone
  go_wp2_with fail
  refine (HGX.out _ HB6.out).mono ?_
  rintro e w7 ⟨rfl, hb7⟩
  have HB7 : Hid (Below w4.heap.size w4 w7) := HB6.out.trans (hb7.mono HB6.out.size)
  clear hb7
  go_wp2_with fail
  refine (HGY.out _ HB7.out).mono ?_
  rintro e w8 ⟨rfl, hb8⟩
  have HB8 : Hid (Below w4.heap.size w4 w8) := HB7.out.trans (hb8.mono HB7.out.size)
  clear hb8
  go_wp2_with fail
  refine (HGZ.out _ HB8.out).mono ?_
  rintro e w9 ⟨rfl, hb9⟩
  have HB9 : Hid (Below w.heap.size w w9) := HB4.out.trans ((HB8.out.trans (hb9.mono HB8.out.size)).mono HB4.out.size)
  clear hb9
  cases f
  · have HE : Hid (x = u ++ v) := HBO.out.2 (.inl rfl)
    cases g
    · go_wp2
      go_ret
      exact ⟨ret_bool (by rw [HE.out]; simp), HB9.out⟩
    · go_wp2
      go_ret
      exact ⟨ret_bool (by rw [HE.out]; simp), HB9.out⟩
  · cases g
    · have HE : Hid (x = u ++ v) := HBO.out.2 (.inr rfl)
      go_wp2
      go_ret
      exact ⟨ret_bool (by rw [HE.out]; simp), HB9.out⟩
    · have HE : Hid (x = u ++ ⟨#[44, 32]⟩ ++ v) := HBO.out.1 rfl rfl
      go_wp2
      go_ret
      exact ⟨ret_bool (by rw [HE.out]; simp), HB9.out⟩
end Go.Proofs.YtoblpjknnchlmabGreatDoor

/- What the two tables hold, by what the row lays. -/
namespace Go.Proofs.YtoblpjknnchlmabGreatDoor
open Go.RowKit

theorem pow_data : (Rows.laid_internal_strconv_uint64pow10 : DataW Unit) = Lib.tabData .u64 Lib.pow10Tab := by rfl
theorem pow_laid {W : World} (h : Lib.VarReads Tryz.prog W "internal/strconv.uint64pow10" Rows.laid_internal_strconv_uint64pow10) : Lib.TabIs Tryz.prog W "internal/strconv.uint64pow10" .u64 Lib.pow10Tab := by
  obtain ⟨g', t', cs, fuel, p, hg, hty, hvar, hd⟩ := h
  have hn : Tryz.prog.globalNamed "internal/strconv.uint64pow10" = some 6 := by kernel_rfl
  have ht : (Tryz.prog.globals[6]?).map (·.type) = some 182 := by kernel_rfl
  obtain rfl := Option.some.inj (hn.symm.trans hg)
  obtain rfl := Option.some.inj (ht.symm.trans hty)
  rw [pow_data] at hd
  unfold Lib.TabIs
  rw [hvar, ← Lib.cells_of_tab Tryz.underlying182 Tryz.underlying155 (by kernel_rfl) (by kernel_rfl) hd]
theorem env_laid {W : World} (h1 : Lib.VarReads Tryz.prog W "gatepost/url.schemes" Rows.laid_gatepost_url_schemes) (h2 : Lib.VarReads Tryz.prog W "internal/strconv.uint64pow10" Rows.laid_internal_strconv_uint64pow10) : Env W := ⟨schemes_laid h1, pow_laid h2⟩
end Go.Proofs.YtoblpjknnchlmabGreatDoor
