/- Texts of one claim, joined: each begins with what it proves. -/
import Derived.Test.YtihhabidfcgogaaDoorJo2
import Derived.Test.YtihhabidfcgogaaDoorJo1
import Derived.Deep.QuietTactic
import Derived.BigQuiet
import Derived.Laws.EntriesVeiled
import Derived.Lib.LaidTab
import Derived.Lib.LaidU8
import Derived.Lib.Strings
import Derived.Lib.Slices
import Derived.Lib.Walk
import Derived.Lib.Bytealg
/- What a pass is for; and whether one is for a request's way. -/
namespace Go.Proofs.YtihhabidfcgogaaDoor
open Go.RowKit
set_option linter.unusedVariables false

set_option maxRecDepth 100000 in
set_option maxHeartbeats 2000000 in
theorem timeless_any (p : PsV) (w : World) :
    Calls Tryd.prog 27 #[.agg #[.bool p.fs, .string p.fh, .int .i64 p.fp, .bool p.us, .string p.uh, .int .i64 p.up, .string p.pa, .string p.qu, .bool p.wi, .string p.me, .string p.he, .int .i64 p.un]] w fun e w' => e = .returned (.agg #[.bool p.fs, .string p.fh, .int .i64 p.fp, .bool p.us, .string p.uh, .int .i64 p.up, .string p.pa, .string p.qu, .bool p.wi, .string p.me, .string p.he, .int .i64 0]) ∧ Below w.heap.size w w' := by
  have hb := boxes2 w #[.bool p.fs, .string p.fh, .int .i64 p.fp, .bool p.us, .string p.uh, .int .i64 p.up, .string p.pa, .string p.qu, .bool p.wi, .string p.me, .string p.he, .int .i64 0] #[.bool p.fs, .string p.fh, .int .i64 p.fp, .bool p.us, .string p.uh, .int .i64 p.up, .string p.pa, .string p.qu, .bool p.wi, .string p.me, .string p.he, .int .i64 0] 35 35
  have HB : Hid _ := hb
  clear hb
  go_enter Tryd.func27, Tryd.ntmps27
  go_wp2
  exact bodyPost_ret (v := .agg #[.bool p.fs, .string p.fh, .int .i64 p.fp, .bool p.us, .string p.uh, .int .i64 p.up, .string p.pa, .string p.qu, .bool p.wi, .string p.me, .string p.he, .int .i64 0]) (res_cell rfl rfl Tryd.isAgg35 Tryd.sizeOf35 rfl HB.out.2.2) rfl ⟨rfl, HB.out.1⟩
/-- A request, but for its headers. -/
structure RqV where
  pt : Int
  fs : Bool
  fh : ByteArray
  fp : Int
  us : Bool
  uh : ByteArray
  up : Int
  pa : ByteArray
  qu : ByteArray
  me : ByteArray
  ra : Option Addr
  rl : Nat
  rc : Nat
  wi : Bool
  bo : ByteArray
def RqV.vals (r : RqV) : List Value := [.int .i64 r.pt, .bool r.fs, .string r.fh, .int .i64 r.fp, .bool r.us, .string r.uh, .int .i64 r.up, .string r.pa, .string r.qu, .string r.me, .slice r.ra r.rl r.rc, .bool r.wi, .string r.bo]
/-- Whether a pass comes from where a request does, and is for its URL. -/
noncomputable def wayB (r : RqV) (p : PsV) : Bool := @decide ((p.fs = r.fs ∧ p.fh = r.fh ∧ p.fp = r.fp) ∧ ((p.us = r.us ∧ p.uh = r.uh ∧ p.up = r.up) ∧ p.pa = r.pa ∧ p.qu = r.qu)) (Classical.propDecidable _)
/-- .. and counts for it now. -/
noncomputable def forB (r : RqV) (now : Int) (p : PsV) : Bool := decide (now < p.un) && wayB r p && (!r.wi || p.wi)
def BoxR (w : World) (g : Nat) (r : RqV) : Prop := w.heap[g]? = some (.cells r.vals.toArray 39 (0, 0))
theorem BoxR.at {w : World} {g : Nat} {r : RqV} (h : BoxR w g r) (j : Nat) {v : Value} (hj : r.vals[j]? = some v) : w.cell? ⟨g, j, none⟩ = some v := (cell_of h).trans (by simpa using hj)
theorem BoxR.below {w w' : World} {g : Nat} {r : RqV} (h : BoxR w g r) (hb : Below w.heap.size w w') : BoxR w' g r := (hb.block g (Array.getElem?_eq_some_iff.1 h).1).trans h
set_option maxRecDepth 100000 in
set_option maxHeartbeats 2000000 in
theorem wayIs (p : PsV) (r : RqV) (g : Nat) (w : World) (hr : BoxR w g r) :
    Calls Tryd.prog 50 #[.agg #[.bool p.fs, .string p.fh, .int .i64 p.fp, .bool p.us, .string p.uh, .int .i64 p.up, .string p.pa, .string p.qu, .bool p.wi, .string p.me, .string p.he, .int .i64 p.un], .pointer (some ⟨g, 0, none⟩)] w fun e w' => e = .returned (.bool (wayB r p)) ∧ Below w.heap.size w w' := by
  have HB : Hid (BoxQ 35 w #[.bool p.fs, .string p.fh, .int .i64 p.fp, .bool p.us, .string p.uh, .int .i64 p.up, .string p.pa, .string p.qu, .bool p.wi, .string p.me, .string p.he, .int .i64 p.un] (w.alloc (.cells #[.bool p.fs, .string p.fh, .int .i64 p.fp, .bool p.us, .string p.uh, .int .i64 p.up, .string p.pa, .string p.qu, .bool p.wi, .string p.me, .string p.he, .int .i64 p.un] 35))) := BoxQ.new _ _ _
  have h1 := hr.below HB.out.bel
  have c1 := h1.at 1 rfl
  have c2 := h1.at 2 rfl
  have c3 := h1.at 3 rfl
  have c4 := h1.at 4 rfl
  have c5 := h1.at 5 rfl
  have c6 := h1.at 6 rfl
  have c7 := h1.at 7 rfl
  have c8 := h1.at 8 rfl
  obtain ⟨O, hO⟩ := bool_of (p.fs = r.fs ∧ p.fh = r.fh ∧ p.fp = r.fp)
  obtain ⟨U, hU⟩ := bool_of ((p.us = r.us ∧ p.uh = r.uh ∧ p.up = r.up) ∧ p.pa = r.pa ∧ p.qu = r.qu)
  have eo := fun W => eqOB 9998 p.fs r.fs p.fh r.fh p.fp r.fp O hO W
  have eu := fun W => eqUB 9997 p.us r.us p.uh r.uh p.up r.up p.pa r.pa p.qu r.qu U hU W
  have HW : Hid (wayB r p = (O && U)) := by
    show _ = _
    unfold wayB
    rw [Bool.eq_iff_iff]
    simp only [decide_eq_true_eq, Bool.and_eq_true, hO, hU]
  clear hr h1 hO hU
  rw [HW.out]
  go_enter Tryd.func50, Tryd.ntmps50
  cases O
  · go_wp2
    go_ret
    exact ⟨ret_bool (by simp), HB.out.bel⟩
  · go_wp2
    go_ret
    exact ⟨ret_bool (by simp), HB.out.bel⟩
end Go.Proofs.YtihhabidfcgogaaDoor

/- For: the passes of a book that count for a request now, by the program. -/
namespace Go.Proofs.YtihhabidfcgogaaDoor
open Go.RowKit
set_option linter.unusedVariables false

set_option maxRecDepth 100000 in
set_option maxHeartbeats 4000000 in
theorem forIs (p : PsV) (r : RqV) (now : Int) (g gn gi gw : Nat) (w : World) (hr : BoxR w g r) (hn : w.cell? ⟨gn, 0, none⟩ = some (.int .i64 now)) (hi : w.cell? ⟨gi, 0, none⟩ = some (.func (.func 50) #[] #[.pointer (some ⟨gw, 0, none⟩)])) (hw : BoxR w gw r) :
    Calls Tryd.prog 34 #[.agg #[.bool p.fs, .string p.fh, .int .i64 p.fp, .bool p.us, .string p.uh, .int .i64 p.up, .string p.pa, .string p.qu, .bool p.wi, .string p.me, .string p.he, .int .i64 p.un], .pointer (some ⟨gn, 0, none⟩), .pointer (some ⟨gi, 0, none⟩), .pointer (some ⟨g, 0, none⟩)] w fun e w' => e = .returned (.bool (!forB r now p)) ∧ Below w.heap.size w w' := by
  have HB : Hid (BoxQ 35 w #[.bool p.fs, .string p.fh, .int .i64 p.fp, .bool p.us, .string p.uh, .int .i64 p.up, .string p.pa, .string p.qu, .bool p.wi, .string p.me, .string p.he, .int .i64 p.un] (w.alloc (.cells #[.bool p.fs, .string p.fh, .int .i64 p.fp, .bool p.us, .string p.uh, .int .i64 p.up, .string p.pa, .string p.qu, .bool p.wi, .string p.me, .string p.he, .int .i64 p.un] 35))) := BoxQ.new _ _ _
  have hn1 := (HB.out.bel.cell (p := ⟨gn, 0, none⟩) (lt_cell9 hn)).trans hn
  have hi1 := (HB.out.bel.cell (p := ⟨gi, 0, none⟩) (lt_cell9 hi)).trans hi
  have c11 := (hr.below HB.out.bel).at 11 rfl
  have b8 := HB.out.at 8 _ rfl
  have hen := enters_at Tryd.func50 (by kernel_rfl) rfl
  have hcall := wayIs p r gw _ (hw.below HB.out.bel)
  have HG : Hid (BoxR w g r) := hr
  clear hn hi hw
  obtain ⟨W, HW⟩ : ∃ W, Hid (wayB r p = W) := ⟨_, rfl⟩
  rw [HW.out] at hcall
  have HF : Hid (forB r now p = (decide (now < p.un) && W && (!r.wi || p.wi))) := by
    show _ = _
    rw [← HW.out]
    rfl
  rw [HF.out]
  clear hr
  go_enter Tryd.func34, Tryd.ntmps34
  by_cases ht : p.un ≤ now
  · have hd : Hid (decide (now < p.un) = false) := by show _ = _; simp; omega
    rw [hd.out]
    go_wp2
    go_ret
    exact ⟨ret_bool (by simp), HB.out.bel⟩
  · have hd : Hid (decide (now < p.un) = true) := by show _ = _; simp; omega
    rw [hd.out]
    go_wp2_with fail
    refine hcall.mono ?_
    rintro e w1 ⟨rfl, hb1⟩
    have HB1 : Hid (BoxQ 35 w #[.bool p.fs, .string p.fh, .int .i64 p.fp, .bool p.us, .string p.uh, .int .i64 p.up, .string p.pa, .string p.qu, .bool p.wi, .string p.me, .string p.he, .int .i64 p.un] w1) := HB.out.step hb1
    have d11 := (((show BoxR w g r from HG.out).below HB.out.bel).below hb1).at 11 rfl
    have d8 := HB1.out.at 8 _ rfl
    clear hb1 hn1 hi1 c11 b8 hcall
    obtain ⟨k, HK⟩ : ∃ k, Hid (r.wi = k) := ⟨_, rfl⟩
    obtain ⟨m, HM⟩ : ∃ m, Hid (p.wi = m) := ⟨_, rfl⟩
    rw [show r.wi = k from HK.out] at d11
    rw [show p.wi = m from HM.out] at d8
    cases W
    · go_wp2
      go_ret
      exact ⟨ret_bool (by simp), HB1.out.bel⟩
    · cases k
      · go_wp2
        go_ret
        exact ⟨ret_bool (by rw [HK.out]; simp), HB1.out.bel⟩
      · go_wp2
        go_ret
        exact ⟨ret_bool (by rw [HK.out, HM.out]; simp), HB1.out.bel⟩
end Go.Proofs.YtihhabidfcgogaaDoor

/- Passes of a row without those of a kind, by the library's own function. -/
namespace Go.Proofs.YtihhabidfcgogaaDoor
open Go.RowKit
set_option linter.unusedVariables false

theorem vals_inj {p q : PsV} (h : p.vals = q.vals) : p = q := by
  simp only [PsV.vals, List.cons.injEq, Value.bool.injEq, Value.string.injEq, Value.int.injEq, and_true, true_and] at h
  cases p; cases q
  simp_all
noncomputable def liftF (f : PsV → Bool) (y : List Value) : Bool := @decide (∃ p : PsV, y = p.vals ∧ f p = true) (Classical.propDecidable _)
theorem liftF_vals (f : PsV → Bool) (p : PsV) : liftF f p.vals = f p := by
  unfold liftF
  rw [Bool.eq_iff_iff]
  simp only [decide_eq_true_eq]
  exact ⟨fun ⟨q, e, h⟩ => by rw [vals_inj e]; exact h, fun h => ⟨p, rfl, h⟩⟩
theorem liftF_filter (f : PsV → Bool) (xs : List PsV) : (xs.map PsV.vals).filter (fun y => !liftF f y) = (xs.filter (fun p => !f p)).map PsV.vals := by
  rw [List.filter_map]
  congr 1
  exact List.filter_congr fun p _ => by simp [liftF_vals]
/-- A kind of passes, as a function says it in whatever world that holds what lay there but for a row. -/
def KindD (fn : Nat) (lb : Array Value) (f : PsV → Bool) (xs : List PsV) (w : World) (row : Option Nat) : Prop :=
  ∀ W p, p ∈ xs → w.grownBy W row → Calls Tryd.prog fn (#[.agg p.vals.toArray] ++ lb) W fun e w' => e = .returned (.bool (f p)) ∧ Below W.heap.size W w'
/-- What is of another type stays where a row of passes is written into. -/
theorem kept_q {w W : World} {B b : Nat} {u : Value} {xs : List PsV} {cs : Array Value} {t : TypeId} (hu : OwnQ w B u xs) (h : w.heap[b]? = some (.cells cs t (0, 0))) (ht : t ≠ 35) (hg : w.grownBy W u.ownBlock) : W.heap[b]? = some (.cells cs t (0, 0)) := by
  refine (hg.block b (Array.getElem?_eq_some_iff.1 h).1 (fun e => ?_)).trans h
  obtain ⟨c2, h2⟩ := ownK_typed hu b e.symm
  rw [h] at h2
  injection h2 with h2
  injection h2 with _ h3
  exact ht h3
theorem delQ_any (v : Value) (B : Nat) (xs : List PsV) (hl : xs.length ≤ 1000) (w : World) (hown : OwnQ w B v xs) (f : PsV → Bool) (fn : Nat) (lb : Array Value) (eg : ∀ args w, (callFunc fn args).run Tryd.prog w = .ok (.enter fn args) w) (hp : KindD fn lb f xs w v.ownBlock) :
    Calls Tryd.prog 33 #[v, .func (.func fn) #[] lb] w fun e w' => ∃ p m c, e = .returned (.slice p m c) ∧ Hid (OwnQ w' B (.slice p m c) (xs.filter (fun p => !f p)) ∧ w.grownBy w' v.ownBlock ∧ (Value.slice p m c).ownBlock = v.ownBlock ∧ (xs.filter (fun p => !f p)).length = m) := by
  rcases OwnK.forms hown with ⟨rfl, e2⟩ | ⟨g, cap, rfl, _, _, _, _⟩
  · obtain rfl : xs = [] := List.map_eq_nil_iff.1 e2
    refine (dlfP_none w _).mono ?_
    rintro e w' ⟨rfl, hw⟩
    obtain rfl := hw.symm
    exact ⟨none, 0, 0, rfl, ⟨ownQ_nil _ _, World.grownBy.refl _ _, rfl, rfl⟩⟩
  · unfold OwnQ at hown
    rw [List.length_map] at hown hp ⊢
    refine (dlfP_any g _ cap B (xs.map PsV.vals) (by rw [List.length_map]) (by omega) w hown (liftF f) fn lb eg (fun W x hx hg => ?_)).mono ?_
    · obtain ⟨p, hpx, rfl⟩ := List.mem_map.1 hx
      rw [liftF_vals]
      exact hp W p hpx hg
    · rintro e w' ⟨m, rfl, h1⟩
      have h := h1.out
      rw [liftF_filter] at h
      exact ⟨_, _, _, rfl, ⟨h.1, h.2.2, rfl, by rw [List.length_map] at h; exact h.2.1⟩⟩
end Go.Proofs.YtihhabidfcgogaaDoor

/- For: the passes of a book that count for a request now, by the program. -/
namespace Go.Proofs.YtihhabidfcgogaaDoor
open Go.RowKit
set_option linter.unusedVariables false

theorem passOf_any (r : RqV) (w : World) :
    Calls Tryd.prog 32 #[.agg #[.int .i64 r.pt, .bool r.fs, .string r.fh, .int .i64 r.fp, .bool r.us, .string r.uh, .int .i64 r.up, .string r.pa, .string r.qu, .string r.me, .slice r.ra r.rl r.rc, .bool r.wi, .string r.bo]] w fun e w' => e = .returned (.func (.func 50) #[] #[.pointer (some ⟨w.heap.size, 0, none⟩)]) ∧ Hid (BoxR w' w.heap.size r ∧ Below w.heap.size w w') := by
  have HB : Hid (BoxR (w.alloc (.cells #[.int .i64 r.pt, .bool r.fs, .string r.fh, .int .i64 r.fp, .bool r.us, .string r.uh, .int .i64 r.up, .string r.pa, .string r.qu, .string r.me, .slice r.ra r.rl r.rc, .bool r.wi, .string r.bo] 39)) w.heap.size r ∧ Below w.heap.size w (w.alloc (.cells #[.int .i64 r.pt, .bool r.fs, .string r.fh, .int .i64 r.fp, .bool r.us, .string r.uh, .int .i64 r.up, .string r.pa, .string r.qu, .string r.me, .slice r.ra r.rl r.rc, .bool r.wi, .string r.bo] 39))) := ⟨heap_alloc_new w _, (Below.refl _ _).alloc (Nat.le_refl _) _⟩
  go_enter Tryd.func32, Tryd.ntmps32
  go_wp2
  go_ret
  exact ⟨rfl, HB⟩
/-- What For asks with. -/
structure ForS (w : World) (r : RqV) (now : Int) (g : Nat) (W : World) : Prop where
  bel : Below w.heap.size w W
  box : BoxR W g r
  cnow : W.heap[g + 1]? = some (.cells #[.int .i64 now] 3 (0, 0))
theorem ForS.step {w W W' : World} {r : RqV} {now : Int} {g : Nat} (h : ForS w r now g W) (hb : Below W.heap.size W W') : ForS w r now g W' :=
  ⟨h.bel.trans (hb.mono h.bel.size), h.box.below hb, (hb.block _ (Array.getElem?_eq_some_iff.1 h.cnow).1).trans h.cnow⟩
theorem ForS.new (w : World) (r : RqV) (now : Int) : ForS w r now w.heap.size ((w.alloc (.cells r.vals.toArray 39)).alloc (.cells #[.int .i64 now] 3)) := by
  have h := boxes2 w r.vals.toArray #[.int .i64 now] 39 3
  exact ⟨h.1, h.2.1, h.2.2⟩
set_option maxRecDepth 100000 in
set_option maxHeartbeats 4000000 in
theorem for_any {B bk : Nat} {v : Value} {xs : List PsV} (w : World) (h : BookW w B bk v xs) (r : RqV) (now : Int) :
    Calls Tryd.prog 11 #[.pointer (some ⟨bk, 0, none⟩), .agg #[.int .i64 r.pt, .bool r.fs, .string r.fh, .int .i64 r.fp, .bool r.us, .string r.uh, .int .i64 r.up, .string r.pa, .string r.qu, .string r.me, .slice r.ra r.rl r.rc, .bool r.wi, .string r.bo], .int .i64 now] w fun e w' => (∃ p n c, e = .returned (.slice p n c) ∧ Hid (OwnQ w' w.heap.size (.slice p n c) (xs.filter (forB r now)) ∧ (xs.filter (forB r now)).length = n)) ∧ Below w.heap.size w w' := by
  have HK : Hid (BookW w B bk v xs) := h
  have HS : Hid (ForS w r now w.heap.size ((w.alloc (.cells #[.int .i64 r.pt, .bool r.fs, .string r.fh, .int .i64 r.fp, .bool r.us, .string r.uh, .int .i64 r.up, .string r.pa, .string r.qu, .string r.me, .slice r.ra r.rl r.rc, .bool r.wi, .string r.bo] 39)).alloc (.cells #[.int .i64 now] 3))) := ForS.new w r now
  clear h
  go_enter Tryd.func11, Tryd.ntmps11
  go_wp2_with fail
  generalize hW0 : ((w.alloc (.cells #[.int .i64 r.pt, .bool r.fs, .string r.fh, .int .i64 r.fp, .bool r.us, .string r.uh, .int .i64 r.up, .string r.pa, .string r.qu, .string r.me, .slice r.ra r.rl r.rc, .bool r.wi, .string r.bo] 39)).alloc (.cells #[.int .i64 now] 3)) = W0 at HS ⊢
  clear hW0
  refine (passOf_any r _).mono ?_
  rintro e w1 ⟨rfl, H1⟩
  have HS1 : Hid (ForS w r now w.heap.size w1) := HS.out.step H1.out.2
  have hb1 : Below w.heap.size w w1 := HS1.out.bel
  have hbk := HK.out.below hb1
  have hbw : Below w1.heap.size w1 (w1.alloc (.cells #[.func (.func 50) #[] #[.pointer (some ⟨W0.heap.size, 0, none⟩)]] 45)) := (Below.refl _ _).alloc (Nat.le_refl _) _
  have HI : Hid ((w1.alloc (.cells #[.func (.func 50) #[] #[.pointer (some ⟨W0.heap.size, 0, none⟩)]] 45)).heap[w1.heap.size]? = some (.cells #[.func (.func 50) #[] #[.pointer (some ⟨W0.heap.size, 0, none⟩)]] 45 (0, 0))) := heap_alloc_new w1 _
  have HS2 : Hid (ForS w r now w.heap.size (w1.alloc (.cells #[.func (.func 50) #[] #[.pointer (some ⟨W0.heap.size, 0, none⟩)]] 45)) ∧ BoxR (w1.alloc (.cells #[.func (.func 50) #[] #[.pointer (some ⟨W0.heap.size, 0, none⟩)]] 45)) W0.heap.size r ∧ BookW (w1.alloc (.cells #[.func (.func 50) #[] #[.pointer (some ⟨W0.heap.size, 0, none⟩)]] 45)) B bk v xs) := ⟨HS1.out.step hbw, H1.out.1.below hbw, hbk.below hbw⟩
  clear hbw hbk hb1
  go_wp2_with fail
  generalize (w1.alloc (.cells #[.func (.func 50) #[] #[.pointer (some ⟨W0.heap.size, 0, none⟩)]] 45)) = W2 at HI HS2 ⊢
  refine (list_any _ HS2.out.2.2).mono ?_
  rintro e w3 ⟨⟨u, rfl, hu⟩, hb3⟩
  have HS3 : Hid (ForS w r now w.heap.size w3 ∧ BoxR w3 W0.heap.size r ∧ w3.heap[w1.heap.size]? = some (.cells #[.func (.func 50) #[] #[.pointer (some ⟨W0.heap.size, 0, none⟩)]] 45 (0, 0)) ∧ W2.heap.size ≤ w3.heap.size) := ⟨HS2.out.1.step hb3, HS2.out.2.1.below hb3, (hb3.block _ (Array.getElem?_eq_some_iff.1 HI.out).1).trans HI.out, hb3.size⟩
  have hww : w.heap.size ≤ W2.heap.size := HS2.out.1.bel.size
  have HU : Hid (OwnQ w3 w.heap.size u xs) := OwnK.mono hu hww
  have hdel := delQ_any u w.heap.size xs (by have := HK.out.few; omega) w3 HU.out (fun p => !forB r now p) 34 #[.pointer (some ⟨w.heap.size + 1, 0, none⟩), .pointer (some ⟨w1.heap.size, 0, none⟩), .pointer (some ⟨w.heap.size, 0, none⟩)] (enters_at Tryd.func34 (by kernel_rfl) rfl)
    (fun W p _ hg => forIs p r now w.heap.size (w.heap.size + 1) w1.heap.size W0.heap.size W (kept_q HU.out HS3.out.1.box (by decide) hg) ((cell_of (kept_q HU.out HS3.out.1.cnow (by decide) hg)).trans rfl) ((cell_of (kept_q HU.out HS3.out.2.2.1 (by decide) hg)).trans rfl) (kept_q HU.out HS3.out.2.1 (by decide) hg))
  clear hu hb3 hww
  go_wp2_with fail
  refine hdel.mono ?_
  rintro e w4 ⟨p4, m4, c4, rfl, H4⟩
  clear hdel
  go_wp2
  go_ret
  have e : ∀ l : List PsV, l.filter (fun p => !(!forB r now p)) = l.filter (forB r now) := fun l => List.filter_congr fun p _ => by simp
  have h4 := H4.out
  rw [e] at h4
  refine ⟨⟨_, _, _, rfl, ⟨h4.1, h4.2.2.2⟩⟩, ?_⟩
  refine HS3.out.1.bel.grown h4.2.1 HS3.out.1.bel.size (fun i hi => (OwnK.lt HU.out i hi).1)
end Go.Proofs.YtihhabidfcgogaaDoor

/- Whether a method is simple, by the program. -/
namespace Go.Proofs.YtihhabidfcgogaaDoor
open Go.RowKit

def simpleL (l : List UInt8) : Bool := l == [71, 69, 84] || (l == [72, 69, 65, 68] || l == [80, 79, 83, 84])
set_option maxHeartbeats 1000000 in
theorem simple_any (s : ByteArray) (w : World) : Calls Tryd.prog 19 #[.string s] w fun e w' => e = .returned (.bool (simpleL s.toList)) ∧ w' = w := by
  have HS : Hid (simpleL s.toList = (s.toList == [71, 69, 84] || (s.toList == [72, 69, 65, 68] || s.toList == [80, 79, 83, 84]))) := rfl
  go_enter Tryd.func19, Tryd.ntmps19
  go_wp2
  all_goals
    go_ret
    exact ⟨ret_bool (by rw [HS.out]; first | exact Bool.or_assoc _ _ _ | simp [*]), rfl⟩
end Go.Proofs.YtihhabidfcgogaaDoor

/- A text in small letters by the program, told as a list of bytes. -/
namespace Go.Proofs.YtihhabidfcgogaaDoor
open Go.RowKit

def low (c : UInt8) : UInt8 := if 65 ≤ c ∧ c ≤ 90 then c + 32 else c
theorem low_in (c : UInt8) (h : 65 ≤ (c.toNat : Int) ∧ (c.toNat : Int) ≤ 90) : UInt8.ofNat ((c.toNat : Int) + 32).toNat = low c := by
  have h1 : 65 ≤ c := by rw [UInt8.le_iff_toNat_le]; have : (65 : UInt8).toNat = 65 := rfl; omega
  have h2 : c ≤ 90 := by rw [UInt8.le_iff_toNat_le]; have : (90 : UInt8).toNat = 90 := rfl; omega
  unfold low
  rw [if_pos ⟨h1, h2⟩]
  apply UInt8.toNat_inj.1
  have := c.toNat_lt
  simp only [UInt8.toNat_ofNat', UInt8.toNat_add]
  have : (32 : UInt8).toNat = 32 := rfl
  omega
theorem low_out (c : UInt8) (h : ¬ (65 ≤ (c.toNat : Int) ∧ (c.toNat : Int) ≤ 90)) : low c = c := by
  unfold low
  rw [if_neg]
  rintro ⟨h1, h2⟩
  rw [UInt8.le_iff_toNat_le] at h1 h2
  have : (65 : UInt8).toNat = 65 := rfl
  have : (90 : UInt8).toNat = 90 := rfl
  omega
theorem step_set (f : UInt8 → UInt8) (l : List UInt8) (k : Nat) (c : UInt8) (h : k < l.length) (hc : l[k] = c) : ((l.take k).map f ++ l.drop k).set k (f c) = (l.take (k + 1)).map f ++ l.drop (k + 1) := by
  subst hc
  have e1 : ((l.take k).map f).length = k := by simp; omega
  rw [List.drop_eq_getElem_cons h, List.set_append_right _ _ (by omega), e1, Nat.sub_self, List.set_cons_zero, List.take_succ_eq_append_getElem h, List.map_append, List.append_assoc]
  rfl
theorem step_at (f : UInt8 → UInt8) (l : List UInt8) (k : Nat) (h : k < l.length) (h2 : k < ((l.take k).map f ++ l.drop k).length) : ((l.take k).map f ++ l.drop k)[k] = l[k] := by
  have e1 : ((l.take k).map f).length = k := by simp; omega
  rw [List.getElem_append_right (by omega)]
  simp only [List.getElem_drop, e1, Nat.sub_self, Nat.add_zero]
theorem step_same (f : UInt8 → UInt8) (l : List UInt8) (k : Nat) (c : UInt8) (h : k < l.length) (hc : l[k] = c) (hf : f c = c) : (l.take k).map f ++ l.drop k = (l.take (k + 1)).map f ++ l.drop (k + 1) := by
  subst hc
  rw [List.drop_eq_getElem_cons h, List.take_succ_eq_append_getElem h, List.map_append, List.append_assoc, List.map_cons, hf]
  rfl
theorem low_num (c : UInt8) (h : 65 ≤ (c.toNat : Int) ∧ (c.toNat : Int) ≤ 90) : (c.toNat : Int) + 32 = (low c).toNat := by
  rw [← low_in c h, ofNat_back _ (by omega) (by omega)]

set_option maxHeartbeats 400000 in
theorem lower_any (s : ByteArray) (w : World) (hs : s.size ≤ 20000) :
    Calls Tryd.prog 40 #[.string s] w fun e w' => e = .returned (.string (bs (s.data.toList.map low))) ∧ Below w.heap.size w w' := by
  obtain ⟨cap, W1, hconv, hrow, hbel, hsz⟩ := conv_bytes s w
  have HR : Hid (Row W1 w.heap.size s.data.toList) := hrow
  clear hrow
  go_enter Tryd.func40, Tryd.ntmps40
  go_wp2
  go_loopw [9] (fun i wr => ∃ (k : Nat), k ≤ s.size ∧ i = .int .i64 k ∧ Hid (Row wr w.heap.size ((s.data.toList.take k).map low ++ s.data.toList.drop k)) ∧ Below w.heap.size w wr ∧ wr.heap.size = w.heap.size + 1) (fun i _ => s.size - (intOf i).toNat)
  case atStart => exact ⟨0, Nat.zero_le _, rfl, HR, hbel, hsz⟩
  case round =>
    obtain ⟨k, hk, rfl, HW, hb, hz⟩ := hrel
    by_cases hlt : k < s.size
    · have hlt' : k < s.data.toList.length := by simpa using hlt
      obtain ⟨c, hcd⟩ : ∃ c : UInt8, s.data.toList[k] = c := ⟨_, rfl⟩
      have HC : Hid (s.data.toList[k] = c) := hcd
      have hcl : (c.toNat : Int) < 256 := by have := c.toNat_lt; omega
      have hlen : k < ((s.data.toList.take k).map low ++ s.data.toList.drop k).length := by simp; omega
      have hcell : wr.cell? ⟨w.heap.size, k, none⟩ = some (.int .u8 c.toNat) := by
        rw [← hcd, ← step_at low s.data.toList k hlt' hlen]; exact (HW.out k hlen).1
      have hfro : wr.frozen? ⟨w.heap.size, k, none⟩ = false := (HW.out k hlen).2
      clear hconv HR hbel hsz hcd hlen
      by_cases h1 : 65 ≤ (c.toNat : Int)
      · by_cases h2 : (c.toNat : Int) ≤ 90
        · go_wp2
          go_roundw
          case rel => exact ⟨k + 1, by omega, by go_num, by rw [← step_set low _ k c hlt' HC.out]; exact HW.out.set k _ _ (low_num c ⟨h1, h2⟩), hb.setCell (Nat.le_refl _) _, by simp [World.setCell, hz]⟩
          case measure => simp [intOf]; omega
        · go_wp2
          go_roundw
          case rel => exact ⟨k + 1, by omega, by go_num, by rw [← step_same low _ k c hlt' HC.out (low_out c (by omega))]; exact HW, hb, hz⟩
          case measure => simp [intOf]; omega
      · go_wp2
        go_roundw
        case rel => exact ⟨k + 1, by omega, by go_num, by rw [← step_same low _ k c hlt' HC.out (low_out c (by omega))]; exact HW, hb, hz⟩
        case measure => simp [intOf]; omega
    · have hke : k = s.size := by omega
      have hend : (s.data.toList.take k).map low ++ s.data.toList.drop k = s.data.toList.map low := by
        rw [List.take_of_length_le (by simp; omega), List.drop_of_length_le (by simp; omega), List.append_nil]
      have hrow : Row wr w.heap.size (s.data.toList.map low) := by rw [← hend]; exact HW.out
      have hback := conv_back hrow s.size cap (by simp)
      clear hend hrow HW hke hconv HR hbel hsz
      go_wp2
      go_ret
      exact ⟨rfl, hb⟩
end Go.Proofs.YtihhabidfcgogaaDoor

/- Whether two texts are alike, by the program. -/
namespace Go.Proofs.YtihhabidfcgogaaDoor
open Go.RowKit

def sameL (a b : List UInt8) : Bool := a.map low == b.map low
theorem eq_bs (a b : List UInt8) : ((bs a).toList == (bs b).toList) = (a == b) := by rw [ByteArray.toList_eq, ByteArray.toList_eq, bs_data, bs_data]
set_option maxHeartbeats 1000000 in
theorem same_any (s t : ByteArray) (hs : s.size ≤ 4000) (ht : t.size ≤ 4000) (w : World) :
    Calls Tryd.prog 38 #[.string s, .string t] w fun e w' => e = .returned (.bool (sameL s.data.toList t.data.toList)) ∧ Below w.heap.size w w' := by
  obtain ⟨x, HX⟩ : ∃ x : ByteArray, Hid (bs (s.data.toList.map low) = x) := ⟨_, rfl⟩
  obtain ⟨y, HY⟩ : ∃ y : ByteArray, Hid (bs (t.data.toList.map low) = y) := ⟨_, rfl⟩
  have HS : Hid (sameL s.data.toList t.data.toList = (x.toList == y.toList)) := by show _ = _; rw [← HX.out, ← HY.out, eq_bs]; rfl
  go_enter Tryd.func38, Tryd.ntmps38
  go_wp2_with fail
  refine (lower_any s _ (by omega)).mono ?_
  rintro e w1 ⟨rfl, hb1⟩
  rw [HX.out]
  go_wp2_with fail
  refine (lower_any t _ (by omega)).mono ?_
  rintro e w2 ⟨rfl, hb2⟩
  rw [HY.out]
  go_wp2
  go_ret
  exact ⟨ret_bool HS.out.symm, hb1.trans (hb2.mono hb1.size)⟩
end Go.Proofs.YtihhabidfcgogaaDoor

/- A text once more, by the library. -/
namespace Go.Proofs.YtihhabidfcgogaaDoor
open Go.RowKit Go.Shelf

theorem clone_any (s : ByteArray) (hs : s.size ≤ 20000) (w : World) :
    Calls Tryd.prog 39 #[.string s] w fun e w' => e = .returned (.string s) ∧ Below w.heap.size w w' := by
  have hc : ∀ w, Calls Tryd.prog 53 #[.string s] w fun e w' => e = .returned (.string s) ∧ Below w.heap.size w w' := fun w => Any.stringslite_Clone laysM316 s w (by omega)
  go_enter Tryd.func39, Tryd.ntmps39
  go_wp2_with (go_at_call 53; refine (hc _).mono ?_; rintro e w' ⟨rfl, hb⟩)
  go_ret
  exact ⟨rfl, hb⟩
end Go.Proofs.YtihhabidfcgogaaDoor

/- A method as it is sent, by the program. -/
namespace Go.Proofs.YtihhabidfcgogaaDoor
open Go.RowKit Go.Shelf

def mth0 : ByteArray := ⟨#[68, 69, 76, 69, 84, 69]⟩
def mth1 : ByteArray := ⟨#[71, 69, 84]⟩
def mth2 : ByteArray := ⟨#[72, 69, 65, 68]⟩
def mth3 : ByteArray := ⟨#[79, 80, 84, 73, 79, 78, 83]⟩
def mth4 : ByteArray := ⟨#[80, 79, 83, 84]⟩
def mth5 : ByteArray := ⟨#[80, 85, 84]⟩
/-- A method as it is sent: some in great letters. -/
def methodB (s : ByteArray) : ByteArray :=
  if sameL s.data.toList mth0.data.toList then mth0 else if sameL s.data.toList mth1.data.toList then mth1 else if sameL s.data.toList mth2.data.toList then mth2 else if sameL s.data.toList mth3.data.toList then mth3 else if sameL s.data.toList mth4.data.toList then mth4 else if sameL s.data.toList mth5.data.toList then mth5 else s
structure Methods (w : World) : Prop where
  lt : 0 < w.heap.size
  c0 : w.cell? ⟨0, 0, none⟩ = some (.string ⟨#[68, 69, 76, 69, 84, 69]⟩)
  c1 : w.cell? ⟨0, 1, none⟩ = some (.string ⟨#[71, 69, 84]⟩)
  c2 : w.cell? ⟨0, 2, none⟩ = some (.string ⟨#[72, 69, 65, 68]⟩)
  c3 : w.cell? ⟨0, 3, none⟩ = some (.string ⟨#[79, 80, 84, 73, 79, 78, 83]⟩)
  c4 : w.cell? ⟨0, 4, none⟩ = some (.string ⟨#[80, 79, 83, 84]⟩)
  c5 : w.cell? ⟨0, 5, none⟩ = some (.string ⟨#[80, 85, 84]⟩)
theorem Methods.below {w w' : World} (h : Methods w) {H : Nat} (hb : Below H w w') (hH : w.heap.size ≤ H) : Methods w' := by
  have k : ∀ i, w'.cell? ⟨0, i, none⟩ = w.cell? ⟨0, i, none⟩ := fun i => hb.cell (p := ⟨0, i, none⟩) (Nat.lt_of_lt_of_le h.lt hH)
  exact ⟨Nat.lt_of_lt_of_le h.lt hb.size, (k 0).trans h.c0, (k 1).trans h.c1, (k 2).trans h.c2, (k 3).trans h.c3, (k 4).trans h.c4, (k 5).trans h.c5⟩
theorem str_of_trod {br : Bool} {H : Type} {enc : TypeId × Value → H} {P : Program} {W : World} {fuel : Nat} {cs : List Value} {d : List UInt8} {q : List MemPlace} (ht : P.underlying 9 = some .string) (h : DataW.trod enc P W 0 (fun _ => true) br fuel 9 cs = some (.lit (.string d), q)) : cs = [.string ⟨d.toArray⟩] := by
  obtain ⟨s, e, x, _⟩ := DataW.trod_string ht h
  simp only [Prod.mk.injEq, DataW.lit.injEq, Lit.string.injEq] at x
  rw [e, x.1]
set_option maxRecDepth 100000 in
theorem methods_laid {W : World} (h : Lib.VarReads Tryd.prog W "gatepost/fetch.methods" Rows.laid_gatepost_fetch_methods) : Methods W := by
  obtain ⟨g', t', cs, fuel, p, hg, hty, hvar, hd⟩ := h
  have hn : Tryd.prog.globalNamed "gatepost/fetch.methods" = some 0 := by kernel_rfl
  have ht : (Tryd.prog.globals[0]?).map (·.type) = some 68 := by kernel_rfl
  obtain rfl := Option.some.inj (hn.symm.trans hg)
  obtain rfl := Option.some.inj (ht.symm.trans hty)
  have hv := fun i => World.var?_cell hg hvar i
  have k1 : Tryd.prog.cellsOf 9 = 1 := by kernel_rfl
  have a0 : cs[0]? = some (.string ⟨#[68, 69, 76, 69, 84, 69]⟩) := by
    obtain ⟨f, d, q, hd0, he⟩ := Lib.array_elem Tryd.underlying68 hd 0 (by omega)
    simp only [List.getElem?_cons_zero, Option.some.injEq] at hd0
    subst hd0
    have e := str_of_trod Tryd.underlying9 he
    rw [k1] at e
    have e2 := congrArg (fun l => l[0]?) e
    simpa [List.getElem?_take, List.getElem?_drop] using e2
  have a1 : cs[1]? = some (.string ⟨#[71, 69, 84]⟩) := by
    obtain ⟨f, d, q, hd0, he⟩ := Lib.array_elem Tryd.underlying68 hd 1 (by omega)
    simp only [List.getElem?_cons_zero, List.getElem?_cons_succ, Option.some.injEq] at hd0
    subst hd0
    have e := str_of_trod Tryd.underlying9 he
    rw [k1] at e
    have e2 := congrArg (fun l => l[0]?) e
    simpa [List.getElem?_take, List.getElem?_drop] using e2
  have a2 : cs[2]? = some (.string ⟨#[72, 69, 65, 68]⟩) := by
    obtain ⟨f, d, q, hd0, he⟩ := Lib.array_elem Tryd.underlying68 hd 2 (by omega)
    simp only [List.getElem?_cons_zero, List.getElem?_cons_succ, Option.some.injEq] at hd0
    subst hd0
    have e := str_of_trod Tryd.underlying9 he
    rw [k1] at e
    have e2 := congrArg (fun l => l[0]?) e
    simpa [List.getElem?_take, List.getElem?_drop] using e2
  have a3 : cs[3]? = some (.string ⟨#[79, 80, 84, 73, 79, 78, 83]⟩) := by
    obtain ⟨f, d, q, hd0, he⟩ := Lib.array_elem Tryd.underlying68 hd 3 (by omega)
    simp only [List.getElem?_cons_zero, List.getElem?_cons_succ, Option.some.injEq] at hd0
    subst hd0
    have e := str_of_trod Tryd.underlying9 he
    rw [k1] at e
    have e2 := congrArg (fun l => l[0]?) e
    simpa [List.getElem?_take, List.getElem?_drop] using e2
  have a4 : cs[4]? = some (.string ⟨#[80, 79, 83, 84]⟩) := by
    obtain ⟨f, d, q, hd0, he⟩ := Lib.array_elem Tryd.underlying68 hd 4 (by omega)
    simp only [List.getElem?_cons_zero, List.getElem?_cons_succ, Option.some.injEq] at hd0
    subst hd0
    have e := str_of_trod Tryd.underlying9 he
    rw [k1] at e
    have e2 := congrArg (fun l => l[0]?) e
    simpa [List.getElem?_take, List.getElem?_drop] using e2
  have a5 : cs[5]? = some (.string ⟨#[80, 85, 84]⟩) := by
    obtain ⟨f, d, q, hd0, he⟩ := Lib.array_elem Tryd.underlying68 hd 5 (by omega)
    simp only [List.getElem?_cons_zero, List.getElem?_cons_succ, Option.some.injEq] at hd0
    subst hd0
    have e := str_of_trod Tryd.underlying9 he
    rw [k1] at e
    have e2 := congrArg (fun l => l[0]?) e
    simpa [List.getElem?_take, List.getElem?_drop] using e2
  have c0 : W.cell? ⟨0, 0, none⟩ = some (.string ⟨#[68, 69, 76, 69, 84, 69]⟩) := by rw [hv 0]; exact a0
  have hlt : 0 < W.heap.size := by
    rcases Nat.lt_or_ge 0 W.heap.size with hl | hl
    · exact hl
    · simp [World.cell?, Array.getElem?_eq_none hl] at c0
  exact ⟨hlt, c0, by rw [hv 1]; exact a1, by rw [hv 2]; exact a2, by rw [hv 3]; exact a3, by rw [hv 4]; exact a4, by rw [hv 5]; exact a5⟩
theorem methods_at0 (W : World) : (Instr.index 68 (.agg #[.string ⟨#[68, 69, 76, 69, 84, 69]⟩, .string ⟨#[71, 69, 84]⟩, .string ⟨#[72, 69, 65, 68]⟩, .string ⟨#[79, 80, 84, 73, 79, 78, 83]⟩, .string ⟨#[80, 79, 83, 84]⟩, .string ⟨#[80, 85, 84]⟩]) (.int .i64 0)).run Tryd.prog W = .ok (.string ⟨#[68, 69, 76, 69, 84, 69]⟩) W := by kernel_rfl
theorem methods_at1 (W : World) : (Instr.index 68 (.agg #[.string ⟨#[68, 69, 76, 69, 84, 69]⟩, .string ⟨#[71, 69, 84]⟩, .string ⟨#[72, 69, 65, 68]⟩, .string ⟨#[79, 80, 84, 73, 79, 78, 83]⟩, .string ⟨#[80, 79, 83, 84]⟩, .string ⟨#[80, 85, 84]⟩]) (.int .i64 1)).run Tryd.prog W = .ok (.string ⟨#[71, 69, 84]⟩) W := by kernel_rfl
theorem methods_at2 (W : World) : (Instr.index 68 (.agg #[.string ⟨#[68, 69, 76, 69, 84, 69]⟩, .string ⟨#[71, 69, 84]⟩, .string ⟨#[72, 69, 65, 68]⟩, .string ⟨#[79, 80, 84, 73, 79, 78, 83]⟩, .string ⟨#[80, 79, 83, 84]⟩, .string ⟨#[80, 85, 84]⟩]) (.int .i64 2)).run Tryd.prog W = .ok (.string ⟨#[72, 69, 65, 68]⟩) W := by kernel_rfl
theorem methods_at3 (W : World) : (Instr.index 68 (.agg #[.string ⟨#[68, 69, 76, 69, 84, 69]⟩, .string ⟨#[71, 69, 84]⟩, .string ⟨#[72, 69, 65, 68]⟩, .string ⟨#[79, 80, 84, 73, 79, 78, 83]⟩, .string ⟨#[80, 79, 83, 84]⟩, .string ⟨#[80, 85, 84]⟩]) (.int .i64 3)).run Tryd.prog W = .ok (.string ⟨#[79, 80, 84, 73, 79, 78, 83]⟩) W := by kernel_rfl
theorem methods_at4 (W : World) : (Instr.index 68 (.agg #[.string ⟨#[68, 69, 76, 69, 84, 69]⟩, .string ⟨#[71, 69, 84]⟩, .string ⟨#[72, 69, 65, 68]⟩, .string ⟨#[79, 80, 84, 73, 79, 78, 83]⟩, .string ⟨#[80, 79, 83, 84]⟩, .string ⟨#[80, 85, 84]⟩]) (.int .i64 4)).run Tryd.prog W = .ok (.string ⟨#[80, 79, 83, 84]⟩) W := by kernel_rfl
theorem methods_at5 (W : World) : (Instr.index 68 (.agg #[.string ⟨#[68, 69, 76, 69, 84, 69]⟩, .string ⟨#[71, 69, 84]⟩, .string ⟨#[72, 69, 65, 68]⟩, .string ⟨#[79, 80, 84, 73, 79, 78, 83]⟩, .string ⟨#[80, 79, 83, 84]⟩, .string ⟨#[80, 85, 84]⟩]) (.int .i64 5)).run Tryd.prog W = .ok (.string ⟨#[80, 85, 84]⟩) W := by kernel_rfl
set_option maxRecDepth 100000 in
set_option maxHeartbeats 4000000 in
theorem method_any (s : ByteArray) (hs : s.size ≤ 3000) (w : World) (hm : Methods w) :
    Calls Tryd.prog 18 #[.string s] w fun e w' => e = .returned (.string (methodB s)) ∧ Below w.heap.size w w' := by
  obtain ⟨hlt, h0, h1, h2, h3, h4, h5⟩ := hm
  have q0 := methods_at0
  have q1 := methods_at1
  have q2 := methods_at2
  have q3 := methods_at3
  have q4 := methods_at4
  have q5 := methods_at5
  obtain ⟨x, HX⟩ : ∃ x, Hid (methodB s = x) := ⟨_, rfl⟩
  rw [HX.out]
  obtain ⟨b0, HB0⟩ : ∃ b, Hid (sameL s.data.toList mth0.data.toList = b) := ⟨_, rfl⟩
  obtain ⟨b1, HB1⟩ : ∃ b, Hid (sameL s.data.toList mth1.data.toList = b) := ⟨_, rfl⟩
  obtain ⟨b2, HB2⟩ : ∃ b, Hid (sameL s.data.toList mth2.data.toList = b) := ⟨_, rfl⟩
  obtain ⟨b3, HB3⟩ : ∃ b, Hid (sameL s.data.toList mth3.data.toList = b) := ⟨_, rfl⟩
  obtain ⟨b4, HB4⟩ : ∃ b, Hid (sameL s.data.toList mth4.data.toList = b) := ⟨_, rfl⟩
  obtain ⟨b5, HB5⟩ : ∃ b, Hid (sameL s.data.toList mth5.data.toList = b) := ⟨_, rfl⟩
  go_enter Tryd.func18, Tryd.ntmps18
  go_wp2
  have HW0 : Hid (Below w.heap.size w w) := Below.refl _ _
  refine wp_loop_rounds 7 ?_
  rw [rounds_succ]
  go_wp2_with fail
  refine (same_any s ⟨#[68, 69, 76, 69, 84, 69]⟩ (by omega) (by decide) _).mono ?_
  rintro e w1 ⟨rfl, hb⟩
  have HW1 : Hid (Below w.heap.size w w1) := HW0.out.trans (hb.mono HW0.out.size)
  clear hb
  rw [show sameL s.data.toList (⟨#[68, 69, 76, 69, 84, 69]⟩ : ByteArray).data.toList = b0 from HB0.out]
  cases b0
  rotate_left
  · have HE : Hid (x = mth0) := by
      show _ = _
      rw [← HX.out]
      unfold methodB
      simp only [HB0.out, if_true]
    go_wp2
    go_ret
    exact ⟨by rw [HE.out]; rfl, HW1.out⟩
  go_wp2_with fail
  rw [rounds_succ]
  go_wp2_with fail
  refine (same_any s ⟨#[71, 69, 84]⟩ (by omega) (by decide) _).mono ?_
  rintro e w2 ⟨rfl, hb⟩
  have HW2 : Hid (Below w.heap.size w w2) := HW1.out.trans (hb.mono HW1.out.size)
  clear hb
  rw [show sameL s.data.toList (⟨#[71, 69, 84]⟩ : ByteArray).data.toList = b1 from HB1.out]
  cases b1
  rotate_left
  · have HE : Hid (x = mth1) := by
      show _ = _
      rw [← HX.out]
      unfold methodB
      simp only [HB0.out, HB1.out, if_true, Bool.false_eq_true, if_false]
    go_wp2
    go_ret
    exact ⟨by rw [HE.out]; rfl, HW2.out⟩
  go_wp2_with fail
  rw [rounds_succ]
  go_wp2_with fail
  refine (same_any s ⟨#[72, 69, 65, 68]⟩ (by omega) (by decide) _).mono ?_
  rintro e w3 ⟨rfl, hb⟩
  have HW3 : Hid (Below w.heap.size w w3) := HW2.out.trans (hb.mono HW2.out.size)
  clear hb
  rw [show sameL s.data.toList (⟨#[72, 69, 65, 68]⟩ : ByteArray).data.toList = b2 from HB2.out]
  cases b2
  rotate_left
  · have HE : Hid (x = mth2) := by
      show _ = _
      rw [← HX.out]
      unfold methodB
      simp only [HB0.out, HB1.out, HB2.out, if_true, Bool.false_eq_true, if_false]
    go_wp2
    go_ret
    exact ⟨by rw [HE.out]; rfl, HW3.out⟩
  go_wp2_with fail
  rw [rounds_succ]
  go_wp2_with fail
  refine (same_any s ⟨#[79, 80, 84, 73, 79, 78, 83]⟩ (by omega) (by decide) _).mono ?_
  rintro e w4 ⟨rfl, hb⟩
  have HW4 : Hid (Below w.heap.size w w4) := HW3.out.trans (hb.mono HW3.out.size)
  clear hb
  rw [show sameL s.data.toList (⟨#[79, 80, 84, 73, 79, 78, 83]⟩ : ByteArray).data.toList = b3 from HB3.out]
  cases b3
  rotate_left
  · have HE : Hid (x = mth3) := by
      show _ = _
      rw [← HX.out]
      unfold methodB
      simp only [HB0.out, HB1.out, HB2.out, HB3.out, if_true, Bool.false_eq_true, if_false]
    go_wp2
    go_ret
    exact ⟨by rw [HE.out]; rfl, HW4.out⟩
  go_wp2_with fail
  rw [rounds_succ]
  go_wp2_with fail
  refine (same_any s ⟨#[80, 79, 83, 84]⟩ (by omega) (by decide) _).mono ?_
  rintro e w5 ⟨rfl, hb⟩
  have HW5 : Hid (Below w.heap.size w w5) := HW4.out.trans (hb.mono HW4.out.size)
  clear hb
  rw [show sameL s.data.toList (⟨#[80, 79, 83, 84]⟩ : ByteArray).data.toList = b4 from HB4.out]
  cases b4
  rotate_left
  · have HE : Hid (x = mth4) := by
      show _ = _
      rw [← HX.out]
      unfold methodB
      simp only [HB0.out, HB1.out, HB2.out, HB3.out, HB4.out, if_true, Bool.false_eq_true, if_false]
    go_wp2
    go_ret
    exact ⟨by rw [HE.out]; rfl, HW5.out⟩
  go_wp2_with fail
  rw [rounds_succ]
  go_wp2_with fail
  refine (same_any s ⟨#[80, 85, 84]⟩ (by omega) (by decide) _).mono ?_
  rintro e w6 ⟨rfl, hb⟩
  have HW6 : Hid (Below w.heap.size w w6) := HW5.out.trans (hb.mono HW5.out.size)
  clear hb
  rw [show sameL s.data.toList (⟨#[80, 85, 84]⟩ : ByteArray).data.toList = b5 from HB5.out]
  cases b5
  rotate_left
  · have HE : Hid (x = mth5) := by
      show _ = _
      rw [← HX.out]
      unfold methodB
      simp only [HB0.out, HB1.out, HB2.out, HB3.out, HB4.out, HB5.out, if_true, Bool.false_eq_true, if_false]
    go_wp2
    go_ret
    exact ⟨by rw [HE.out]; rfl, HW6.out⟩
  go_wp2_with fail
  rw [rounds_succ]
  have HE : Hid (x = s) := by
    show _ = _
    rw [← HX.out]
    unfold methodB
    simp only [HB0.out, HB1.out, HB2.out, HB3.out, HB4.out, HB5.out, Bool.false_eq_true, if_false]
  go_wp2_with fail
  refine (clone_any s (by omega) _).mono ?_
  rintro e w7 ⟨rfl, hb⟩
  go_wp2
  go_ret
  exact ⟨by rw [HE.out]; rfl, HW6.out.trans (hb.mono HW6.out.size)⟩
end Go.Proofs.YtihhabidfcgogaaDoor

/- Functions that say whether a byte is of a kind. -/
namespace Go.Proofs.YtihhabidfcgogaaDoor
open Go.RowKit

/-- A function that says whether a byte is of a kind. -/
structure Kind (K : Nat) (f : UInt8 → Bool) : Prop where
  says : ∀ (c : UInt8) (w : World), Calls Tryd.prog K #[.int .u8 (c.toNat : Int)] w fun e w' => e = .returned (.bool (f c)) ∧ w' = w
  enters : ∀ (args : Array Value) (w : World), (callFunc K args).run Tryd.prog w = .ok (.enter K args) w
theorem all_snoc (f : UInt8 → Bool) (s : ByteArray) (k : Nat) (hk : k < s.size) (c : UInt8) (e : s[k] = c) (h : (s.data.toList.take k).all f = true) (hc : f c = true) : (s.data.toList.take (k + 1)).all f = true := by
  rw [take_snoc s k hk, List.all_append, h, e]
  simp [hc]
theorem run_full (f : UInt8 → Bool) (s : ByteArray) (k : Nat) (hk : s.size ≤ k) (h : (s.data.toList.take k).all f = true) : runL f s.data.toList = s.size := by
  rw [List.take_of_length_le (by simpa using hk)] at h
  have := (runL_all f s.data.toList).2 h
  simpa using this
theorem run_part (f : UInt8 → Bool) (s : ByteArray) (k : Nat) (hk : k < s.size) (c : UInt8) (e : s[k] = c) (h : (s.data.toList.take k).all f = true) (hc : f c = false) : runL f s.data.toList = k :=
  runL_stop f _ k (by simpa using hk) h (by rw [← hc, ← e]; rfl)

end Go.Proofs.YtihhabidfcgogaaDoor

/- Where a byte stands in a list. -/
namespace Go.Proofs.YtihhabidfcgogaaDoor
open Go.RowKit

/-- Where a byte stands in a list; below 0: nowhere. -/
def ixOf (l : List UInt8) (c : UInt8) : Int := Lib.indexByte l c
theorem ixOf_cases (l : List UInt8) (c : UInt8) : (ixOf l c = -1 ∧ c ∉ l) ∨ ∃ n : Nat, n < l.length ∧ ixOf l c = n ∧ l.getD n 0 = c := by
  unfold ixOf
  induction l with
  | nil => exact .inl ⟨rfl, by simp⟩
  | cons b r ih =>
    unfold Lib.indexByte
    by_cases hb : b = c
    · subst hb
      exact .inr ⟨0, by simp, by simp, rfl⟩
    · rw [if_neg (by simpa using hb)]
      rcases ih with ⟨h1, h2⟩ | ⟨n, h1, h2, h3⟩
      · exact .inl ⟨by rw [h1]; rfl, by simp [h2, Ne.symm hb]⟩
      · refine .inr ⟨n + 1, by simpa using h1, ?_, by simpa using h3⟩
        rw [h2, if_neg (by simp)]
        simp

end Go.Proofs.YtihhabidfcgogaaDoor

/- Whether a byte stands in a list. -/
namespace Go.Proofs.YtihhabidfcgogaaDoor
open Go.RowKit

theorem ixOf_in (l : List UInt8) (c : UInt8) : (ixOf l c = -1 ∧ l.contains c = false) ∨ ∃ n : Nat, n < l.length ∧ ixOf l c = n ∧ l.contains c = true := by
  rcases ixOf_cases l c with ⟨h1, h2⟩ | ⟨n, h1, h2, h3⟩
  · exact .inl ⟨h1, by simpa using h2⟩
  · refine .inr ⟨n, h1, h2, ?_⟩
    rw [List.contains_iff_mem, ← h3]
    simp [h1]
end Go.Proofs.YtihhabidfcgogaaDoor

/- Where a byte stands in a text, by the library's own functions. -/
namespace Go.Proofs.YtihhabidfcgogaaDoor
open Go.RowKit

set_option maxHeartbeats 1000000 in
set_option maxRecDepth 100000 in
theorem slite_ix (s : ByteArray) (c : Int) (w : World) :
    Calls Tryd.prog 75 #[.string s, .int .u8 c] w fun e w' => e = .returned (.int .i64 (Lib.indexByte s.data.toList c.toNat.toUInt8)) ∧ w' = w := by
  go_enter Tryd.func75, Tryd.ntmps75
  go_wp2
  rw [run_callFunc_extern Tryd.func90 (by kernel_rfl) (by kernel_rfl) (by kernel_rfl) (e := Extern.BytealgIndexByte.indexByte) (by kernel_rfl), Lib.run_indexByteString]
  simp only [Result.andThen]
  rw [Oper.upon_value]
  go_wp2
  go_ret
  exact ⟨rfl, rfl⟩

set_option maxHeartbeats 1000000 in
theorem ix_any (s : ByteArray) (c : Int) (w : World) :
    Calls Tryd.prog 61 #[.string s, .int .u8 c] w fun e w' => e = .returned (.int .i64 (Lib.indexByte s.data.toList c.toNat.toUInt8)) ∧ w' = w := by
  go_enter Tryd.func61, Tryd.ntmps61
  go_wp2_with (go_at_call 75; refine (slite_ix _ _ _).mono ?_; rintro e w' ⟨rfl, rfl⟩)
  go_ret
  exact ⟨rfl, rfl⟩

theorem ix_of (s : ByteArray) (c : UInt8) (n : Int) (hn : n = c.toNat) (w : World) :
    Calls Tryd.prog 61 #[.string s, .int .u8 n] w fun e w' => e = .returned (.int .i64 (ixOf s.data.toList c)) ∧ w' = w := by
  subst hn
  refine (ix_any s _ w).mono ?_
  rintro e w' ⟨rfl, rfl⟩
  refine ⟨?_, rfl⟩
  unfold ixOf
  congr 3
  simp

end Go.Proofs.YtihhabidfcgogaaDoor

/- What may be sent without asking, byte by byte, by the program. -/
namespace Go.Proofs.YtihhabidfcgogaaDoor
open Go.RowKit

def forbS : List UInt8 := [34, 40, 41, 58, 60, 62, 63, 64, 91, 92, 93, 123, 125]
def tongS : List UInt8 := [32, 42, 44, 45, 46, 59, 61]
/-- A byte that may be in what is accepted. -/
def safeB (c : UInt8) : Bool := textB c && !forbS.contains c
def alnB (c : UInt8) : Bool := decide (97 ≤ c.toNat ∧ c.toNat ≤ 122) || (decide (65 ≤ c.toNat ∧ c.toNat ≤ 90) || decide (48 ≤ c.toNat ∧ c.toNat ≤ 57))
/-- A byte that may be in a list of languages. -/
def tongB (c : UInt8) : Bool := alnB c || tongS.contains c
theorem ix_forbS (c : UInt8) (w : World) :
    Calls Tryd.prog 61 #[.string { data := #[34, 40, 41, 58, 60, 62, 63, 64, 91, 92, 93, 123, 125] }, .int .u8 (c.toNat : Int)] w fun e w' => (∃ x : Int, e = .returned (.int .i64 x) ∧ Hid (forbS.contains c = !decide (x < 0))) ∧ w' = w := by
  refine (ix_of _ c _ rfl w).mono ?_
  rintro e w' ⟨rfl, rfl⟩
  refine ⟨⟨_, rfl, ?_⟩, rfl⟩
  show forbS.contains c = !decide (ixOf forbS c < 0)
  rcases ixOf_in forbS c with ⟨e1, e2⟩ | ⟨n, _, e1, e2⟩
  · rw [e1, e2]; rfl
  · rw [e1, e2]; simp
theorem ix_tongS (c : UInt8) (w : World) :
    Calls Tryd.prog 61 #[.string { data := #[32, 42, 44, 45, 46, 59, 61] }, .int .u8 (c.toNat : Int)] w fun e w' => (∃ x : Int, e = .returned (.int .i64 x) ∧ Hid (tongS.contains c = decide (0 ≤ x))) ∧ w' = w := by
  refine (ix_of _ c _ rfl w).mono ?_
  rintro e w' ⟨rfl, rfl⟩
  refine ⟨⟨_, rfl, ?_⟩, rfl⟩
  show tongS.contains c = decide (0 ≤ ixOf tongS c)
  rcases ixOf_in tongS c with ⟨e1, e2⟩ | ⟨n, _, e1, e2⟩
  · rw [e1, e2]; rfl
  · rw [e1, e2]; simp
theorem textB_of (c : UInt8) : textB c = (((c.toNat : Int) == 9) || (decide (32 ≤ (c.toNat : Int)) && !((c.toNat : Int) == 127))) := by
  have : ∀ n : Fin 256, textB (UInt8.ofNat n.1) = ((((UInt8.ofNat n.1).toNat : Int) == 9) || (decide (32 ≤ ((UInt8.ofNat n.1).toNat : Int)) && !(((UInt8.ofNat n.1).toNat : Int) == 127))) := by decide +kernel
  have h := this ⟨c.toNat, c.toNat_lt⟩
  simpa using h
set_option maxHeartbeats 1000000 in
theorem safe_any (c : UInt8) (w : World) : Calls Tryd.prog 55 #[.int .u8 (c.toNat : Int)] w fun e w' => e = .returned (.bool (safeB c)) ∧ w' = w := by
  have hcl : (c.toNat : Int) < 256 := by have := c.toNat_lt; omega
  have HT : Hid (textB c = (((c.toNat : Int) == 9) || (decide (32 ≤ (c.toNat : Int)) && !((c.toNat : Int) == 127)))) := textB_of c
  by_cases h1 : 32 ≤ (c.toNat : Int)
  · by_cases h2 : (c.toNat : Int) = 127
    · have HS : Hid (safeB c = false) := by
        show _ = _
        unfold safeB
        rw [HT.out, h2, decide_eq_true (by decide)]
        rfl
      go_enter Tryd.func55, Tryd.ntmps55
      go_wp2
      go_ret
      exact ⟨ret_bool (by rw [HS.out]), rfl⟩
    · have HS : Hid (safeB c = !forbS.contains c) := by
        show _ = _
        unfold safeB
        rw [HT.out, beq_eq_false_iff_ne.2 h2, decide_eq_true h1]
        simp
      go_enter Tryd.func55, Tryd.ntmps55
      go_wp2_with (go_at_call 61; refine (ix_forbS c _).mono ?_; rintro e w' ⟨⟨x, rfl, HX⟩, rfl⟩)
      go_ret
      exact ⟨ret_bool (by rw [HS.out, HX.out]; simp [h2]), rfl⟩
  · cases h2 : ((c.toNat : Int) == 9)
    · have HS : Hid (safeB c = false) := by
        show _ = _
        unfold safeB
        rw [HT.out, h2, decide_eq_false h1]
        rfl
      go_enter Tryd.func55, Tryd.ntmps55
      go_wp2
      go_ret
      exact ⟨ret_bool (by rw [HS.out]), rfl⟩
    · have HS : Hid (safeB c = !forbS.contains c) := by
        show _ = _
        unfold safeB
        rw [HT.out, h2]
        simp
      have h3 : ¬ (c.toNat : Int) = 127 := by omega
      go_enter Tryd.func55, Tryd.ntmps55
      go_wp2_with (go_at_call 61; refine (ix_forbS c _).mono ?_; rintro e w' ⟨⟨x, rfl, HX⟩, rfl⟩)
      go_ret
      exact ⟨ret_bool (by rw [HS.out, HX.out]; simp [h3]), rfl⟩
theorem kind_safe : Kind 55 safeB := ⟨safe_any, enters_at Tryd.func55 (by kernel_rfl) rfl⟩
set_option maxHeartbeats 1000000 in
theorem tong_any (c : UInt8) (w : World) : Calls Tryd.prog 56 #[.int .u8 (c.toNat : Int)] w fun e w' => e = .returned (.bool (tongB c)) ∧ w' = w := by
  have hcl : (c.toNat : Int) < 256 := by have := c.toNat_lt; omega
  by_cases h1 : 97 ≤ (c.toNat : Int)
  · by_cases h2 : (c.toNat : Int) ≤ 122
    · have HS : Hid (tongB c = true) := by
        show _ = _
        unfold tongB alnB
        rw [decide_eq_true (show 97 ≤ c.toNat ∧ c.toNat ≤ 122 by omega)]
        rfl
      go_enter Tryd.func56, Tryd.ntmps56
      go_wp2
      go_ret
      exact ⟨ret_bool (by rw [HS.out]), rfl⟩
    · have HS : Hid (tongB c = tongS.contains c) := by
        show _ = _
        unfold tongB alnB
        rw [decide_eq_false (show ¬ (97 ≤ c.toNat ∧ c.toNat ≤ 122) by omega), decide_eq_false (show ¬ (65 ≤ c.toNat ∧ c.toNat ≤ 90) by omega), decide_eq_false (show ¬ (48 ≤ c.toNat ∧ c.toNat ≤ 57) by omega)]
        rfl
      have h3 : 65 ≤ (c.toNat : Int) := by omega
      have h4 : ¬ (c.toNat : Int) ≤ 90 := by omega
      have h5 : 48 ≤ (c.toNat : Int) := by omega
      have h6 : ¬ (c.toNat : Int) ≤ 57 := by omega
      go_enter Tryd.func56, Tryd.ntmps56
      go_wp2_with (go_at_call 61; refine (ix_tongS c _).mono ?_; rintro e w' ⟨⟨x, rfl, HX⟩, rfl⟩)
      go_ret
      exact ⟨ret_bool (by rw [HS.out, HX.out]), rfl⟩
  · by_cases h3 : 65 ≤ (c.toNat : Int)
    · by_cases h2 : (c.toNat : Int) ≤ 90
      · have HS : Hid (tongB c = true) := by
          show _ = _
          unfold tongB alnB
          rw [decide_eq_true (show 65 ≤ c.toNat ∧ c.toNat ≤ 90 by omega)]
          simp
        go_enter Tryd.func56, Tryd.ntmps56
        go_wp2
        go_ret
        exact ⟨ret_bool (by rw [HS.out]), rfl⟩
      · have HS : Hid (tongB c = tongS.contains c) := by
          show _ = _
          unfold tongB alnB
          rw [decide_eq_false (show ¬ (97 ≤ c.toNat ∧ c.toNat ≤ 122) by omega), decide_eq_false (show ¬ (65 ≤ c.toNat ∧ c.toNat ≤ 90) by omega), decide_eq_false (show ¬ (48 ≤ c.toNat ∧ c.toNat ≤ 57) by omega)]
          rfl
        have h5 : 48 ≤ (c.toNat : Int) := by omega
        have h6 : ¬ (c.toNat : Int) ≤ 57 := by omega
        go_enter Tryd.func56, Tryd.ntmps56
        go_wp2_with (go_at_call 61; refine (ix_tongS c _).mono ?_; rintro e w' ⟨⟨x, rfl, HX⟩, rfl⟩)
        go_ret
        exact ⟨ret_bool (by rw [HS.out, HX.out]), rfl⟩
    · by_cases h5 : 48 ≤ (c.toNat : Int)
      · by_cases h2 : (c.toNat : Int) ≤ 57
        · have HS : Hid (tongB c = true) := by
            show _ = _
            unfold tongB alnB
            rw [decide_eq_true (show 48 ≤ c.toNat ∧ c.toNat ≤ 57 by omega)]
            simp
          go_enter Tryd.func56, Tryd.ntmps56
          go_wp2
          go_ret
          exact ⟨ret_bool (by rw [HS.out]), rfl⟩
        · have HS : Hid (tongB c = tongS.contains c) := by
            show _ = _
            unfold tongB alnB
            rw [decide_eq_false (show ¬ (97 ≤ c.toNat ∧ c.toNat ≤ 122) by omega), decide_eq_false (show ¬ (65 ≤ c.toNat ∧ c.toNat ≤ 90) by omega), decide_eq_false (show ¬ (48 ≤ c.toNat ∧ c.toNat ≤ 57) by omega)]
            rfl
          go_enter Tryd.func56, Tryd.ntmps56
          go_wp2_with (go_at_call 61; refine (ix_tongS c _).mono ?_; rintro e w' ⟨⟨x, rfl, HX⟩, rfl⟩)
          go_ret
          exact ⟨ret_bool (by rw [HS.out, HX.out]), rfl⟩
      · have HS : Hid (tongB c = tongS.contains c) := by
          show _ = _
          unfold tongB alnB
          rw [decide_eq_false (show ¬ (97 ≤ c.toNat ∧ c.toNat ≤ 122) by omega), decide_eq_false (show ¬ (65 ≤ c.toNat ∧ c.toNat ≤ 90) by omega), decide_eq_false (show ¬ (48 ≤ c.toNat ∧ c.toNat ≤ 57) by omega)]
          rfl
        go_enter Tryd.func56, Tryd.ntmps56
        go_wp2_with (go_at_call 61; refine (ix_tongS c _).mono ?_; rintro e w' ⟨⟨x, rfl, HX⟩, rfl⟩)
        go_ret
        exact ⟨ret_bool (by rw [HS.out, HX.out]), rfl⟩
theorem kind_tong : Kind 56 tongB := ⟨tong_any, enters_at Tryd.func56 (by kernel_rfl) rfl⟩

set_option maxHeartbeats 1000000 in
/-- Whether all bytes of a text are of a kind. -/
theorem all_any (K : Nat) (f : UInt8 → Bool) (hK : Kind K f) (s : ByteArray) (hs : s.size ≤ 5000) (w : World) :
    Calls Tryd.prog 54 #[.string s, .func (.func K) #[] #[]] w fun e w' => e = .returned (.bool (s.data.toList.all f)) ∧ w' = w := by
  have HK0 : Hid (Kind K f) := hK
  have hen := hK.enters
  clear hK
  go_enter Tryd.func54, Tryd.ntmps54
  go_wp2
  go_loop [8] (fun i => ∃ (k : Nat), k ≤ s.size ∧ i = .int .i64 k ∧ Hid ((s.data.toList.take k).all f = true)) (fun i => s.size - (intOf i).toNat)
  case atStart => exact ⟨0, Nat.zero_le _, rfl, rfl⟩
  case round =>
    obtain ⟨k, hk, rfl, HK⟩ := hrel
    by_cases hlt : k < s.size
    · obtain ⟨c, hcd⟩ : ∃ c : UInt8, s[k] = c := ⟨_, rfl⟩
      have hcl : (c.toNat : Int) < 256 := by have := c.toNat_lt; omega
      cases hf : f c
      · have HR : Hid (s.data.toList.all f = false) := by
          show _ = _
          rw [List.all_eq_false]
          refine ⟨c, ?_, by rw [hf]; simp⟩
          rw [← hcd]
          exact List.getElem_mem (by simpa using hlt)
        go_wp2_with fail
        refine (HK0.out.says c _).mono ?_
        rintro e w' ⟨rfl, rfl⟩
        rw [hf]
        go_wp2
        go_ret
        exact ⟨ret_bool (by rw [HR.out]), rfl⟩
      · have HS : Hid ((s.data.toList.take (k + 1)).all f = true) := all_snoc f s k hlt c hcd HK hf
        go_wp2_with fail
        refine (HK0.out.says c _).mono ?_
        rintro e w' ⟨rfl, rfl⟩
        rw [hf]
        go_wp2
        go_round
        case rel => exact ⟨k + 1, by omega, by go_num, HS⟩
        case measure => simp [intOf]; omega
    · have HR : Hid (s.data.toList.all f = true) := by
        have h : (s.data.toList.take k).all f = true := HK
        rw [List.take_of_length_le (by simp; omega)] at h
        exact h
      go_wp2
      go_ret
      exact ⟨ret_bool (by have := HR.out; simpa using this), rfl⟩
end Go.Proofs.YtihhabidfcgogaaDoor
