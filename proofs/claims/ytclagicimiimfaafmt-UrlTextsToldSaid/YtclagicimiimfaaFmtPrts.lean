/- Any origin and any URL as text is the document's. -/
import Derived.Test.YtclagicimiimfaaFmtPrt
import Derived.Test.YtclagicimiimfaaFmtRefTxt
import Derived.Test.YtclagicimiimfaaFmtRefTgt
namespace Go.Proofs.YtclagicimiimfaaFmt
open Go.RowKit
open Go.Extern.Stop Go.Stop Go.Extern

theorem wf_bounds {n : Int} (hw : (Lit.int .i64 n).wf = true) : -9223372036854775808 ≤ n ∧ n ≤ 9223372036854775807 := by
  simp [Lit.wf, IntKind.min, IntKind.max, IntKind.signed, IntKind.bits] at hw
  omega
theorem refTgt_any (sec : Bool) (host path query : ByteArray) (port : Int) (w : World) (hs : path.size + query.size ≤ 4000) :
    Calls Tryf.prog 10 #[.agg #[.bool sec, .string host, .int .i64 port, .string path, .string query]] w fun e w' => e = .returned (.string (tgt path query)) ∧ Below w.heap.size w w' := refTarget sec host path query port w hs

set_option maxRecDepth 100000 in
set_option maxHeartbeats 1000000 in
theorem refPrint (F : Interp) (sec : Bool) (host : ByteArray) (port : Int) (path query : ByteArray) (hh : host.size ≤ 4000) (hs : path.size + query.size ≤ 4000) (hw : (Lit.int .i64 port).wf = true) (w : World) (h : Env w) (hF : F.told.answers w.tape) :
    Calls Tryf.prog 8 #[.agg #[.bool sec, .string host, .int .i64 port, .string path, .string query]] w fun e w' => e = .returned (.string (printB sec host port path query)) ∧ Below w.heap.size w w' := by
  obtain ⟨h0, h1⟩ := wf_bounds hw
  obtain ⟨x, HX⟩ : ∃ x : ByteArray, Hid (bs (textL sec host.data.toList port) = x) := ⟨_, rfl⟩
  obtain ⟨y, HY⟩ : ∃ y : ByteArray, Hid (tgt path query = y) := ⟨_, rfl⟩
  have hx : x.size ≤ 4100 := by
    rw [← HX.out, bs_size]
    have := textL_length sec host.data.toList port h0 h1
    have e : host.data.toList.length = host.size := Array.length_toList
    omega
  have hy : y.size ≤ 4100 := by rw [← HY.out]; have := tgt_size path query; omega
  have a1 := fun W => run_string_add_sum (P := Tryf.prog) W x y (by omega)
  have HF : Hid (F.told.answers w.tape) := hF
  clear hF
  have hQ := begin5 w h (.bool sec) (.string host) (.int .i64 port) (.string path) (.string query) 27 _ rfl
  go_enter Tryf.func8, Tryf.ntmps8
  go_wp2_with fail
  go_region_held3 (fun W => W.cell? ⟨w.heap.size, 0, none⟩ = some (.bool sec) ∧ W.cell? ⟨w.heap.size, 1, none⟩ = some (.string host) ∧ W.cell? ⟨w.heap.size, 2, none⟩ = some (.int .i64 port) ∧ W.cell? ⟨w.heap.size, 3, none⟩ = some (.string path) ∧ W.cell? ⟨w.heap.size, 4, none⟩ = some (.string query) ∧ TKeep w W) (first | assumption | exact hQ) (first
    | (go_at_call 6; refine (refText F sec host port hh hw _ (by rw [(TKeep.bel (And.right (And.right (And.right (And.right (And.right (by assumption)))))) : Below w.heap.size w _).tape]; exact HF.out)).mono ?_; rintro e w3 ⟨rfl, hb3⟩; rw [HX.out]; have hQ3 := keep5 (by assumption) hb3)
    | (go_at_call 10; refine (refTgt_any sec host path query port _ hs).mono ?_; rintro e w4 ⟨rfl, hb4⟩; rw [HY.out]; have hQ4 := keep5 (by assumption) hb4))
  go_wp2
  go_ret
  exact ⟨ret_str (by unfold printB; rw [HX.out, HY.out]), hQ4.2.2.2.2.2.bel⟩

theorem keep3 {w W W' : World} {a : Nat} {v0 v1 v2 : Value} (h : W.cell? ⟨a, 0, none⟩ = some v0 ∧ W.cell? ⟨a, 1, none⟩ = some v1 ∧ W.cell? ⟨a, 2, none⟩ = some v2 ∧ TKeep w W) (hb : Below W.heap.size W W') :
    W'.cell? ⟨a, 0, none⟩ = some v0 ∧ W'.cell? ⟨a, 1, none⟩ = some v1 ∧ W'.cell? ⟨a, 2, none⟩ = some v2 ∧ TKeep w W' := by
  obtain ⟨h0, h1, h2, h5⟩ := h
  exact ⟨(hb.cell (p := ⟨a, 0, none⟩) (lt_of_cell h0)).trans h0, (hb.cell (p := ⟨a, 1, none⟩) (lt_of_cell h1)).trans h1, (hb.cell (p := ⟨a, 2, none⟩) (lt_of_cell h2)).trans h2, h5.step hb⟩
theorem begin3 (w : World) (h : Env w) (v0 v1 v2 : Value) (t : TypeId) (W : World) (hW : W = (w.alloc (.cells #[v0, v1, v2] t)).drew) :
    W.cell? ⟨w.heap.size, 0, none⟩ = some v0 ∧ W.cell? ⟨w.heap.size, 1, none⟩ = some v1 ∧ W.cell? ⟨w.heap.size, 2, none⟩ = some v2 ∧ TKeep w W := by
  subst hW
  have hb : Below w.heap.size w (w.alloc (.cells #[v0, v1, v2] t)).drew := ((Below.refl _ _).alloc (Nat.le_refl _) _).drew
  exact ⟨cells_new _ _ _ 0, cells_new _ _ _ 1, cells_new _ _ _ 2, h.below hb (Nat.le_refl _), hb, by simp⟩

set_option maxRecDepth 100000 in
set_option maxHeartbeats 1000000 in
theorem urlTexts_walk (F : Interp) (sec : Bool) (host : ByteArray) (port : Int) (hz : host.size ≤ 140737488355328) (hw : (Lit.int .i64 port).wf = true) (w : World) (hF : F.told.answers w.tape) (h : Env w) :
    Calls Tryf.prog 3 #[.agg #[.bool sec, .string host, .int .i64 port]] w fun e w' => e = .returned (.bool true) ∧ Below w.heap.size w w' := by
  by_cases h100 : (100 : Int) < (host.size : Int)
  · have hd : decide ((100 : Int) < (host.size : Int)) = true := decide_eq_true h100
    go_enter Tryf.func3, Tryf.ntmps3
    go_wp2_with fail
    go_quiet (fail)
    go_wp2
    go_ret
    exact ⟨rfl, drewN_below ((Below.refl _ _).alloc (Nat.le_refl _) _) _⟩
  · have hd : decide ((100 : Int) < (host.size : Int)) = false := decide_eq_false h100
    have hh : host.size ≤ 4000 := by omega
    obtain ⟨h0, h1⟩ := wf_bounds hw
    obtain ⟨x, HX⟩ : ∃ x : ByteArray, Hid (bs (textL sec host.data.toList port) = x) := ⟨_, rfl⟩
    have HF : Hid (F.told.answers w.tape) := hF
    clear hF
    have hQ := begin3 w h (.bool sec) (.string host) (.int .i64 port) 23 _ rfl
    go_enter Tryf.func3, Tryf.ntmps3
    go_wp2_with fail
    go_region_held3 (fun W => W.cell? ⟨w.heap.size, 0, none⟩ = some (.bool sec) ∧ W.cell? ⟨w.heap.size, 1, none⟩ = some (.string host) ∧ W.cell? ⟨w.heap.size, 2, none⟩ = some (.int .i64 port) ∧ TKeep w W) (first | assumption | exact hQ) (first
      | (go_at_call 5; refine (text_any sec host port hh h0 h1 _ (TKeep.env (And.right (And.right (And.right (by assumption)))))).mono ?_; rintro e w3 ⟨rfl, hb3⟩; rw [HX.out]; have hQ3 := keep3 (by assumption) hb3)
      | (go_at_call 6; refine (refText F sec host port hh hw _ (by rw [(TKeep.bel (And.right (And.right (And.right (by assumption)))) : Below w.heap.size w _).tape]; exact HF.out)).mono ?_; rintro e w4 ⟨rfl, hb4⟩; rw [HX.out]; have hQ4 := keep3 (by assumption) hb4))
    go_wp2
    go_ret
    exact ⟨by simp, hQ4.2.2.2.bel⟩

set_option maxRecDepth 100000 in
set_option maxHeartbeats 2000000 in
theorem urlPrints_walk (F : Interp) (sec : Bool) (host : ByteArray) (port : Int) (path query : ByteArray) (hz : host.size ≤ 140737488355328) (hz1 : path.size ≤ 140737488355328) (hz2 : query.size ≤ 140737488355328) (hw : (Lit.int .i64 port).wf = true) (w : World) (hF : F.told.answers w.tape) (h : Env w) :
    Calls Tryf.prog 4 #[.agg #[.bool sec, .string host, .int .i64 port, .string path, .string query]] w fun e w' => e = .returned (.bool true) ∧ Below w.heap.size w w' := by
  have w1 : IntKind.i64.wrap ((host.size : Int) + (path.size : Int)) = (host.size : Int) + (path.size : Int) := IntWalk.i64_in _ ⟨by omega, by omega⟩
  have w2 : IntKind.i64.wrap ((host.size : Int) + (path.size : Int) + (query.size : Int)) = (host.size : Int) + (path.size : Int) + (query.size : Int) := IntWalk.i64_in _ ⟨by omega, by omega⟩
  by_cases h600 : (600 : Int) < (host.size : Int) + (path.size : Int) + (query.size : Int)
  · have hd : decide ((600 : Int) < (host.size : Int) + (path.size : Int) + (query.size : Int)) = true := decide_eq_true h600
    go_enter Tryf.func4, Tryf.ntmps4
    go_wp2_with fail
    go_quiet (fail)
    go_wp2
    go_ret
    exact ⟨rfl, drewN_below ((Below.refl _ _).alloc (Nat.le_refl _) _) _⟩
  · have hd : decide ((600 : Int) < (host.size : Int) + (path.size : Int) + (query.size : Int)) = false := decide_eq_false h600
    have hh : host.size ≤ 4000 := by omega
    have hs : path.size + query.size ≤ 4000 := by omega
    obtain ⟨h0, h1⟩ := wf_bounds hw
    obtain ⟨x, HX⟩ : ∃ x : ByteArray, Hid (printB sec host port path query = x) := ⟨_, rfl⟩
    obtain ⟨y, HY⟩ : ∃ y : ByteArray, Hid (tgt path query = y) := ⟨_, rfl⟩
    have HF : Hid (F.told.answers w.tape) := hF
    clear hF
    have hQ := begin5 w h (.bool sec) (.string host) (.int .i64 port) (.string path) (.string query) 27 _ rfl
    go_enter Tryf.func4, Tryf.ntmps4
    go_wp2_with fail
    go_region_held3 (fun W => W.cell? ⟨w.heap.size, 0, none⟩ = some (.bool sec) ∧ W.cell? ⟨w.heap.size, 1, none⟩ = some (.string host) ∧ W.cell? ⟨w.heap.size, 2, none⟩ = some (.int .i64 port) ∧ W.cell? ⟨w.heap.size, 3, none⟩ = some (.string path) ∧ W.cell? ⟨w.heap.size, 4, none⟩ = some (.string query) ∧ TKeep w W) (first | assumption | exact hQ) (first
      | (go_at_call 7; refine (print_any sec host port path query hh hs h0 h1 _ (TKeep.env (And.right (And.right (And.right (And.right (And.right (by assumption)))))))).mono ?_; rintro e w3 ⟨rfl, hb3⟩; rw [HX.out]; have hQ3 := keep5 (by assumption) hb3)
      | (go_at_call 8; refine (refPrint F sec host port path query hh hs hw _ (TKeep.env (And.right (And.right (And.right (And.right (And.right (by assumption))))))) (by rw [(TKeep.bel (And.right (And.right (And.right (And.right (And.right (by assumption)))))) : Below w.heap.size w _).tape]; exact HF.out)).mono ?_; rintro e w4 ⟨rfl, hb4⟩; rw [HX.out]; have hQ4 := keep5 (by assumption) hb4)
      | (go_at_call 9; refine (target_any sec host port path query hs _).mono ?_; rintro e w5 ⟨rfl, hb5⟩; rw [HY.out]; have hQ5 := keep5 (by assumption) hb5)
      | (go_at_call 10; refine (refTgt_any sec host path query port _ hs).mono ?_; rintro e w6 ⟨rfl, hb6⟩; rw [HY.out]; have hQ6 := keep5 (by assumption) hb6))
    go_wp2
    go_ret
    exact ⟨by simp, hQ6.2.2.2.2.2.bel⟩
end Go.Proofs.YtclagicimiimfaaFmt
