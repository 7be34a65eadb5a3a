/- A URL that came in by value: opened, and shut again. -/
import Derived.Test.YtclagicimiimfaaFmtOpenU
namespace Go.Proofs.YtclagicimiimfaaFmt
open Go.ChangeShapes Go.WideShapes Go.ChangeAt Go.RowKit Go.Joins Go.Deep

theorem array5 {α : Type} {cs : Array α} (h : cs.size = 5) : ∃ c0 c1 c2 c3 c4, cs = #[c0, c1, c2, c3, c4] := by
  obtain ⟨l⟩ := cs
  match l, h with
  | [c0, c1, c2, c3, c4], _ => exact ⟨c0, c1, c2, c3, c4, rfl⟩
section
variable {H : Type} {enc : TypeId × Value → H} {w : World} {base : Nat} {spare : Nat → Bool} {held : Bool}
set_option maxRecDepth 100000 in
theorem open_url {r : Reach} {b0 : Nat} {v : Value} {d : DataW H} {p : List MemPlace} (hv : Value.okWide Tryf.prog w r b0 27 v) (h : DataW.Trod enc Tryf.prog w base spare held 27 v d p) :
    ∃ (s : Bool) (a : ByteArray) (n : Int) (u q : ByteArray), v = .agg #[.bool s, .string a, .int .i64 n, .string u, .string q] ∧ d = datU s a n u q ∧ p = [] ∧ a.size ≤ maxLen ∧ (Lit.int .i64 n).wf = true ∧ u.size ≤ maxLen ∧ q.size ≤ maxLen := by
  obtain ⟨cs, rfl, hsz⟩ := okWide_struct Tryf.underlying27 hv
  have hC : Tryf.prog.cellsOf 27 = 5 := by kernel_rfl
  obtain ⟨c0, c1, c2, c3, c4, rfl⟩ := array5 (hsz.trans hC)
  obtain ⟨fuel, hf⟩ := h
  obtain ⟨xs, k, rfl, hx, hl, hxl, hall⟩ := DataW.trod_struct Tryf.underlying27 hf
  have k9 : Tryf.prog.cellsOf 9 = 1 := by kernel_rfl
  have kO : Tryf.prog.cellsOf 23 = 3 := by kernel_rfl
  have h0 : DataW.trod enc Tryf.prog w base spare held k 23 (([c0, c1, c2, c3, c4].drop 0).take (Tryf.prog.cellsOf 23)) = xs[0]? := hall 0 _ rfl
  have h1 : DataW.trod enc Tryf.prog w base spare held k 9 (([c0, c1, c2, c3, c4].drop 3).take (Tryf.prog.cellsOf 9)) = xs[1]? := hall 1 _ rfl
  have h2 : DataW.trod enc Tryf.prog w base spare held k 9 (([c0, c1, c2, c3, c4].drop 4).take (Tryf.prog.cellsOf 9)) = xs[2]? := hall 2 _ rfl
  rw [kO] at h0
  rw [k9] at h1 h2
  match xs, hxl with
  | [x0, x1, x2], _ =>
    obtain ⟨s, a, n, rfl, rfl, rfl, rfl, wa, wn⟩ := trod_origin h0
    obtain ⟨u, e1, rfl, wu⟩ := DataW.trod_string Tryf.underlying9 h1
    obtain ⟨q, e2, rfl, wq⟩ := DataW.trod_string Tryf.underlying9 h2
    simp only [List.drop_zero, List.drop_succ_cons, List.take_succ_cons, List.take_zero, List.cons.injEq, and_true] at e1 e2
    subst e1 e2
    simp only [Prod.mk.injEq] at hx
    exact ⟨s, a, n, u, q, rfl, hx.1, hx.2, wa, wn, wu, wq⟩
set_option maxRecDepth 100000 in
theorem shut_url (s : Bool) (a : ByteArray) (n : Int) (u q : ByteArray) (wa : a.size ≤ maxLen) (wn : (Lit.int .i64 n).wf = true) (wu : u.size ≤ maxLen) (wq : q.size ≤ maxLen) : DataW.Trod enc Tryf.prog w base spare held 27 (.agg #[.bool s, .string a, .int .i64 n, .string u, .string q]) (datU s a n u q) [] := by
  obtain ⟨k, hk⟩ := trod_origin_mk (enc := enc) (w := w) (base := base) (spare := spare) (held := held) s a n wa wn
  have hC : Tryf.prog.cellsOf 27 = 5 := by kernel_rfl
  have k9 : Tryf.prog.cellsOf 9 = 1 := by kernel_rfl
  have kO : Tryf.prog.cellsOf 23 = 3 := by kernel_rfl
  have hu : DataW.trod enc Tryf.prog w base spare held (k + 1) 9 [.string u] = some (.lit (.string u.data.toList), []) := DataW.trod_le (show 1 ≤ k + 1 by omega) (by simp [DataW.trod, Tryf.underlying9, wu])
  have hq : DataW.trod enc Tryf.prog w base spare held (k + 1) 9 [.string q] = some (.lit (.string q.data.toList), []) := DataW.trod_le (show 1 ≤ k + 1 by omega) (by simp [DataW.trod, Tryf.underlying9, wq])
  have ts := trod_struct3_mk (enc := enc) (w := w) (base := base) (spare := spare) (held := held) (n := k + 1) (cs := [.bool s, .string a, .int .i64 n, .string u, .string q]) (y0 := (datO s a n, [])) (y1 := (.lit (.string u.data.toList), [])) (y2 := (.lit (.string q.data.toList), [])) Tryf.underlying27 hC.symm
    (by rw [kO]; exact DataW.trod_le (show k ≤ k + 1 by omega) hk) (by rw [k9]; exact hu) (by rw [k9]; exact hq)
  exact ⟨_, ts⟩
theorem sized_url {ts : List TypeId} {ds : List (DataW H)} (h : (DataW.weightsEach Tryf.prog ts ds).all (· ≤ reachBytes) = true) {j : Nat} {s : Bool} {a : ByteArray} {n : Int} {u q : ByteArray} (ht : ts[j]? = some 27) (hd : ds[j]? = some (datU s a n u q)) : a.size ≤ 140737488355328 ∧ u.size ≤ 140737488355328 ∧ q.size ≤ 140737488355328 := by
  have g : ∀ x : ByteArray, x.data.toList.length ∈ (datU s a n u q : DataW H).weights Tryf.prog 27 → x.size ≤ 140737488355328 := by
    intro x hx
    have r0 := List.all_eq_true.1 h _ (DataW.weights_mem_each ht hd x.data.toList.length hx)
    have r1 : x.data.toList.length ≤ reachBytes := of_decide_eq_true r0
    have r2 := reachBytes_lt
    have e2 : x.data.toList.length = x.size := Array.length_toList
    have e3 : (2 : Nat) ^ 47 = 140737488355328 := by decide
    omega
  refine ⟨g a ?_, g u ?_, g q ?_⟩ <;> simp [datU, datO, DataW.weights, DataW.weightsEach, Tryf.underlying27, Tryf.underlying23]
end
end Go.Proofs.YtclagicimiimfaaFmt
