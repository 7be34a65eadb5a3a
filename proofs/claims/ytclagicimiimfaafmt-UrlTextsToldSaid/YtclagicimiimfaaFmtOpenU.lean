/- An origin and a URL that came in by value: opened, and shut again. -/
import Derived.Test.YtclagicimiimfaaFmtBase
import Derived.Lib.SmallJoins
import Derived.SizedLaws
namespace Go.Proofs.YtclagicimiimfaaFmt
open Go.ChangeShapes Go.WideShapes Go.ChangeAt Go.RowKit Go.Joins

def datO {H : Type} (s : Bool) (h : ByteArray) (n : Int) : DataW H := .agg [.lit (.bool s), .lit (.string h.data.toList), .lit (.int .i64 n)]
def datU {H : Type} (s : Bool) (h : ByteArray) (n : Int) (p q : ByteArray) : DataW H := .agg [datO s h n, .lit (.string p.data.toList), .lit (.string q.data.toList)]
section
variable {H : Type} {enc : TypeId × Value → H} {w : World} {base : Nat} {spare : Nat → Bool} {held : Bool}
set_option maxRecDepth 100000 in
theorem trod_origin {fuel : Nat} {c0 c1 c2 : Value} {x : DataW H × List MemPlace} (h : DataW.trod enc Tryf.prog w base spare held fuel 23 [c0, c1, c2] = some x) :
    ∃ (s : Bool) (a : ByteArray) (n : Int), c0 = .bool s ∧ c1 = .string a ∧ c2 = .int .i64 n ∧ x = (datO s a n, []) ∧ a.size ≤ maxLen ∧ (Lit.int .i64 n).wf = true := by
  obtain ⟨xs, k, rfl, hx, hl, hxl, hall⟩ := DataW.trod_struct Tryf.underlying23 h
  have k9 : Tryf.prog.cellsOf 9 = 1 := by kernel_rfl
  have k4 : Tryf.prog.cellsOf 4 = 1 := by kernel_rfl
  have k3 : Tryf.prog.cellsOf 3 = 1 := by kernel_rfl
  have h0 : DataW.trod enc Tryf.prog w base spare held k 4 (([c0, c1, c2].drop 0).take (Tryf.prog.cellsOf 4)) = xs[0]? := hall 0 _ rfl
  have h1 : DataW.trod enc Tryf.prog w base spare held k 9 (([c0, c1, c2].drop 1).take (Tryf.prog.cellsOf 9)) = xs[1]? := hall 1 _ rfl
  have h2 : DataW.trod enc Tryf.prog w base spare held k 3 (([c0, c1, c2].drop 2).take (Tryf.prog.cellsOf 3)) = xs[2]? := hall 2 _ rfl
  rw [k4] at h0
  rw [k9] at h1
  rw [k3] at h2
  match xs, hxl with
  | [x0, x1, x2], _ =>
    obtain ⟨s, e0, rfl⟩ := DataW.trod_bool Tryf.underlying4 h0
    obtain ⟨a, e1, rfl, wa⟩ := DataW.trod_string Tryf.underlying9 h1
    obtain ⟨n, e2, rfl, wn⟩ := DataW.trod_int Tryf.underlying3 h2
    simp only [List.drop_zero, List.drop_succ_cons, List.take_succ_cons, List.take_zero, List.cons.injEq, and_true] at e0 e1 e2
    exact ⟨s, a, n, e0, e1, e2, by rw [hx]; rfl, wa, wn⟩
theorem trod_origin_mk (s : Bool) (a : ByteArray) (n : Int) (wa : a.size ≤ maxLen) (wn : (Lit.int .i64 n).wf = true) : ∃ k, DataW.trod enc Tryf.prog w base spare held k 23 [.bool s, .string a, .int .i64 n] = some (datO s a n, []) := by
  have := shut_agg3 (enc := enc) (w := w) (base := base) (spare := spare) (held := held) (v0 := .bool s) (v1 := .string a) (v2 := .int .i64 n) (y0 := (.lit (.bool s), [])) (y1 := (.lit (.string a.data.toList), [])) (y2 := (.lit (.int .i64 n), [])) Tryf.underlying23 (by kernel_rfl) (by kernel_rfl) ⟨1, by simp [DataW.trod, Tryf.underlying4]⟩ ⟨1, by simp [DataW.trod, Tryf.underlying9, wa]⟩ ⟨1, by simp [DataW.trod, Tryf.underlying3, wn]⟩
  obtain ⟨k, hk⟩ := this
  exact ⟨k, hk⟩
theorem open_origin {r : Reach} {b0 : Nat} {v : Value} {d : DataW H} {p : List MemPlace} (hv : Value.okWide Tryf.prog w r b0 23 v) (h : DataW.Trod enc Tryf.prog w base spare held 23 v d p) :
    ∃ (s : Bool) (a : ByteArray) (n : Int), v = .agg #[.bool s, .string a, .int .i64 n] ∧ d = datO s a n ∧ p = [] ∧ a.size ≤ maxLen ∧ (Lit.int .i64 n).wf = true := by
  obtain ⟨cs, rfl, hsz⟩ := okWide_struct Tryf.underlying23 hv
  have hC : Tryf.prog.cellsOf 23 = 3 := by kernel_rfl
  obtain ⟨c0, c1, c2, rfl⟩ := array3 (hsz.trans hC)
  obtain ⟨fuel, hf⟩ := h
  obtain ⟨s, a, n, rfl, rfl, rfl, hx, wa, wn⟩ := trod_origin hf
  simp only [Prod.mk.injEq] at hx
  exact ⟨s, a, n, rfl, hx.1, hx.2, wa, wn⟩
theorem shut_origin (s : Bool) (a : ByteArray) (n : Int) (wa : a.size ≤ maxLen) (wn : (Lit.int .i64 n).wf = true) : DataW.Trod enc Tryf.prog w base spare held 23 (.agg #[.bool s, .string a, .int .i64 n]) (datO s a n) [] := trod_origin_mk s a n wa wn
theorem sized_origin {ts : List TypeId} {ds : List (DataW H)} (h : (DataW.weightsEach Tryf.prog ts ds).all (· ≤ reachBytes) = true) {j : Nat} {s : Bool} {a : ByteArray} {n : Int} (ht : ts[j]? = some 23) (hd : ds[j]? = some (datO s a n)) : a.size ≤ 140737488355328 := by
  have r0 := List.all_eq_true.1 h _ (DataW.weights_mem_each ht hd a.data.toList.length (by simp [datO, DataW.weights, DataW.weightsEach, Tryf.underlying23]))
  have r1 : a.data.toList.length ≤ reachBytes := of_decide_eq_true r0
  have r2 := reachBytes_lt
  have e2 : a.data.toList.length = a.size := Array.length_toList
  have e3 : (2 : Nat) ^ 47 = 140737488355328 := by decide
  omega
end
end Go.Proofs.YtclagicimiimfaaFmt
