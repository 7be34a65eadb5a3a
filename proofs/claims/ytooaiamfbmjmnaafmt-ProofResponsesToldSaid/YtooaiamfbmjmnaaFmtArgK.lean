/- Who asks, and what is asked for, that came in: opened. -/
import Derived.Test.YtooaiamfbmjmnaaFmtPf
import Derived.ProofKit
import Derived.OpenShut
import Derived.Carry
import Derived.SizedLaws
import Derived.Deep.Slices
import Derived.Deep.Strs
import Derived.Lib.SmallJoins
namespace Go.Proofs.YtooaiamfbmjmnaaFmt
open Go.ChangeShapes Go.WideShapes Go.ChangeAt Go.RowKit Go.Joins

theorem laidOutK : laidOutB Tryf.prog = true := by kernel_rfl
/-- No text of it is longer than a machine can hold. -/
def ReachK {H : Type} (t : TypeId) (d : DataW H) : Prop := ∀ n ∈ d.weights Tryf.prog t, n ≤ 140737488355328
theorem reachK_all {H : Type} {ts : List TypeId} {ds : List (DataW H)} (h : (DataW.weightsEach Tryf.prog ts ds).all (· ≤ reachBytes) = true) {j : Nat} {t : TypeId} {d : DataW H} (ht : ts[j]? = some t) (hd : ds[j]? = some d) : ReachK t d := fun n hn => by
  have h1 := List.all_eq_true.1 h _ (DataW.weights_mem_each ht hd n hn)
  have h2 : n ≤ reachBytes := of_decide_eq_true h1
  have := reachBytes_lt
  have e3 : (2 : Nat) ^ 47 = 140737488355328 := by decide
  omega
theorem array8 {α : Type} {cs : Array α} (h : cs.size = 8) : ∃ c0 c1 c2 c3 c4 c5 c6 c7, cs = #[c0, c1, c2, c3, c4, c5, c6, c7] := by
  obtain ⟨l⟩ := cs
  match l, h with
  | [c0, c1, c2, c3, c4, c5, c6, c7], _ => exact ⟨c0, c1, c2, c3, c4, c5, c6, c7, rfl⟩
theorem list8 {α : Type} {l : List α} (h : l.length = 8) : ∃ c0 c1 c2 c3 c4 c5 c6 c7, l = [c0, c1, c2, c3, c4, c5, c6, c7] := by
  match l, h with
  | [c0, c1, c2, c3, c4, c5, c6, c7], _ => exact ⟨c0, c1, c2, c3, c4, c5, c6, c7, rfl⟩
/-- No text is longer than a machine can hold. -/
def CredZ (u p : ByteArray) : Prop := u.size ≤ 140737488355328 ∧ p.size ≤ 140737488355328
def AskZ (a : PfA) : Prop := a.realm.size ≤ 140737488355328 ∧ a.nonce.size ≤ 140737488355328 ∧ a.opq.size ≤ 140737488355328 ∧ a.qop.size ≤ 140737488355328
section
variable {H : Type} {enc : TypeId × Value → H} {W : World}
set_option maxRecDepth 100000 in
theorem open_creds {b0 : Nat} {v : Value} {d : DataW H} {p : List MemPlace} (hv : Value.okWide Tryf.prog W .any b0 26 v) (h : DataW.Trod enc Tryf.prog W 0 (fun _ => true) true 26 v d p) :
    ∃ x y : ByteArray, v = .agg #[.string x, .string y] ∧ (ReachK 26 d → CredZ x y) := by
  obtain ⟨c0, c1, y0, y1, m, rfl, rfl, rfl, g0, g1⟩ := open_agg2 Tryf.underlying26 (by kernel_rfl) (by kernel_rfl) hv h
  obtain ⟨s0, e0, rfl, _⟩ := DataW.trod_string Tryf.underlying9 g0
  obtain ⟨s1, e1, rfl, _⟩ := DataW.trod_string Tryf.underlying9 g1
  simp only [List.cons.injEq, and_true] at e0 e1
  subst e0 e1
  refine ⟨s0, s1, rfl, fun hw => ?_⟩
  have w0 := hw s0.data.toList.length (by simp [DataW.weights, DataW.weightsEach, Tryf.underlying26])
  have w1 := hw s1.data.toList.length (by simp [DataW.weights, DataW.weightsEach, Tryf.underlying26])
  rw [Array.length_toList] at w0 w1
  exact ⟨w0, w1⟩
end
end Go.Proofs.YtooaiamfbmjmnaaFmt
