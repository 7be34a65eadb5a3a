/- Whether what is asked for, and what it is answered with, are few bytes, by the law's own function. -/
import Derived.Test.YthhbfnfgbonakabDoorArgK
import Derived.Deep.QuietTactic
import Derived.BigQuiet
import Derived.Deep.LoopGhost
namespace Go.Proofs.YthhbfnfgbonakabDoor
open Go.RowKit

def totZ (a : PfA) (u p : ByteArray) : Nat := a.realm.size + a.nonce.size + a.opq.size + a.qop.size + u.size + p.size
def sumZ : List ByteArray → Nat
  | [] => 0
  | x :: r => x.size + sumZ r
theorem sumZ_snoc : ∀ (l : List ByteArray) (x : ByteArray), sumZ (l ++ [x]) = sumZ l + x.size
  | [], x => by simp [sumZ]
  | y :: r, x => by rw [List.cons_append, sumZ, sumZ, sumZ_snoc r x]; omega
theorem sumZ_le : ∀ (l : List ByteArray), (∀ x ∈ l, x.size ≤ 140737488355328) → sumZ l ≤ l.length * 140737488355328
  | [], _ => by simp [sumZ]
  | y :: r, h => by
    have h1 := h y (by simp)
    have h2 := sumZ_le r (fun x hx => h x (by simp [hx]))
    rw [sumZ, List.length_cons, Nat.succ_mul]
    omega
/-- They are few. -/
def smallB (a : PfA) (u p : ByteArray) (xs : List ByteArray) : Bool := decide (totZ a u p + sumZ xs ≤ 500)
set_option maxRecDepth 100000 in
set_option maxHeartbeats 2000000 in
theorem small_any (a : PfA) (st : Bool) (dv : Value) (u p : ByteArray) (za : AskZ a) (zc : CredZ u p) (xs : List ByteArray) (hz : ∀ x ∈ xs, x.size ≤ 140737488355328) (b n cap : Nat) (hn : xs.length = n) (hl : n ≤ 10) (w : World) (hbw : b < w.heap.size) (hc : ∀ (j : Nat) x, xs[j]? = some x → w.cell? ⟨b, j, none⟩ = some (.string x)) :
    Calls Tryd.prog 5 #[.agg #[.int .i64 a.scheme, .string a.realm, .string a.nonce, .string a.opq, .bool a.sess, .string a.qop, .bool st, dv], .agg #[.string u, .string p], .slice (some ⟨b, 0, none⟩) n cap] w fun e w' => e = .returned (.bool (smallB a u p xs)) ∧ Below w.heap.size w w' := by
  obtain ⟨z1, z2, z3, z4⟩ := za
  obtain ⟨z5, z6⟩ := zc
  have hT : ((a.realm.size : Int) + a.nonce.size + a.opq.size + a.qop.size + u.size + p.size) = ((totZ a u p : Nat) : Int) := by unfold totZ; omega
  have hTz : totZ a u p ≤ 844424930131968 := by unfold totZ; omega
  have hb1 : Below w.heap.size w ((w.alloc (.cells #[.int .i64 a.scheme, .string a.realm, .string a.nonce, .string a.opq, .bool a.sess, .string a.qop, .bool st, dv] 24)).alloc (.cells #[.string u, .string p] 26)) := ((Below.refl _ _).alloc (Nat.le_refl _) _).alloc (by simp) _
  have HC : Hid (∀ (j : Nat) x, xs[j]? = some x → ((w.alloc (.cells #[.int .i64 a.scheme, .string a.realm, .string a.nonce, .string a.opq, .bool a.sess, .string a.qop, .bool st, dv] 24)).alloc (.cells #[.string u, .string p] 26)).cell? ⟨b, j, none⟩ = some (.string x)) := fun j x hj => by
    rw [hb1.cell (p := ⟨b, j, none⟩) hbw]
    exact hc j x hj
  have HB1 : Hid (Below w.heap.size w ((w.alloc (.cells #[.int .i64 a.scheme, .string a.realm, .string a.nonce, .string a.opq, .bool a.sess, .string a.qop, .bool st, dv] 24)).alloc (.cells #[.string u, .string p] 26))) := hb1
  clear hc hb1
  go_enter Tryd.func5, Tryd.ntmps5
  go_wp2
  generalize ((w.alloc (.cells #[.int .i64 a.scheme, .string a.realm, .string a.nonce, .string a.opq, .bool a.sess, .string a.qop, .bool st, dv] 24)).alloc (.cells #[.string u, .string p] 26)) = W0 at HC HB1 ⊢
  go_loop [7, 8] (fun t i => ∃ (k : Nat) (s : Nat), k ≤ n ∧ i = .int .i64 (k : Int) ∧ t = .int .i64 (s : Int) ∧ s ≤ 844424930131968 + k * 140737488355328 ∧ Hid (s = totZ a u p + sumZ (xs.take k))) (fun _ i => n - (intOf i).toNat)
  case atStart => exact ⟨0, totZ a u p, Nat.zero_le _, rfl, by first | rfl | (rw [← hT]; rfl), by omega, rfl⟩
  case round =>
    obtain ⟨k, s, hk, rfl, rfl, hs, HS⟩ := hrel
    by_cases hlt : k < n
    · obtain ⟨x, hxk⟩ : ∃ x, xs[k]? = some x := ⟨xs[k]'(by omega), List.getElem?_eq_getElem (by omega)⟩
      have hcx := HC.out k x hxk
      have hxz := hz x (List.mem_of_getElem? hxk)
      have HN : Hid (s + x.size = totZ a u p + sumZ (xs.take (k + 1))) := by
        show _ = _
        obtain ⟨hk1, e⟩ := List.getElem?_eq_some_iff.1 hxk
        rw [List.take_succ_eq_append_getElem hk1, sumZ_snoc, HS.out, e]
        omega
      clear hxk
      have hs2 : s ≤ 2251799813685248 := by have : k * 140737488355328 ≤ 10 * 140737488355328 := Nat.mul_le_mul_right _ (by omega); omega
      have hki : (k : Int) < (n : Int) := by omega
      go_wp2
      go_round
      case rel => exact ⟨k + 1, s + x.size, by omega, by go_num, by go_num, by rw [Nat.add_mul]; omega, HN⟩
      case measure => simp [intOf]; omega
    · have HN : Hid (decide ((s : Int) ≤ 500) = smallB a u p xs) := by
        show _ = _
        have h := HS.out
        rw [List.take_of_length_le (by omega)] at h
        unfold smallB
        rw [decide_eq_decide]
        omega
      have hki : ¬ (k : Int) < (n : Int) := by omega
      go_wp2
      go_ret
      exact ⟨by rw [← HN.out]; rfl, HB1.out⟩
end Go.Proofs.YthhbfnfgbonakabDoor
