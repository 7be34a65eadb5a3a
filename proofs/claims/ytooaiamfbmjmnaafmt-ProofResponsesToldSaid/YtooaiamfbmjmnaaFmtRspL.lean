/- The law ProofResponses, walked. -/
import Derived.Test.YtooaiamfbmjmnaaFmtRRs3
import Derived.Test.YtooaiamfbmjmnaaFmtAck
import Derived.Test.YtooaiamfbmjmnaaFmtArgA
import Derived.Test.YtooaiamfbmjmnaaFmtRspN
import Derived.Deep.RegionHeld3
import Derived.Deep.QuietTactic
import Derived.BigQuiet
namespace Go.Proofs.YtooaiamfbmjmnaaFmt
open Go.RowKit
open Go.Extern.Stop Go.Stop Go.Extern

set_option maxRecDepth 100000 in
set_option maxHeartbeats 4000000 in
theorem responses_walk (F : Interp) (a : PfA) (st : Bool) (dv : Value) (za : AskZ a) (u p : ByteArray) (zc : CredZ u p) (m : ByteArray) (zm : m.size ≤ 140737488355328) (t : ByteArray) (zt : t.size ≤ 140737488355328) (b : ByteArray) (zb : b.size ≤ 140737488355328) (c : ByteArray) (zn : c.size ≤ 140737488355328)
    (n : Int) (_n0 : -9223372036854775808 ≤ n) (n1 : n ≤ 9223372036854775807) (w : World) (hF : F.told.answers w.tape) (HT : Hid (Tabs w)) :
    Calls Tryf.prog 3 #[.agg #[.int .i64 a.scheme, .string a.realm, .string a.nonce, .string a.opq, .bool a.sess, .string a.qop, .bool st, dv], .agg #[.string u, .string p], .string m, .string t, .string b, .string c, .int .i64 n] w fun e w' => e = .returned (.bool true) ∧ Below w.heap.size w w' := by
  have HFT : Hid (F.told.answers w.tape) := hF
  have HK0 : Hid (AcK w ((w.alloc (.cells #[.int .i64 a.scheme, .string a.realm, .string a.nonce, .string a.opq, .bool a.sess, .string a.qop, .bool st, dv] 24)).alloc (.cells #[.string u, .string p] 26)) a st dv u p) := acK_start w a st dv u p HT
  have hlg := fun w => long_any a st dv za u p zc m t b c zm zt zb zn w
  clear hF zm zt zb zn za zc
  by_cases h0 : n < 0
  · have hd : decide (n < 0) = true := decide_eq_true h0
    go_enter Tryf.func3, Tryf.ntmps3
    go_wp2_with fail
    go_quiet (fail)
    go_wp2
    go_ret
    have hbb := HK0.out.bel
    exact ⟨rfl, ⟨hbb.os, hbb.tape, hbb.output, hbb.size, hbb.block⟩⟩
  · obtain ⟨k, rfl⟩ := Int.eq_ofNat_of_zero_le (Int.not_lt.1 h0)
    have hd : decide ((k : Int) < 0) = false := decide_eq_false h0
    cases hlo : longB a u p m t b c
    · have hfit : Fits a ⟨u, p, m, t, b, c⟩ := by
        have h := of_decide_eq_false hlo
        unfold Fits
        simp only
        omega
      have r1 := fun w HT => resp_any a ⟨u, p, m, t, b, c⟩ st dv k (by omega) hfit w HT
      have r2 := fun w hF HT => refResp_any F a ⟨u, p, m, t, b, c⟩ st dv k (by omega) hfit w hF HT
      simp only at r1 r2
      generalize bs (respL a ⟨u, p, m, t, b, c⟩ k) = X at r1 r2
      rw [hlo] at hlg
      clear hfit hlo h0
      go_enter Tryf.func3, Tryf.ntmps3
      go_wp2_with fail
      generalize ((w.alloc (.cells #[.int .i64 a.scheme, .string a.realm, .string a.nonce, .string a.opq, .bool a.sess, .string a.qop, .bool st, dv] 24)).alloc (.cells #[.string u, .string p] 26)) = W0 at HK0 ⊢
      have hK : AcK w W0.drew a st dv u p := HK0.out.below (Below.refl _ _).drew
      have hQ : W0.drew.cell? ⟨w.heap.size, 0, none⟩ = some (.int .i64 a.scheme) ∧ W0.drew.cell? ⟨w.heap.size, 1, none⟩ = some (.string a.realm) ∧ W0.drew.cell? ⟨w.heap.size, 2, none⟩ = some (.string a.nonce) ∧ W0.drew.cell? ⟨w.heap.size, 3, none⟩ = some (.string a.opq) ∧ W0.drew.cell? ⟨w.heap.size, 4, none⟩ = some (.bool a.sess) ∧ W0.drew.cell? ⟨w.heap.size, 5, none⟩ = some (.string a.qop) ∧ W0.drew.cell? ⟨w.heap.size, 6, none⟩ = some (.bool st) ∧ W0.drew.cell? ⟨w.heap.size, 7, none⟩ = some dv ∧ W0.drew.cell? ⟨w.heap.size + 1, 0, none⟩ = some (.string u) ∧ W0.drew.cell? ⟨w.heap.size + 1, 1, none⟩ = some (.string p) ∧ Hid (AcK w (W0.drew) a st dv u p) := hK.held
      go_region_held3 (fun W => W.cell? ⟨w.heap.size, 0, none⟩ = some (.int .i64 a.scheme) ∧ W.cell? ⟨w.heap.size, 1, none⟩ = some (.string a.realm) ∧ W.cell? ⟨w.heap.size, 2, none⟩ = some (.string a.nonce) ∧ W.cell? ⟨w.heap.size, 3, none⟩ = some (.string a.opq) ∧ W.cell? ⟨w.heap.size, 4, none⟩ = some (.bool a.sess) ∧ W.cell? ⟨w.heap.size, 5, none⟩ = some (.string a.qop) ∧ W.cell? ⟨w.heap.size, 6, none⟩ = some (.bool st) ∧ W.cell? ⟨w.heap.size, 7, none⟩ = some dv ∧ W.cell? ⟨w.heap.size + 1, 0, none⟩ = some (.string u) ∧ W.cell? ⟨w.heap.size + 1, 1, none⟩ = some (.string p) ∧ Hid (AcK w W a st dv u p)) (with_reducible assumption) (first
        | (go_at_call 4; refine (hlg _).mono ?_; rintro e wa ⟨rfl, hba⟩; have hKa := hK.below hba; have hQa : wa.cell? ⟨w.heap.size, 0, none⟩ = some (.int .i64 a.scheme) ∧ wa.cell? ⟨w.heap.size, 1, none⟩ = some (.string a.realm) ∧ wa.cell? ⟨w.heap.size, 2, none⟩ = some (.string a.nonce) ∧ wa.cell? ⟨w.heap.size, 3, none⟩ = some (.string a.opq) ∧ wa.cell? ⟨w.heap.size, 4, none⟩ = some (.bool a.sess) ∧ wa.cell? ⟨w.heap.size, 5, none⟩ = some (.string a.qop) ∧ wa.cell? ⟨w.heap.size, 6, none⟩ = some (.bool st) ∧ wa.cell? ⟨w.heap.size, 7, none⟩ = some dv ∧ wa.cell? ⟨w.heap.size + 1, 0, none⟩ = some (.string u) ∧ wa.cell? ⟨w.heap.size + 1, 1, none⟩ = some (.string p) ∧ Hid (AcK w (wa) a st dv u p) := hKa.held)
        | (go_at_call 5; refine (r1 _ hKa.tabs).mono ?_; rintro e wb ⟨rfl, hbb⟩; have hKb := hKa.below hbb; have hQb : wb.cell? ⟨w.heap.size, 0, none⟩ = some (.int .i64 a.scheme) ∧ wb.cell? ⟨w.heap.size, 1, none⟩ = some (.string a.realm) ∧ wb.cell? ⟨w.heap.size, 2, none⟩ = some (.string a.nonce) ∧ wb.cell? ⟨w.heap.size, 3, none⟩ = some (.string a.opq) ∧ wb.cell? ⟨w.heap.size, 4, none⟩ = some (.bool a.sess) ∧ wb.cell? ⟨w.heap.size, 5, none⟩ = some (.string a.qop) ∧ wb.cell? ⟨w.heap.size, 6, none⟩ = some (.bool st) ∧ wb.cell? ⟨w.heap.size, 7, none⟩ = some dv ∧ wb.cell? ⟨w.heap.size + 1, 0, none⟩ = some (.string u) ∧ wb.cell? ⟨w.heap.size + 1, 1, none⟩ = some (.string p) ∧ Hid (AcK w (wb) a st dv u p) := hKb.held)
        | (go_at_call 6; refine (r2 _ (by rw [hKb.bel.tape]; exact HFT.out) hKb.tabs).mono ?_; rintro e wc ⟨rfl, hbc⟩; have hKc := hKb.below hbc; have hQc : wc.cell? ⟨w.heap.size, 0, none⟩ = some (.int .i64 a.scheme) ∧ wc.cell? ⟨w.heap.size, 1, none⟩ = some (.string a.realm) ∧ wc.cell? ⟨w.heap.size, 2, none⟩ = some (.string a.nonce) ∧ wc.cell? ⟨w.heap.size, 3, none⟩ = some (.string a.opq) ∧ wc.cell? ⟨w.heap.size, 4, none⟩ = some (.bool a.sess) ∧ wc.cell? ⟨w.heap.size, 5, none⟩ = some (.string a.qop) ∧ wc.cell? ⟨w.heap.size, 6, none⟩ = some (.bool st) ∧ wc.cell? ⟨w.heap.size, 7, none⟩ = some dv ∧ wc.cell? ⟨w.heap.size + 1, 0, none⟩ = some (.string u) ∧ wc.cell? ⟨w.heap.size + 1, 1, none⟩ = some (.string p) ∧ Hid (AcK w (wc) a st dv u p) := hKc.held))
      go_wp2
      go_ret
      exact ⟨by first | rfl | simp, hKc.bel⟩
    · rw [hlo] at hlg
      exact responses_long a st dv u p m t b c k w HK0 hlg hd
end Go.Proofs.YtooaiamfbmjmnaaFmt
