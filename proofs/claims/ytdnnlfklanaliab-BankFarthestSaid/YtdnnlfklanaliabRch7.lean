/- How far a grant reaches for a path. -/
import Derived.Test.YtdnnlfklanaliabBkD
import Derived.Test.YtdnnlfklanaliabWth
namespace Go.Proofs.Ytdnnlfklanaliab
open Go.RowKit
set_option linter.unusedVariables false

def farStep (path : ByteArray) (m : Int) (s : ByteArray) : Int := if begins path s then max m (s.size : Int) else m
/-- How long the longest of its spaces is that the path is in; below 0: the grant is not for it. -/
def reachI (o : OrgV) (p : Bool) (path : ByteArray) (g : GrP) : Int := if orgB g.org o && g.proxy == p then g.paths.foldl (farStep path) (-1) else -1
theorem far_take {path : ByteArray} {ps : List ByteArray} {k : Nat} {s : ByteArray} (h : ps[k]? = some s) : (ps.take (k + 1)).foldl (farStep path) (-1) = farStep path ((ps.take k).foldl (farStep path) (-1)) s := by
  obtain ⟨hk, e⟩ := List.getElem?_eq_some_iff.1 h
  rw [List.take_succ_eq_append_getElem hk, List.foldl_append, e]
  rfl
set_option maxRecDepth 100000 in
set_option maxHeartbeats 4000000 in
theorem reach_any (v : GrV) (B : Nat) (hfit : GrFit v.g) (o : OrgV) (p : Bool) (path : ByteArray) (a b c : Nat) (w : World) (hb : Box3 w a b c o p path) (hown : GrOwn w B v) :
    Calls Try.prog 54 #[.agg (grCells v).toArray, .pointer (some ⟨a, 0, none⟩), .pointer (some ⟨b, 0, none⟩), .pointer (some ⟨c, 0, none⟩)] w fun e w' => e = .returned (.int .i64 (reachI o p path v.g)) ∧ Below w.heap.size w w' := by
  obtain ⟨pa, pc, pg, hpv, hps⟩ := hown.paths.strs
  obtain ⟨pn, HPN⟩ : ∃ pn, Hid (v.g.paths.length = pn) := ⟨_, rfl⟩
  rw [HPN.out] at hpv hps
  have hpn : pn ≤ 1000 := by rw [← HPN.out]; exact hfit.2.2.2.2.1
  have hbb : Below w.heap.size w (w.alloc (.cells (grCells v).toArray 36)) := (Below.refl _ _).alloc (Nat.le_refl _) _
  have hb2 := hb.below hbb
  have hn := heap_alloc_new w (.cells (grCells v).toArray 36)
  unfold grCells at hbb hb2 hn ⊢
  rw [hpv] at hbb hb2 hn ⊢
  have HB : Hid (Below w.heap.size w (w.alloc (.cells [Value.bool v.g.org.sec, .string v.g.org.host, .int .i64 v.g.org.port, .bool v.g.proxy, .string v.g.user, .string v.g.pass, .int .i64 v.g.ask.sch, .string v.g.ask.realm, .string v.g.ask.nonce, .string v.g.ask.opq, .bool v.g.ask.sess, .string v.g.ask.qop, .bool v.g.ask.stale, v.dv, .int .i64 v.g.count, .slice pa pn pc].toArray 36)) ∧ Strs w pa pn pg 0 v.g.paths) := ⟨hbb, hps⟩
  have c0 := (cell_of (i := 0) hb2.org)
  have c1 := (cell_of (i := 1) hb2.org)
  have c2 := (cell_of (i := 2) hb2.org)
  have c3 := (cell_of (i := 0) hb2.prx)
  have n0 := cell_of (i := 0) hn
  have n1 := cell_of (i := 1) hn
  have n2 := cell_of (i := 2) hn
  have n3 := cell_of (i := 3) hn
  have n15 := cell_of (i := 15) hn
  simp only [List.getElem?_toArray, List.getElem?_cons_zero, List.getElem?_cons_succ] at c0 c1 c2 c3 n0 n1 n2 n3 n15
  have e1 := eqOrg v.g.org o (orgB v.g.org o) rfl
  have HC4 : Hid (Box3 w a b c o p path) := hb
  obtain ⟨E1, h1⟩ : ∃ E, orgB v.g.org o = E := ⟨_, rfl⟩
  obtain ⟨E2, h2⟩ : ∃ E, (v.g.proxy == p) = E := ⟨_, rfl⟩
  have HE : Hid (reachI o p path v.g = if E1 && E2 then v.g.paths.foldl (farStep path) (-1) else -1) := by show _ = _; unfold reachI; rw [h1, h2]
  have h2' : (v.g.proxy != p) = !E2 := by rw [← h2]; rfl
  rw [h1] at e1
  clear h1 hb hb2 hn hbb hps hown hpv hfit
  obtain ⟨R, HR⟩ : ∃ R, Hid (reachI o p path v.g = R) := ⟨_, rfl⟩
  rw [HR.out]
  go_enter Try.func54, Try.ntmps54
  cases E1
  · obtain rfl : R = -1 := by rw [← HR.out, HE.out]; rfl
    go_wp2
    go_ret
    exact ⟨rfl, HB.out.1⟩
  · cases E2
    · obtain rfl : R = -1 := by rw [← HR.out, HE.out]; rfl
      go_wp2
      go_ret
      exact ⟨rfl, HB.out.1⟩
    · have HRF : Hid (v.g.paths.foldl (farStep path) (-1) = R) := by show _ = _; rw [← HR.out, HE.out]; rfl
      go_wp2
      go_loopw [6, 23] (fun m i wr => ∃ (k : Nat) (mi : Int), k ≤ pn ∧ i = .int .i64 k ∧ m = .int .i64 mi ∧ Hid ((v.g.paths.take k).foldl (farStep path) (-1) = mi ∧ Below w.heap.size w wr)) (fun _ i _ => pn - (intOf i).toNat)
      case atStart => exact ⟨0, -1, Nat.zero_le _, rfl, rfl, ⟨rfl, HB.out.1⟩⟩
      case round =>
        obtain ⟨k, mi, hk, rfl, rfl, HK⟩ := hrel
        by_cases hlt : k < pn
        · have hkL : (k : Int) < (pn : Int) := by omega
          obtain ⟨s, hs⟩ : ∃ s, v.g.paths[k]? = some s := ⟨v.g.paths[k]'(by have := HPN.out; omega), List.getElem?_eq_getElem _⟩
          have hS := HB.out.2.below HK.out.2
          obtain ⟨ha0, hbl⟩ := hS.lies (by omega)
          have hc1 := hS.cells k s hs
          rw [Nat.zero_add] at hc1
          have hc4 := cell_of (i := 0) (HC4.out.below HK.out.2).txt
          simp only [List.getElem?_toArray, List.getElem?_cons_zero] at hc4
          have HF : Hid ((v.g.paths.take (k + 1)).foldl (farStep path) (-1) = farStep path mi s) := by
            show _ = _
            rw [far_take hs, HK.out.1]
          subst ha0
          clear hs hS
          cases hbg : begins path s
          · have HG : Hid ((v.g.paths.take (k + 1)).foldl (farStep path) (-1) = mi) := by
              show _ = _
              rw [HF.out]; unfold farStep; rw [hbg]; rfl
            go_wp2_with fail
            refine (within_p path s _).mono ?_
            rintro e w2 ⟨rfl, hw⟩
            obtain rfl := hw.symm
            rw [hbg]
            clear hbg
            go_wp2
            go_roundw
            case rel => exact ⟨k + 1, mi, by omega, by go_num, rfl, ⟨HG.out, HK.out.2⟩⟩
            case measure => simp [intOf]; omega
          · have HG : Hid ((v.g.paths.take (k + 1)).foldl (farStep path) (-1) = max mi (s.size : Int)) := by
              show _ = _
              rw [HF.out]; unfold farStep; rw [hbg]; rfl
            go_wp2_with fail
            refine (within_p path s _).mono ?_
            rintro e w2 ⟨rfl, hw⟩
            obtain rfl := hw.symm
            rw [hbg]
            clear hbg
            go_wp2
            go_roundw
            case rel => exact ⟨k + 1, _, by omega, by go_num, rfl, ⟨HG.out, HK.out.2⟩⟩
            case measure => simp [intOf]; omega
        · have hkL : ¬ (k : Int) < (pn : Int) := by omega
          obtain rfl : mi = R := by rw [← HK.out.1, ← HRF.out, List.take_of_length_le (by rw [HPN.out]; omega)]
          go_wp2
          go_ret
          exact ⟨rfl, HK.out.2⟩
end Go.Proofs.Ytdnnlfklanaliab
