/- gatepostkeep.far: how far a grant reaches, by the law's own measure. -/
import Derived.Test.YtdnnlfklanaliabRch7
import Derived.Test.YtdnnlfklanaliabFshA
import Derived.Test.YtdnnlfklanaliabDra
import Derived.Test.YtdnnlfklanaliabShPre
import Derived.BigQuiet
namespace Go.Proofs.Ytdnnlfklanaliab
open Go.RowKit Go.Shelf
set_option linter.unusedVariables false

theorem pre_begins (s p : ByteArray) : p.data.toList.isPrefixOf s.data.toList = begins s p := by
  unfold begins
  rw [Bool.eq_iff_iff, Bool.and_eq_true, decide_eq_true_eq, beq_iff_eq, List.isPrefixOf_iff_prefix, ByteArray.toList_eq, ByteArray.toList_eq]
  have hs : s.data.toList.length = s.size := Array.length_toList
  have hp : p.data.toList.length = p.size := Array.length_toList
  have he : (s.extract 0 p.size).data.toList = s.data.toList.take p.size := by
    simp [ByteArray.data_extract]
  rw [he]
  constructor
  · intro h
    refine ⟨by rw [← hs, ← hp]; exact h.length_le, ?_⟩
    rw [← hp]
    exact (List.prefix_iff_eq_take.1 h).symm
  · rintro ⟨h1, h2⟩
    rw [← h2]
    exact List.take_prefix _ _
theorem hasP (s p : ByteArray) (w : World) : Calls Try.prog 35 #[.string s, .string p] w fun e w' => e = .returned (.bool (begins s p)) ∧ w' = w := by
  rw [← pre_begins]
  exact Any.strings_HasPrefix lays99 s p w
set_option maxRecDepth 100000 in
set_option maxHeartbeats 4000000 in
theorem farK_any (v : GrV) (pa : Option Addr) (pc pg off : Nat) (hpv : v.pv = .slice pa v.g.paths.length pc) (hfit : v.g.paths.length ≤ 1000) (o : OrgV) (p : Bool) (path : ByteArray) (w : World) (hps : Strs w pa v.g.paths.length pg off v.g.paths) :
    Calls Try.prog 13 #[.agg (grCells v).toArray, .agg #[.bool o.sec, .string o.host, .int .i64 o.port], .bool p, .string path] w fun e w' => e = .returned (.int .i64 (reachI o p path v.g)) ∧ Below w.heap.size w w' := by
  obtain ⟨pn, HPN⟩ : ∃ pn, Hid (v.g.paths.length = pn) := ⟨_, rfl⟩
  rw [HPN.out] at hpv hps
  have hpn : pn ≤ 1000 := by rw [← HPN.out]; exact hfit
  have hbx := boxes2 w (grCells v).toArray #[.bool o.sec, .string o.host, .int .i64 o.port] 36 29
  have hps2 := hps.below hbx.1
  unfold grCells at hbx hps2 ⊢
  rw [hpv] at hbx hps2 ⊢
  have HB : Hid (Below w.heap.size w _ ∧ _ ∧ _) := hbx
  have HS : Hid (Strs _ pa pn pg off v.g.paths) := hps2
  clear hps hps2 hbx hpv hfit
  have e1 := eqOrg v.g.org o (orgB v.g.org o) rfl
  obtain ⟨E1, h1⟩ : ∃ E, orgB v.g.org o = E := ⟨_, rfl⟩
  obtain ⟨E2, h2⟩ : ∃ E, (v.g.proxy == p) = E := ⟨_, rfl⟩
  have HE : Hid (reachI o p path v.g = if E1 && E2 then v.g.paths.foldl (farStep path) (-1) else -1) := by show _ = _; unfold reachI; rw [h1, h2]
  rw [h1] at e1
  clear h1
  obtain ⟨R, HR⟩ : ∃ R, Hid (reachI o p path v.g = R) := ⟨_, rfl⟩
  rw [HR.out]
  have d0 := cell_of (i := 0) HB.out.2.1
  have d1 := cell_of (i := 1) HB.out.2.1
  have d2 := cell_of (i := 2) HB.out.2.1
  have d3 := cell_of (i := 3) HB.out.2.1
  have d15 := cell_of (i := 15) HB.out.2.1
  have c0 := cell_of (i := 0) HB.out.2.2
  have c1 := cell_of (i := 1) HB.out.2.2
  have c2 := cell_of (i := 2) HB.out.2.2
  simp only [List.getElem?_toArray, List.getElem?_cons_zero, List.getElem?_cons_succ] at d0 d1 d2 d3 d15 c0 c1 c2
  generalize hW0 : (w.alloc (.cells #[.bool v.g.org.sec, .string v.g.org.host, .int .i64 v.g.org.port, .bool v.g.proxy, .string v.g.user, .string v.g.pass, .int .i64 v.g.ask.sch, .string v.g.ask.realm, .string v.g.ask.nonce, .string v.g.ask.opq, .bool v.g.ask.sess, .string v.g.ask.qop, .bool v.g.ask.stale, v.dv, .int .i64 v.g.count, .slice pa pn pc] 36)).alloc (.cells #[.bool o.sec, .string o.host, .int .i64 o.port] 29) = W0 at HB HS d0 d1 d2 d3 d15 c0 c1 c2
  go_enter Try.func13, Try.ntmps13
  go_wp2
  clear hW0
  go_loopw [9, 15] (fun m i wr => ∃ (k : Nat) (mi : Int), k ≤ pn ∧ i = .int .i64 k ∧ m = .int .i64 mi ∧ Hid ((if E1 && E2 then (v.g.paths.take k).foldl (farStep path) (-1) else -1) = mi ∧ Below W0.heap.size W0 wr)) (fun _ i _ => pn - (intOf i).toNat)
  case atStart => exact ⟨0, -1, Nat.zero_le _, rfl, rfl, ⟨by cases E1 <;> cases E2 <;> rfl, Below.refl _ _⟩⟩
  case round =>
    obtain ⟨k, mi, hk, rfl, rfl, HK⟩ := hrel
    by_cases hlt : k < pn
    · have hkL : (k : Int) < (pn : Int) := by omega
      obtain ⟨s, hs⟩ : ∃ s, v.g.paths[k]? = some s := ⟨v.g.paths[k]'(by have := HPN.out; omega), List.getElem?_eq_getElem _⟩
      have hS := HS.out.below HK.out.2
      obtain ⟨ha0, hbl⟩ := hS.lies (by omega)
      have hc1 := hS.cells k s hs
      have b1 := (HK.out.2.block _ (Array.getElem?_eq_some_iff.1 HB.out.2.1).1).trans HB.out.2.1
      have b2 := (HK.out.2.block _ (Array.getElem?_eq_some_iff.1 HB.out.2.2).1).trans HB.out.2.2
      have x0 := cell_of (i := 0) b1
      have x1 := cell_of (i := 1) b1
      have x2 := cell_of (i := 2) b1
      have x3 := cell_of (i := 3) b1
      have y0 := cell_of (i := 0) b2
      have y1 := cell_of (i := 1) b2
      have y2 := cell_of (i := 2) b2
      simp only [List.getElem?_toArray, List.getElem?_cons_zero, List.getElem?_cons_succ] at x0 x1 x2 x3 y0 y1 y2
      have HF : Hid ((v.g.paths.take (k + 1)).foldl (farStep path) (-1) = farStep path ((v.g.paths.take k).foldl (farStep path) (-1)) s) := by
        show _ = _
        rw [far_take hs]
      subst ha0
      clear hs hS b1 b2 d0 d1 d2 d3 d15 c0 c1 c2
      cases E1
      · have HG : Hid ((-1 : Int) = mi) := HK.out.1
        go_wp2
        go_roundw
        case rel => exact ⟨k + 1, mi, by omega, by go_num, rfl, ⟨HG.out, HK.out.2⟩⟩
        case measure => simp [intOf]; omega
      · cases E2
        · have HG : Hid ((-1 : Int) = mi) := HK.out.1
          go_wp2
          go_roundw
          case rel => exact ⟨k + 1, mi, by omega, by go_num, rfl, ⟨HG.out, HK.out.2⟩⟩
          case measure => simp [intOf]; omega
        · have HM : Hid ((v.g.paths.take k).foldl (farStep path) (-1) = mi) := HK.out.1
          cases hbg : begins path s
          · have HG : Hid ((v.g.paths.take (k + 1)).foldl (farStep path) (-1) = mi) := by
              show _ = _
              rw [HF.out, HM.out]; unfold farStep; rw [hbg]; rfl
            go_wp2_with fail
            refine (hasP path s _).mono ?_
            rintro e w2 ⟨rfl, hw⟩
            obtain rfl := hw.symm
            rw [hbg]
            clear hbg
            go_wp2
            go_roundw
            case rel => exact ⟨k + 1, mi, by omega, by go_num, rfl, ⟨HG.out, HK.out.2⟩⟩
            case measure => simp [intOf]; omega
          · have HG : Hid ((v.g.paths.take (k + 1)).foldl (farStep path) (-1) = max mi (s.size : Int)) := by
              show _ = _
              rw [HF.out, HM.out]; unfold farStep; rw [hbg]; rfl
            go_wp2_with fail
            refine (hasP path s _).mono ?_
            rintro e w2 ⟨rfl, hw⟩
            obtain rfl := hw.symm
            rw [hbg]
            clear hbg
            go_wp2
            go_roundw
            case rel => exact ⟨k + 1, _, by omega, by go_num, rfl, ⟨HG.out, HK.out.2⟩⟩
            case measure => simp [intOf]; omega
    · have hkL : ¬ (k : Int) < (pn : Int) := by omega
      obtain rfl : mi = R := by rw [← HK.out.1, ← HR.out, HE.out, List.take_of_length_le (by rw [HPN.out]; omega)]
      go_wp2
      go_ret
      exact ⟨rfl, HB.out.1.trans (HK.out.2.mono HB.out.1.size)⟩
end Go.Proofs.Ytdnnlfklanaliab
