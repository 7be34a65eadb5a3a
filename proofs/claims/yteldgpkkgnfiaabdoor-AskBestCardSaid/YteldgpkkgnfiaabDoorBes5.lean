/- The law AskBest, walked. -/
import Derived.Test.YteldgpkkgnfiaabDoorAskd
import Derived.Test.YteldgpkkgnfiaabDoorBstO
import Derived.Test.YteldgpkkgnfiaabDoorFar
import Derived.Test.YteldgpkkgnfiaabDoorRvc
namespace Go.Proofs.YteldgpkkgnfiaabDoor
open Go.RowKit

theorem fair_mild {x : Chal} (h : FairC x) : Mild x := by
  have h1 := h.1
  have h2 := h.2.1
  exact ⟨⟨by omega, fun p hp => by have := h.2.2.2 p hp; omega⟩, by omega⟩
theorem xsOf_rev (cs : List ChV) : xsOf cs.reverse = (xsOf cs).reverse := by unfold xsOf; simp
theorem rowW_of {w : World} {B g n cap : Nat} {cs : List ChV} (hl : cs.length = n) (h : w.ownsRow B 33 3 (.slice (some ⟨g, 0, none⟩) n cap) n (chCells cs)) : RowW w g cs ∧ B ≤ g := by
  rcases h.2 with ⟨e, _⟩ | ⟨g', cap', cur, e, hB, hh, _, _, _, ht⟩
  · cases e
  · injection e with e1 e2 e3
    injection e1 with e1
    injection e1 with e1
    subst e1
    refine ⟨⟨cur, hh, fun k c hk => ?_⟩, hB⟩
    obtain ⟨h1, h2, h3⟩ := chCells_at cs k c hk
    have hkl : k < n := by rw [← hl]; exact (List.getElem?_eq_some_iff.1 hk).1
    have tk : ∀ j v, j < n * 3 → (chCells cs)[j]? = some v → cur[j]? = some v := fun j v hj hv => by
      rw [← ht, List.getElem?_take, if_pos hj] at hv
      simpa using hv
    exact ⟨tk _ _ (by omega) h1, tk _ _ (by omega) h2, tk _ _ (by omega) h3⟩
theorem chals_of_row {w w' : World} {a0 : Option Addr} {n b off g : Nat} {cs : List ChV} (hx : Chals w a0 n b off cs) (hb : Below w.heap.size w w') (h : RowW w' g cs.reverse) (hg : g < w'.heap.size) : Chals w' (some ⟨g, 0, none⟩) n g 0 cs.reverse := by
  refine ⟨by rw [List.length_reverse]; exact hx.len_eq, fun _ => ⟨rfl, hg⟩, fun j c hc => ?_, fun j c hc => ?_, fun j c hc => ?_, fun c hc => (hx.pars c (List.mem_reverse.1 hc)).below hb⟩
  · rw [Nat.zero_add]; exact (h.cells j c hc).1
  · rw [Nat.zero_add]; exact (h.cells j c hc).2.1
  · rw [Nat.zero_add]; exact (h.cells j c hc).2.2
theorem RowW.lt {w : World} {g : Nat} {ds : List ChV} (h : RowW w g ds) : g < w.heap.size := by
  obtain ⟨cur, h1, _⟩ := h
  exact (Array.getElem?_eq_some_iff.1 h1).1
set_option maxHeartbeats 1000000 in
theorem reverse_none (a : Option Addr) (cap : Nat) (w : World) : Calls Tryd.prog 14 #[.slice a 0 cap] w fun e w' => e = .returned (.tuple #[]) ∧ w' = w := by
  go_enter Tryd.func14, Tryd.ntmps14
  go_wp2
  refine wp_loop_rounds 1 ?_
  rw [rounds_succ]
  go_wp2
  go_end0
  exact ⟨rfl, rfl⟩
set_option maxHeartbeats 1000000 in
theorem clone_none (a : Option Addr) (cap : Nat) (w : World) : Calls Tryd.prog 13 #[.slice a 0 cap] w fun e w' => (∃ a' cap', e = .returned (.slice a' 0 cap')) ∧ Below w.heap.size w w' := by
  have h1 := sliceNil
  have h2 := sliceNone
  cases a with
  | none =>
    go_enter Tryd.func13, Tryd.ntmps13
    go_wp2
    go_ret
    exact ⟨⟨_, _, rfl⟩, Below.refl _ _⟩
  | some p =>
    go_enter Tryd.func13, Tryd.ntmps13
    go_wp2
    go_ret
    exact ⟨⟨_, _, rfl⟩, (Below.refl _ _).alloc (Nat.le_refl _) _⟩
set_option maxRecDepth 100000 in
set_option maxHeartbeats 8000000 in
theorem askBest_walk (a0 : Option Addr) (len cap b off : Nat) (cs : List ChV) (hlen : len ≤ 9223372036854775807) (hr : ∀ c ∈ cs, Room c) (hh : ∀ c ∈ cs, Held c.x) (w : World) (hx : Chals w a0 len b off cs) :
    Calls Tryd.prog 4 #[.slice a0 len cap] w fun e w' => e = .returned (.bool true) ∧ Below w.heap.size w w' := by
  have HX : Hid (Chals w a0 len b off cs) := hx
  have hl := hx.len_eq
  clear hx
  go_enter Tryd.func4, Tryd.ntmps4
  go_wp2_with fail
  refine (asked_any _).mono ?_
  rintro e w2 ⟨rfl, hb2⟩
  have HB2 : Hid (Below w.heap.size w w2) := hb2
  clear hb2
  go_wp2_with fail
  refine (fair_any cs hh a0 len cap b off hlen hr _ (HX.out.below HB2.out)).mono ?_
  rintro e w3 ⟨⟨r, rfl, hf⟩, hb3⟩
  have HB3 : Hid (Below w.heap.size w w3) := HB2.out.trans (hb3.mono HB2.out.size)
  clear hb3 hr hh
  cases r
  · clear hf
    go_wp2
    go_ret
    exact ⟨rfl, HB3.out⟩
  obtain ⟨h8, hF⟩ := hf rfl
  have HM : Hid (∀ c ∈ cs, Mild c.x) := fun c hc => fair_mild (hF c hc)
  clear hf hF
  go_wp2_with fail
  refine (best_any cs HM.out a0 len cap b off (by omega) _ (HX.out.below HB3.out)).mono ?_
  rintro e w4 ⟨⟨dv, rfl, hown⟩, hb4⟩
  have HB4 : Hid (Below w.heap.size w w4) := HB3.out.trans (hb4.mono HB3.out.size)
  obtain ⟨ea, ec, eg, rfl, _⟩ := hown.strs
  obtain ⟨B0, HB0⟩ : ∃ B0, Hid (bestL (xsOf cs) = B0) := ⟨_, rfl⟩
  rw [HB0.out]
  obtain ⟨el, HEL⟩ : ∃ el, Hid (B0.domain.length = el) := ⟨_, rfl⟩
  rw [HEL.out]
  obtain ⟨ok, HOK⟩ : ∃ ok, Hid (decide (0 < B0.scheme) = ok) := ⟨_, rfl⟩
  rw [HOK.out]
  have hB3 : B0.scheme ≤ 3 := by rw [← HB0.out]; exact best_le _
  unfold askVal
  clear hown hb4
  have hba : Below w4.heap.size w4 (w4.alloc (.cells #[.int .i64 (B0.scheme : Int), .string B0.realm, .string B0.nonce, .string B0.opq, .bool B0.sess, .string B0.qop, .bool B0.stale, .slice ea el ec] 39)) := (Below.refl _ _).alloc (Nat.le_refl _) _
  have hnew : (w4.alloc (.cells #[.int .i64 (B0.scheme : Int), .string B0.realm, .string B0.nonce, .string B0.opq, .bool B0.sess, .string B0.qop, .bool B0.stale, .slice ea el ec] 39)).heap[w4.heap.size]? = some (.cells #[.int .i64 (B0.scheme : Int), .string B0.realm, .string B0.nonce, .string B0.opq, .bool B0.sess, .string B0.qop, .bool B0.stale, .slice ea el ec] 39 (0, 0)) := heap_alloc_new w4 _
  have hsz : (w4.alloc (.cells #[.int .i64 (B0.scheme : Int), .string B0.realm, .string B0.nonce, .string B0.opq, .bool B0.sess, .string B0.qop, .bool B0.stale, .slice ea el ec] 39)).heap.size = w4.heap.size + 1 := by simp
  have HBA : Hid (Below w.heap.size w (w4.alloc (.cells #[.int .i64 (B0.scheme : Int), .string B0.realm, .string B0.nonce, .string B0.opq, .bool B0.sess, .string B0.qop, .bool B0.stale, .slice ea el ec] 39))) := HB4.out.trans (hba.mono HB4.out.size)
  generalize hWA : (w4.alloc (.cells #[.int .i64 (B0.scheme : Int), .string B0.realm, .string B0.nonce, .string B0.opq, .bool B0.sess, .string B0.qop, .bool B0.stale, .slice ea el ec] 39)) = WA at hnew hsz HBA
  have HCE : Hid (∀ w', Below WA.heap.size WA w' → w'.cell? ⟨w4.heap.size, 0, none⟩ = some (.int .i64 (B0.scheme : Int)) ∧ w'.cell? ⟨w4.heap.size, 1, none⟩ = some (.string B0.realm) ∧ w'.cell? ⟨w4.heap.size, 2, none⟩ = some (.string B0.nonce)) := fun w' hb => by
    have h1 := (hb.block w4.heap.size (by omega)).trans hnew
    obtain ⟨⟨s0, s1, s2, _⟩, _⟩ := eight h1
    exact ⟨s0, s1, s2⟩
  clear hba hnew
  go_wp2
  clear hWA
  go_loopw [5, 25] (fun f i wr => ∃ (k : Nat) (fb : Bool), k ≤ len ∧ i = .int .i64 k ∧ f = .bool fb ∧ Hid (((xsOf cs).take k).any (hitB B0) = fb ∧ Below WA.heap.size WA wr)) (fun _ i _ => len - (intOf i).toNat)
  case atStart => exact ⟨0, false, Nat.zero_le _, rfl, rfl, ⟨rfl, Below.refl _ _⟩⟩
  case round =>
    obtain ⟨k, fb, hk, rfl, rfl, HI⟩ := hrel
    by_cases hlt : k < len
    · obtain ⟨c, hck⟩ : ∃ c, cs[k]? = some c := ⟨cs[k]'(by omega), List.getElem?_eq_getElem (by omega)⟩
      have hxk : (xsOf cs)[k]? = some c.x := xsOf_at hck
      have HNX : Hid (((xsOf cs).take (k + 1)).any (hitB B0) = (fb || hitB B0 c.x)) := by show _ = _; rw [any_take hxk, HI.out.1]
      have HGE : Hid ((knownV c.x).scheme ≤ B0.scheme) := by show _ ≤ _; rw [← HB0.out]; exact best_ge (List.mem_of_getElem? hxk)
      have hX := HX.out.below (HBA.out.trans (HI.out.2.mono HBA.out.size))
      obtain ⟨ha0, hbl⟩ := hX.lies (by omega)
      have hc1 := hX.one k c hck
      have hc2 := hX.two k c hck
      have hc3 := hX.three k c hck
      have HMC : Hid (Mild c.x) := HM.out c (List.mem_of_getElem? hck)
      have hb1 : Below wr.heap.size wr (wr.alloc (.cells #[.string c.x.scheme, .string c.x.token, .slice c.a c.len c.cap] 33)) := (Below.refl _ _).alloc (Nat.le_refl _) _
      have HOKC : Hid (ChOk (wr.alloc (.cells #[.string c.x.scheme, .string c.x.token, .slice c.a c.len c.cap] 33)) c) := (hX.pars c (List.mem_of_getElem? hck)).below hb1
      have HBX : Hid (Below WA.heap.size WA (wr.alloc (.cells #[.string c.x.scheme, .string c.x.token, .slice c.a c.len c.cap] 33))) := HI.out.2.trans (hb1.mono HI.out.2.size)
      have hkL : (k : Int) < (len : Int) := by omega
      subst ha0
      clear hck hX hb1 hxk
      go_wp2_with fail
      refine (known_any c HMC.out _ HOKC.out).mono ?_
      rintro e w5 ⟨⟨dv, rfl, hown⟩, hb5⟩
      obtain ⟨fa, fc, fg, rfl, _⟩ := hown.strs
      obtain ⟨q, HQ⟩ : ∃ q, Hid ((knownL c.x).getD zeroA = q) := ⟨_, rfl⟩
      obtain ⟨qi, HQI⟩ : ∃ q, Hid ((knownL c.x).isSome = q) := ⟨_, rfl⟩
      have HQV : Hid (knownV c.x = q) := HQ
      rw [HQ.out, HQI.out]
      obtain ⟨fl, HFL⟩ : ∃ fl, Hid (q.domain.length = fl) := ⟨_, rfl⟩
      rw [HFL.out]
      unfold askVal
      have hqB : q.scheme ≤ B0.scheme := by have := HGE.out; rw [HQV.out] at this; exact this
      have hpos : qi = true → ok = true := fun e => by
        have h1 := HQI.out
        rw [known_pos, HQV.out, e] at h1
        have h2 : 0 < q.scheme := of_decide_eq_true h1
        rw [← HOK.out, decide_eq_true (by omega)]
      have hhit : hitB B0 c.x = (qi && decide (q.scheme = B0.scheme) && (q.realm.toList == B0.realm.toList) && (q.nonce.toList == B0.nonce.toList)) := by unfold hitB; rw [HQI.out, HQV.out]
      have HHIT : Hid (hitB B0 c.x = (qi && decide (q.scheme = B0.scheme) && (q.realm.toList == B0.realm.toList) && (q.nonce.toList == B0.nonce.toList))) := hhit
      have hbb : Below w5.heap.size w5 (w5.alloc (.cells #[.int .i64 (q.scheme : Int), .string q.realm, .string q.nonce, .string q.opq, .bool q.sess, .string q.qop, .bool q.stale, .slice fa fl fc] 39)) := (Below.refl _ _).alloc (Nat.le_refl _) _
      have hnb : (w5.alloc (.cells #[.int .i64 (q.scheme : Int), .string q.realm, .string q.nonce, .string q.opq, .bool q.sess, .string q.qop, .bool q.stale, .slice fa fl fc] 39)).heap[w5.heap.size]? = some (.cells #[.int .i64 (q.scheme : Int), .string q.realm, .string q.nonce, .string q.opq, .bool q.sess, .string q.qop, .bool q.stale, .slice fa fl fc] 39 (0, 0)) := heap_alloc_new w5 _
      have HB5 : Hid (Below WA.heap.size WA (w5.alloc (.cells #[.int .i64 (q.scheme : Int), .string q.realm, .string q.nonce, .string q.opq, .bool q.sess, .string q.qop, .bool q.stale, .slice fa fl fc] 39))) := by
        have h1 := HBX.out.trans (hb5.mono HBX.out.size)
        exact h1.trans (hbb.mono h1.size)
      generalize hWB : (w5.alloc (.cells #[.int .i64 (q.scheme : Int), .string q.realm, .string q.nonce, .string q.opq, .bool q.sess, .string q.qop, .bool q.stale, .slice fa fl fc] 39)) = WB at hnb HB5
      obtain ⟨⟨t0, t1, t2, _⟩, _⟩ := eight hnb
      obtain ⟨s0, s1, s2⟩ := HCE.out WB HB5.out
      have hqL : ¬ (B0.scheme : Int) < (q.scheme : Int) := by omega
      clear hown hb5 hbb hnb hhit
      have GO : ∀ v : Bool, (fb || hitB B0 c.x) = v → Hid (((xsOf cs).take (k + 1)).any (hitB B0) = v ∧ Below WA.heap.size WA WB) := fun v hv => ⟨by rw [HNX.out, hv], HB5.out⟩
      cases fb
      · cases qi
        · have HV := GO false (by rw [HHIT.out]; rfl)
          go_wp2
          go_roundw
          case rel => exact ⟨k + 1, _, by omega, by go_num, rfl, HV⟩
          case measure => simp [intOf]; omega
        · obtain rfl := hpos rfl
          cases hs : ((q.scheme : Int) == (B0.scheme : Int))
          · have hne : ¬ q.scheme = B0.scheme := fun e => by rw [e] at hs; simp at hs
            have HV := GO false (by rw [HHIT.out, decide_eq_false hne]; rfl)
            go_wp2
            go_roundw
            case rel => exact ⟨k + 1, _, by omega, by go_num, rfl, HV⟩
            case measure => simp [intOf]; omega
          · have heq : q.scheme = B0.scheme := by have := of_decide_eq_true (by simpa using hs : decide ((q.scheme : Int) = (B0.scheme : Int)) = true); omega
            have HEQ : Hid (q.scheme = B0.scheme) := heq
            clear heq
            cases h1 : (q.realm.toList == B0.realm.toList)
            · have HV := GO false (by rw [HHIT.out, decide_eq_true HEQ.out, h1]; rfl)
              go_wp2
              go_roundw
              case rel => exact ⟨k + 1, _, by omega, by go_num, rfl, HV⟩
              case measure => simp [intOf]; omega
            · cases h2 : (q.nonce.toList == B0.nonce.toList)
              · have HV := GO false (by rw [HHIT.out, decide_eq_true HEQ.out, h1, h2]; rfl)
                go_wp2
                go_roundw
                case rel => exact ⟨k + 1, _, by omega, by go_num, rfl, HV⟩
                case measure => simp [intOf]; omega
              · have HV := GO true (by rw [HHIT.out, decide_eq_true HEQ.out, h1, h2]; rfl)
                go_wp2
                go_roundw
                case rel => exact ⟨k + 1, _, by omega, by go_num, rfl, HV⟩
                case measure => simp [intOf]; omega
      · cases qi
        · have HV := GO true (by rfl)
          go_wp2
          go_roundw
          case rel => exact ⟨k + 1, _, by omega, by go_num, rfl, HV⟩
          case measure => simp [intOf]; omega
        · obtain rfl := hpos rfl
          have HV := GO true (by rfl)
          go_wp2
          go_roundw
          case rel => exact ⟨k + 1, _, by omega, by go_num, rfl, HV⟩
          case measure => simp [intOf]; omega
    · have HFB : Hid (fb = ok) := by
        show _ = _
        have h1 := HI.out.1
        rw [List.take_of_length_le (by rw [xsOf_len]; omega), ← HB0.out, hit_any, HB0.out, HOK.out] at h1
        exact h1.symm
      obtain rfl := HFB.out
      have HBW : Hid (Below w.heap.size w wr) := HBA.out.trans (HI.out.2.mono HBA.out.size)
      have hkL : ¬ (k : Int) < (len : Int) := by omega
      by_cases h0 : 0 < len
      · go_wp2_with fail
        refine (cloneC_any cs a0 len cap b off (by omega) _ (HX.out.below HBW.out) h0).mono ?_
        rintro e w6 ⟨⟨g, cap6, rfl, hown6⟩, hb6⟩
        obtain ⟨hrow, hgB⟩ := rowW_of hl hown6
        have HROW : Hid (RowW w6 g cs) := hrow
        have HB6 : Hid (Below WA.heap.size WA w6 ∧ Below w.heap.size w w6 ∧ wr.heap.size ≤ g) := ⟨HI.out.2.trans (hb6.mono HI.out.2.size), HBW.out.trans (hb6.mono HBW.out.size), hgB⟩
        clear hown6 hb6 hrow hgB
        go_wp2_with fail
        refine (reverseC_any cs g len cap6 hl (by omega) _ HROW.out).mono ?_
        rintro e w7 ⟨rfl, H7⟩
        have HB7 : Hid (Below WA.heap.size WA w7 ∧ Below w.heap.size w w7) := by
          have h1 := HI.out.2.size
          have h2 := HBW.out.size
          have h3 := HB6.out.2.2
          exact ⟨HB6.out.1.grown H7.out.2 HB6.out.1.size (fun i hi => by injection hi with hi; omega), HB6.out.2.1.grown H7.out.2 HB6.out.2.1.size (fun i hi => by injection hi with hi; omega)⟩
        have HC7 : Hid (Chals w7 (some ⟨g, 0, none⟩) len g 0 cs.reverse) := chals_of_row HX.out HB7.out.2 H7.out.1 H7.out.1.lt
        go_wp2_with fail
        refine (best_any cs.reverse (fun c hc => HM.out c (List.mem_reverse.1 hc)) _ _ _ _ _ (by omega) _ HC7.out).mono ?_
        rintro e w8 ⟨⟨dv, rfl, hown8⟩, hb8⟩
        obtain ⟨ga, gc, gg, rfl, _⟩ := hown8.strs
        obtain ⟨R0, HR0⟩ : ∃ R0, Hid (bestL (xsOf cs.reverse) = R0) := ⟨_, rfl⟩
        rw [HR0.out]
        obtain ⟨gl, HGL⟩ : ∃ gl, Hid (R0.domain.length = gl) := ⟨_, rfl⟩
        rw [HGL.out]
        have hRB : R0.scheme = B0.scheme := by rw [← HR0.out, ← HB0.out, xsOf_rev, best_rev]
        have hRok : decide (0 < R0.scheme) = fb := by rw [hRB]; exact HOK.out
        rw [hRok]
        unfold askVal
        have hbr : Below w8.heap.size w8 (w8.alloc (.cells #[.int .i64 (R0.scheme : Int), .string R0.realm, .string R0.nonce, .string R0.opq, .bool R0.sess, .string R0.qop, .bool R0.stale, .slice ga gl gc] 39)) := (Below.refl _ _).alloc (Nat.le_refl _) _
        have hnr : (w8.alloc (.cells #[.int .i64 (R0.scheme : Int), .string R0.realm, .string R0.nonce, .string R0.opq, .bool R0.sess, .string R0.qop, .bool R0.stale, .slice ga gl gc] 39)).heap[w8.heap.size]? = some (.cells #[.int .i64 (R0.scheme : Int), .string R0.realm, .string R0.nonce, .string R0.opq, .bool R0.sess, .string R0.qop, .bool R0.stale, .slice ga gl gc] 39 (0, 0)) := heap_alloc_new w8 _
        have HBR : Hid (Below WA.heap.size WA (w8.alloc (.cells #[.int .i64 (R0.scheme : Int), .string R0.realm, .string R0.nonce, .string R0.opq, .bool R0.sess, .string R0.qop, .bool R0.stale, .slice ga gl gc] 39)) ∧ Below w.heap.size w (w8.alloc (.cells #[.int .i64 (R0.scheme : Int), .string R0.realm, .string R0.nonce, .string R0.opq, .bool R0.sess, .string R0.qop, .bool R0.stale, .slice ga gl gc] 39))) := by
          have h1 := HB7.out.1.trans (hb8.mono HB7.out.1.size)
          have h2 := HB7.out.2.trans (hb8.mono HB7.out.2.size)
          exact ⟨h1.trans (hbr.mono h1.size), h2.trans (hbr.mono h2.size)⟩
        generalize hWR : (w8.alloc (.cells #[.int .i64 (R0.scheme : Int), .string R0.realm, .string R0.nonce, .string R0.opq, .bool R0.sess, .string R0.qop, .bool R0.stale, .slice ga gl gc] 39)) = WR at hnr HBR
        obtain ⟨⟨t0, _⟩, _⟩ := eight hnr
        obtain ⟨s0, _, _⟩ := HCE.out WR HBR.out.1
        rw [hRB] at t0
        have hsc : ((B0.scheme : Int) == (B0.scheme : Int)) = true := by simp
        clear hown8 hb8 hbr hnr hRB hRok
        cases fb
        · go_wp2
          go_ret
          exact ⟨rfl, HBR.out.2⟩
        · go_wp2
          go_ret
          exact ⟨rfl, HBR.out.2⟩
      · obtain rfl : len = 0 := by omega
        go_wp2_with fail
        refine (clone_none a0 cap _).mono ?_
        rintro e w6 ⟨⟨a6, cap6, rfl⟩, hb6⟩
        have HB7 : Hid (Below WA.heap.size WA w6 ∧ Below w.heap.size w w6) := ⟨HI.out.2.trans (hb6.mono HI.out.2.size), HBW.out.trans (hb6.mono HBW.out.size)⟩
        have HC7 : Hid (Chals w6 a6 0 0 0 cs.reverse) := by
          have e0 : cs = [] := List.eq_nil_of_length_eq_zero hl
          subst e0
          exact ⟨rfl, fun h => absurd h (by omega), fun j c h => by simp at h, fun j c h => by simp at h, fun j c h => by simp at h, fun c h => by cases h⟩
        clear hb6
        go_wp2_with fail
        refine (reverse_none a6 cap6 _).mono ?_
        rintro e w7 ⟨rfl, hw⟩
        obtain rfl := hw.symm
        clear hw
        go_wp2_with fail
        refine (best_any cs.reverse (fun c hc => HM.out c (List.mem_reverse.1 hc)) _ _ _ _ _ (by omega) _ HC7.out).mono ?_
        rintro e w8 ⟨⟨dv, rfl, hown8⟩, hb8⟩
        obtain ⟨ga, gc, gg, rfl, _⟩ := hown8.strs
        obtain ⟨R0, HR0⟩ : ∃ R0, Hid (bestL (xsOf cs.reverse) = R0) := ⟨_, rfl⟩
        rw [HR0.out]
        obtain ⟨gl, HGL⟩ : ∃ gl, Hid (R0.domain.length = gl) := ⟨_, rfl⟩
        rw [HGL.out]
        have hRB : R0.scheme = B0.scheme := by rw [← HR0.out, ← HB0.out, xsOf_rev, best_rev]
        have hRok : decide (0 < R0.scheme) = fb := by rw [hRB]; exact HOK.out
        rw [hRok]
        unfold askVal
        have hbr : Below w8.heap.size w8 (w8.alloc (.cells #[.int .i64 (R0.scheme : Int), .string R0.realm, .string R0.nonce, .string R0.opq, .bool R0.sess, .string R0.qop, .bool R0.stale, .slice ga gl gc] 39)) := (Below.refl _ _).alloc (Nat.le_refl _) _
        have hnr : (w8.alloc (.cells #[.int .i64 (R0.scheme : Int), .string R0.realm, .string R0.nonce, .string R0.opq, .bool R0.sess, .string R0.qop, .bool R0.stale, .slice ga gl gc] 39)).heap[w8.heap.size]? = some (.cells #[.int .i64 (R0.scheme : Int), .string R0.realm, .string R0.nonce, .string R0.opq, .bool R0.sess, .string R0.qop, .bool R0.stale, .slice ga gl gc] 39 (0, 0)) := heap_alloc_new w8 _
        have HBR : Hid (Below WA.heap.size WA (w8.alloc (.cells #[.int .i64 (R0.scheme : Int), .string R0.realm, .string R0.nonce, .string R0.opq, .bool R0.sess, .string R0.qop, .bool R0.stale, .slice ga gl gc] 39)) ∧ Below w.heap.size w (w8.alloc (.cells #[.int .i64 (R0.scheme : Int), .string R0.realm, .string R0.nonce, .string R0.opq, .bool R0.sess, .string R0.qop, .bool R0.stale, .slice ga gl gc] 39))) := by
          have h1 := HB7.out.1.trans (hb8.mono HB7.out.1.size)
          have h2 := HB7.out.2.trans (hb8.mono HB7.out.2.size)
          exact ⟨h1.trans (hbr.mono h1.size), h2.trans (hbr.mono h2.size)⟩
        generalize hWR : (w8.alloc (.cells #[.int .i64 (R0.scheme : Int), .string R0.realm, .string R0.nonce, .string R0.opq, .bool R0.sess, .string R0.qop, .bool R0.stale, .slice ga gl gc] 39)) = WR at hnr HBR
        obtain ⟨⟨t0, _⟩, _⟩ := eight hnr
        obtain ⟨s0, _, _⟩ := HCE.out WR HBR.out.1
        rw [hRB] at t0
        have hsc : ((B0.scheme : Int) == (B0.scheme : Int)) = true := by simp
        clear hown8 hb8 hbr hnr hRB hRok
        cases fb
        · go_wp2
          go_ret
          exact ⟨rfl, HBR.out.2⟩
        · go_wp2
          go_ret
          exact ⟨rfl, HBR.out.2⟩
end Go.Proofs.YteldgpkkgnfiaabDoor
