/- The best of challenges, by the program. -/
import Derived.Test.YtooaiamfbmjmnaaGreatDoorKnw
namespace Go.Proofs.YtooaiamfbmjmnaaGreatDoor
open Go.RowKit

def knownV (x : Chal) : AskV := (knownL x).getD zeroA
def betterV (b : AskV) (x : Chal) : AskV := if b.scheme < (knownV x).scheme then knownV x else b
/-- The strongest of what challenges ask for, the first one of these. -/
def bestL (xs : List Chal) : AskV := xs.foldl betterV zeroA
theorem bestL_snoc (xs : List Chal) (k : Nat) (x : Chal) (h : xs[k]? = some x) : bestL (xs.take (k + 1)) = betterV (bestL (xs.take k)) x := by
  obtain ⟨hk, e⟩ := List.getElem?_eq_some_iff.1 h
  unfold bestL
  rw [List.take_succ_eq_append_getElem hk, List.foldl_append, e]
  rfl
theorem knownV_le (x : Chal) : (knownV x).scheme ≤ 3 := by
  unfold knownV
  rcases h : knownL x with _ | a
  · exact Nat.zero_le _
  · exact (known_le x a h).2
theorem best_le (xs : List Chal) : (bestL xs).scheme ≤ 3 := by
  have : ∀ (xs : List Chal) (b : AskV), b.scheme ≤ 3 → (xs.foldl betterV b).scheme ≤ 3 := fun xs => by
    induction xs with
    | nil => intro b hb; exact hb
    | cons x r ih =>
      intro b hb
      refine ih _ ?_
      unfold betterV
      split
      · exact knownV_le x
      · exact hb
  exact this xs zeroA (Nat.zero_le _)
/-- What Best answers. -/
def BsAns (b : AskV) (B : Nat) (e : Ending) (w' : World) : Prop :=
  ∃ dv, e = .returned (.tuple #[askVal b dv, .bool (decide (0 < b.scheme))]) ∧ OwnS w' B dv b.domain
def askCells (b : AskV) (dv : Value) : Array Value := #[.int .i64 (b.scheme : Int), .string b.realm, .string b.nonce, .string b.opq, .bool b.sess, .string b.qop, .bool b.stale, dv]
set_option maxRecDepth 100000 in
set_option maxHeartbeats 4000000 in
theorem best_any (cs : List ChV) (hm : ∀ c ∈ cs, Mild c.x) (a0 : Option Addr) (len cap b off : Nat) (hlen : len ≤ 1000000) (w : World) (hx : Chals w a0 len b off cs) :
    Calls Tryz.prog 18 #[.slice a0 len cap] w fun e w' => BsAns (bestL (xsOf cs)) w.heap.size e w' ∧ Below w.heap.size w w' := by
  have HX : Hid (Chals w a0 len b off cs) := hx
  have HM : Hid (∀ c ∈ cs, Mild c.x) := hm
  have hl := hx.len_eq
  have hz1 : (w.alloc (.cells zeroCells 34)).heap.size = w.heap.size + 1 := by simp
  have HS : Hid (((w.alloc (.cells zeroCells 34)).alloc (.cells zeroCells 34)).heap[w.heap.size + 1]? = some (.cells (askCells zeroA (.slice none 0 0)) 34 (0, 0)) ∧ ((w.alloc (.cells zeroCells 34)).alloc (.cells zeroCells 34)).heap[w.heap.size]? = some (.cells zeroCells 34 (0, 0)) ∧ Below w.heap.size w ((w.alloc (.cells zeroCells 34)).alloc (.cells zeroCells 34))) := by
    refine ⟨?_, ?_, ((Below.refl _ _).alloc (Nat.le_refl _) _).alloc (by simp) _⟩
    · rw [← hz1]; exact heap_alloc_new _ _
    · exact (((Below.refl _ _).alloc (Nat.le_refl _) _ : Below (w.alloc (.cells zeroCells 34)).heap.size (w.alloc (.cells zeroCells 34)) ((w.alloc (.cells zeroCells 34)).alloc (.cells zeroCells 34))).block w.heap.size (by simp)).trans (heap_alloc_new _ _)
  unfold zeroCells at HS
  clear hx hm hz1
  go_enter Tryz.func18, Tryz.ntmps18
  go_wp2
  go_loopw [11] (fun i wr => ∃ (k : Nat) (da : Option Addr) (dk dc : Nat), k ≤ len ∧ i = .int .i64 k ∧ Hid (wr.heap[w.heap.size + 1]? = some (.cells (askCells (bestL ((xsOf cs).take k)) (.slice da dk dc)) 34 (0, 0)) ∧ wr.heap[w.heap.size]? = some (.cells zeroCells 34 (0, 0)) ∧ OwnS wr (w.heap.size + 2) (.slice da dk dc) (bestL ((xsOf cs).take k)).domain ∧ Below w.heap.size w wr)) (fun i _ => len - (intOf i).toNat)
  case atStart => exact ⟨0, none, 0, 0, Nat.zero_le _, rfl, ⟨HS.out.1, HS.out.2.1, ownS_nil _ _, HS.out.2.2⟩⟩
  case round =>
    obtain ⟨k, da, dk, dc, hk, rfl, HI⟩ := hrel
    have hwl : w.heap.size + 1 < wr.heap.size := (Array.getElem?_eq_some_iff.1 HI.out.1).1
    obtain ⟨B0, HB⟩ : ∃ B0, Hid (bestL ((xsOf cs).take k) = B0) := ⟨_, rfl⟩
    have hB3 : B0.scheme ≤ 3 := by rw [← HB.out]; exact best_le _
    rw [HB.out] at HI
    by_cases hlt : k < len
    · obtain ⟨c, hck⟩ : ∃ c, cs[k]? = some c := ⟨cs[k]'(by omega), List.getElem?_eq_getElem (by omega)⟩
      have HNX : Hid (bestL ((xsOf cs).take (k + 1)) = betterV B0 c.x) := by show _ = _; rw [bestL_snoc _ _ _ (xsOf_at hck), HB.out]
      have hX := HX.out.below HI.out.2.2.2
      obtain ⟨ha0, hbl⟩ := hX.lies (by omega)
      have hc1 := hX.one k c hck
      have hc2 := hX.two k c hck
      have hc3 := hX.three k c hck
      have HMC : Hid (Mild c.x) := HM.out c (List.mem_of_getElem? hck)
      have hb1 : Below wr.heap.size wr (wr.alloc (.cells #[.string c.x.scheme, .string c.x.token, .slice c.a c.len c.cap] 24)) := (Below.refl _ _).alloc (Nat.le_refl _) _
      have HOK : Hid (ChOk (wr.alloc (.cells #[.string c.x.scheme, .string c.x.token, .slice c.a c.len c.cap] 24)) c) := (hX.pars c (List.mem_of_getElem? hck)).below hb1
      have HI1 : Hid ((wr.alloc (.cells #[.string c.x.scheme, .string c.x.token, .slice c.a c.len c.cap] 24)).heap[w.heap.size + 1]? = some (.cells (askCells B0 (.slice da dk dc)) 34 (0, 0)) ∧ (wr.alloc (.cells #[.string c.x.scheme, .string c.x.token, .slice c.a c.len c.cap] 24)).heap[w.heap.size]? = some (.cells zeroCells 34 (0, 0)) ∧ OwnS (wr.alloc (.cells #[.string c.x.scheme, .string c.x.token, .slice c.a c.len c.cap] 24)) (w.heap.size + 2) (.slice da dk dc) B0.domain ∧ Below w.heap.size w (wr.alloc (.cells #[.string c.x.scheme, .string c.x.token, .slice c.a c.len c.cap] 24))) :=
        ⟨(hb1.block _ hwl).trans HI.out.1, (hb1.block _ (by omega)).trans HI.out.2.1, HI.out.2.2.1.below hb1, HI.out.2.2.2.trans (hb1.mono HI.out.2.2.2.size)⟩
      have HWZ : Hid (w.heap.size + 2 ≤ (wr.alloc (.cells #[.string c.x.scheme, .string c.x.token, .slice c.a c.len c.cap] 24)).heap.size) := by show _ ≤ _; simp; omega
      subst ha0
      clear hck hX hb1
      go_wp2_with fail
      refine (known_any c HMC.out _ HOK.out).mono ?_
      rintro e w2 ⟨⟨dv, rfl, hown⟩, hb2⟩
      obtain ⟨ea, ec, eg, rfl, _⟩ := hown.strs
      obtain ⟨q, HQ⟩ : ∃ q, Hid ((knownL c.x).getD zeroA = q) := ⟨_, rfl⟩
      obtain ⟨qi, HQI⟩ : ∃ q, Hid ((knownL c.x).isSome = q) := ⟨_, rfl⟩
      have hq3 : q.scheme ≤ 3 := by rw [← HQ.out]; exact knownV_le c.x
      have HQV : Hid (knownV c.x = q) := HQ
      rw [HQ.out] at hown ⊢
      rw [HQI.out]
      obtain ⟨el, HEL⟩ : ∃ el, Hid (q.domain.length = el) := ⟨_, rfl⟩
      rw [HEL.out] at hown ⊢
      unfold askVal
      have hl1 : w.heap.size + 1 < (wr.alloc (.cells #[.string c.x.scheme, .string c.x.token, .slice c.a c.len c.cap] 24)).heap.size := by have := HWZ.out; omega
      have HI2 : Hid (w2.heap[w.heap.size + 1]? = some (.cells (askCells B0 (.slice da dk dc)) 34 (0, 0)) ∧ w2.heap[w.heap.size]? = some (.cells zeroCells 34 (0, 0)) ∧ OwnS w2 (w.heap.size + 2) (.slice da dk dc) B0.domain ∧ Below w.heap.size w w2 ∧ OwnS w2 (w.heap.size + 2) (.slice ea el ec) q.domain) :=
        ⟨(hb2.block _ hl1).trans HI1.out.1, (hb2.block _ (by omega)).trans HI1.out.2.1, HI1.out.2.2.1.below hb2, HI1.out.2.2.2.trans (hb2.mono HI1.out.2.2.2.size), World.ownsRow.mono hown HWZ.out⟩
      have hl2 : w.heap.size + 1 < w2.heap.size := (Array.getElem?_eq_some_iff.1 HI2.out.1).1
      clear hown hb2 HI1 HOK hl1
      have hb3 : Below w2.heap.size w2 (w2.alloc (.cells #[.int .i64 (q.scheme : Int), .string q.realm, .string q.nonce, .string q.opq, .bool q.sess, .string q.qop, .bool q.stale, .slice ea el ec] 34)) := (Below.refl _ _).alloc (Nat.le_refl _) _
      have HI3 : Hid ((w2.alloc (.cells #[.int .i64 (q.scheme : Int), .string q.realm, .string q.nonce, .string q.opq, .bool q.sess, .string q.qop, .bool q.stale, .slice ea el ec] 34)).heap[w.heap.size + 1]? = some (.cells (askCells B0 (.slice da dk dc)) 34 (0, 0)) ∧ (w2.alloc (.cells #[.int .i64 (q.scheme : Int), .string q.realm, .string q.nonce, .string q.opq, .bool q.sess, .string q.qop, .bool q.stale, .slice ea el ec] 34)).heap[w.heap.size]? = some (.cells zeroCells 34 (0, 0)) ∧ OwnS (w2.alloc (.cells #[.int .i64 (q.scheme : Int), .string q.realm, .string q.nonce, .string q.opq, .bool q.sess, .string q.qop, .bool q.stale, .slice ea el ec] 34)) (w.heap.size + 2) (.slice da dk dc) B0.domain ∧ Below w.heap.size w (w2.alloc (.cells #[.int .i64 (q.scheme : Int), .string q.realm, .string q.nonce, .string q.opq, .bool q.sess, .string q.qop, .bool q.stale, .slice ea el ec] 34)) ∧ OwnS (w2.alloc (.cells #[.int .i64 (q.scheme : Int), .string q.realm, .string q.nonce, .string q.opq, .bool q.sess, .string q.qop, .bool q.stale, .slice ea el ec] 34)) (w.heap.size + 2) (.slice ea el ec) q.domain) :=
        ⟨(hb3.block _ hl2).trans HI2.out.1, (hb3.block _ (by omega)).trans HI2.out.2.1, HI2.out.2.2.1.below hb3, HI2.out.2.2.2.1.trans (hb3.mono HI2.out.2.2.2.1.size), HI2.out.2.2.2.2.below hb3⟩
      have hnew : (w2.alloc (.cells #[.int .i64 (q.scheme : Int), .string q.realm, .string q.nonce, .string q.opq, .bool q.sess, .string q.qop, .bool q.stale, .slice ea el ec] 34)).heap[w2.heap.size]? = some (.cells #[.int .i64 (q.scheme : Int), .string q.realm, .string q.nonce, .string q.opq, .bool q.sess, .string q.qop, .bool q.stale, .slice ea el ec] 34 (0, 0)) := heap_alloc_new w2 _
      have HZ3 : Hid (w2.heap.size ≤ (w2.alloc (.cells #[.int .i64 (q.scheme : Int), .string q.realm, .string q.nonce, .string q.opq, .bool q.sess, .string q.qop, .bool q.stale, .slice ea el ec] 34)).heap.size) := hb3.size
      clear hb3
      generalize hW3 : w2.alloc (.cells #[.int .i64 (q.scheme : Int), .string q.realm, .string q.nonce, .string q.opq, .bool q.sess, .string q.qop, .bool q.stale, .slice ea el ec] 34) = W3 at HI3 hnew HZ3
      have hbest := HI3.out.1
      unfold askCells at hbest
      obtain ⟨⟨s0, s1, s2, s3, s4, s5, s6, s7⟩, sf⟩ := eight hbest
      obtain ⟨⟨t0, t1, t2, t3, t4, t5, t6, t7⟩, tf⟩ := eight hnew
      have HBEST : Hid (W3.heap[w.heap.size + 1]? = some (.cells #[.int .i64 (B0.scheme : Int), .string B0.realm, .string B0.nonce, .string B0.opq, .bool B0.sess, .string B0.qop, .bool B0.stale, .slice da dk dc] 34 (0, 0))) := hbest
      clear hbest hnew
      by_cases hgt : B0.scheme < q.scheme
      · have hgt' : (B0.scheme : Int) < (q.scheme : Int) := by omega
        have HBV : Hid (betterV B0 c.x = q) := by show _ = _; unfold betterV; rw [HQV.out, if_pos hgt]
        go_wp2
        have z1 := setEight_at HBEST.out (.int .i64 (q.scheme : Int)) (.string q.realm) (.string q.nonce) (.string q.opq) (.bool q.sess) (.string q.qop) (.bool q.stale) (.slice ea el ec)
        have z2 := setEight_grown W3 (w.heap.size + 1) (.int .i64 (q.scheme : Int)) (.string q.realm) (.string q.nonce) (.string q.opq) (.bool q.sess) (.string q.qop) (.bool q.stale) (.slice ea el ec)
        unfold setEight at z1 z2
        have h0 := (z2.block w.heap.size (by have := HZ3.out; omega) (by intro e; injection e with e; omega)).trans HI3.out.2.1
        have h1 := HI3.out.2.2.2.2.grown z2 (by omega)
        have h2 := HI3.out.2.2.2.1.grown z2 HI3.out.2.2.2.1.size (fun i hi => by injection hi with hi; omega)
        go_roundw
        case rel => exact ⟨k + 1, ea, el, ec, by omega, by go_num, ⟨by rw [HNX.out, HBV.out]; exact z1, h0, by rw [HNX.out, HBV.out]; exact h1, h2⟩⟩
        case measure => simp [intOf]; omega
      · have hgt' : ¬ (B0.scheme : Int) < (q.scheme : Int) := by omega
        have HBV : Hid (betterV B0 c.x = B0) := by show _ = _; unfold betterV; rw [HQV.out, if_neg hgt]
        go_wp2
        go_roundw
        case rel => exact ⟨k + 1, da, dk, dc, by omega, by go_num, ⟨by rw [HNX.out, HBV.out]; exact HI3.out.1, HI3.out.2.1, by rw [HNX.out, HBV.out]; exact HI3.out.2.2.1, HI3.out.2.2.2.1⟩⟩
        case measure => simp [intOf]; omega
    · have HE : Hid (bestL (xsOf cs) = B0) := by
        show _ = _
        rw [← HB.out, List.take_of_length_le (by unfold xsOf; simp; omega)]
      have hbest := HI.out.1
      have hres := HI.out.2.1
      unfold askCells at hbest
      unfold zeroCells at hres
      obtain ⟨⟨s0, s1, s2, s3, s4, s5, s6, s7⟩, sf⟩ := eight hbest
      obtain ⟨⟨r0, r1, r2, r3, r4, r5, r6, r7⟩, rf⟩ := eight hres
      have HRES : Hid (wr.heap[w.heap.size]? = some (.cells #[.int .i64 0, .string ⟨#[]⟩, .string ⟨#[]⟩, .string ⟨#[]⟩, .bool false, .string ⟨#[]⟩, .bool false, .slice none 0 0] 34 (0, 0))) := hres
      clear hbest hres
      go_wp2
      go_region
      go_wp2
      have z1 := setEight_at HRES.out (.int .i64 (B0.scheme : Int)) (.string B0.realm) (.string B0.nonce) (.string B0.opq) (.bool B0.sess) (.string B0.qop) (.bool B0.stale) (.slice da dk dc)
      have z2 := setEight_grown wr w.heap.size (.int .i64 (B0.scheme : Int)) (.string B0.realm) (.string B0.nonce) (.string B0.opq) (.bool B0.sess) (.string B0.qop) (.bool B0.stale) (.slice da dk dc)
      obtain ⟨Y, hY⟩ : ∃ Y, setEight wr w.heap.size (.int .i64 (B0.scheme : Int)) (.string B0.realm) (.string B0.nonce) (.string B0.opq) (.bool B0.sess) (.string B0.qop) (.bool B0.stale) (.slice da dk dc) = Y := ⟨_, rfl⟩
      rw [hY] at z1 z2
      unfold setEight at hY
      rw [hY]
      clear hY
      have hd : Below Y.heap.size Y Y.drew := ⟨rfl, rfl, rfl, Nat.le_refl _, fun _ _ => rfl⟩
      have z3 : Y.drew.heap[w.heap.size]? = some (.cells #[.int .i64 (B0.scheme : Int), .string B0.realm, .string B0.nonce, .string B0.opq, .bool B0.sess, .string B0.qop, .bool B0.stale, .slice da dk dc] 34 (0, 0)) := z1
      obtain ⟨⟨e0, e1, e2, e3, e4, e5, e6, e7⟩, _⟩ := eight z3
      have ho := (HI.out.2.2.1.grown z2 (by omega)).below hd
      have hb := HI.out.2.2.2.grown z2 HI.out.2.2.2.size (fun i hi => by injection hi with hi; omega)
      have hbd := hb.trans (hd.mono hb.size)
      exact bodyPost_ret (v := .tuple #[.agg #[.int .i64 (B0.scheme : Int), .string B0.realm, .string B0.nonce, .string B0.opq, .bool B0.sess, .string B0.qop, .bool B0.stale, .slice da dk dc], .bool (decide (0 < B0.scheme))]) (by simp [results, Tryz.f18, go_sem, e0, e1, e2, e3, e4, e5, e6, e7]) rfl ⟨⟨.slice da dk dc, by rw [HE.out]; rfl, by rw [HE.out]; exact World.ownsRow.mono ho (by omega)⟩, hbd⟩
end Go.Proofs.YtooaiamfbmjmnaaGreatDoor
