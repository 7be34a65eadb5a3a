/- The law ResponseBlind, walked. -/
import Derived.Test.YthhbfnfgbonakabDoorPrvd
import Derived.Test.YthhbfnfgbonakabDoorPick
import Derived.Test.YthhbfnfgbonakabDoorSml
import Derived.Test.YthhbfnfgbonakabDoorArgA
namespace Go.Proofs.YthhbfnfgbonakabDoor
open Go.RowKit

/-- What is kept of what came in: each cell. -/
structure AcK (w W : World) (a : PfA) (st : Bool) (dv : Value) (u p : ByteArray) : Prop where
  c0 : W.cell? ⟨w.heap.size, 0, none⟩ = some (.int .i64 a.scheme)
  c1 : W.cell? ⟨w.heap.size, 1, none⟩ = some (.string a.realm)
  c2 : W.cell? ⟨w.heap.size, 2, none⟩ = some (.string a.nonce)
  c3 : W.cell? ⟨w.heap.size, 3, none⟩ = some (.string a.opq)
  c4 : W.cell? ⟨w.heap.size, 4, none⟩ = some (.bool a.sess)
  c5 : W.cell? ⟨w.heap.size, 5, none⟩ = some (.string a.qop)
  c6 : W.cell? ⟨w.heap.size, 6, none⟩ = some (.bool st)
  c7 : W.cell? ⟨w.heap.size, 7, none⟩ = some dv
  d0 : W.cell? ⟨w.heap.size + 1, 0, none⟩ = some (.string u)
  d1 : W.cell? ⟨w.heap.size + 1, 1, none⟩ = some (.string p)
  lt : w.heap.size + 1 < W.heap.size
  bel : Below w.heap.size w W
  tabs : Tabs W
theorem AcK.below {w W W' : World} {a : PfA} {st : Bool} {dv : Value} {u p : ByteArray} (h : AcK w W a st dv u p) (hb : Below W.heap.size W W') : AcK w W' a st dv u p := by
  have hl := h.lt
  have k : ∀ (b i : Nat), b < W.heap.size → W'.cell? ⟨b, i, none⟩ = W.cell? ⟨b, i, none⟩ := fun b i hlt => hb.cell (p := ⟨b, i, none⟩) hlt
  exact ⟨by rw [k _ _ (by omega)]; exact h.c0, by rw [k _ _ (by omega)]; exact h.c1, by rw [k _ _ (by omega)]; exact h.c2, by rw [k _ _ (by omega)]; exact h.c3, by rw [k _ _ (by omega)]; exact h.c4, by rw [k _ _ (by omega)]; exact h.c5, by rw [k _ _ (by omega)]; exact h.c6, by rw [k _ _ (by omega)]; exact h.c7, by rw [k _ _ (by omega)]; exact h.d0, by rw [k _ _ (by omega)]; exact h.d1, Nat.lt_of_lt_of_le hl hb.size, h.bel.trans (hb.mono h.bel.size), h.tabs.below hb⟩
theorem acK_start (w : World) (a : PfA) (st : Bool) (dv : Value) (u p : ByteArray) (HT : Hid (Tabs w)) : AcK w ((w.alloc (.cells #[.int .i64 a.scheme, .string a.realm, .string a.nonce, .string a.opq, .bool a.sess, .string a.qop, .bool st, dv] 24)).alloc (.cells #[.string u, .string p] 26)) a st dv u p := by
  have hb1 : Below w.heap.size w (w.alloc (.cells #[.int .i64 a.scheme, .string a.realm, .string a.nonce, .string a.opq, .bool a.sess, .string a.qop, .bool st, dv] 24)) := (Below.refl _ _).alloc (Nat.le_refl _) _
  have hz : (w.alloc (.cells #[.int .i64 a.scheme, .string a.realm, .string a.nonce, .string a.opq, .bool a.sess, .string a.qop, .bool st, dv] 24)).heap.size = w.heap.size + 1 := by simp
  have hc : ∀ i, (w.alloc (.cells #[.int .i64 a.scheme, .string a.realm, .string a.nonce, .string a.opq, .bool a.sess, .string a.qop, .bool st, dv] 24)).cell? ⟨w.heap.size, i, none⟩ = #[.int .i64 a.scheme, .string a.realm, .string a.nonce, .string a.opq, .bool a.sess, .string a.qop, .bool st, dv][i]? := fun i => World.cell?_alloc_mark _ _ _ _ _
  generalize (w.alloc (.cells #[.int .i64 a.scheme, .string a.realm, .string a.nonce, .string a.opq, .bool a.sess, .string a.qop, .bool st, dv] 24)) = W1 at hb1 hz hc ⊢
  have hb2 : Below W1.heap.size W1 (W1.alloc (.cells #[.string u, .string p] 26)) := (Below.refl _ _).alloc (Nat.le_refl _) _
  have hd : ∀ i, (W1.alloc (.cells #[.string u, .string p] 26)).cell? ⟨W1.heap.size, i, none⟩ = #[.string u, .string p][i]? := fun i => World.cell?_alloc_mark _ _ _ _ _
  rw [hz] at hd
  have k : ∀ (i : Nat), (W1.alloc (.cells #[.string u, .string p] 26)).cell? ⟨w.heap.size, i, none⟩ = W1.cell? ⟨w.heap.size, i, none⟩ := fun i => hb2.cell (p := ⟨w.heap.size, i, none⟩) (by show w.heap.size < _; omega)
  exact ⟨by rw [k, hc]; rfl, by rw [k, hc]; rfl, by rw [k, hc]; rfl, by rw [k, hc]; rfl, by rw [k, hc]; rfl, by rw [k, hc]; rfl, by rw [k, hc]; rfl, by rw [k, hc]; rfl, by rw [hd]; rfl, by rw [hd]; rfl, by simp [hz], hb1.trans (hb2.mono hb1.size), (HT.out.below hb1).below hb2⟩
theorem resp_body (a : PfA) (u p m t b1 b2 c : ByteArray) (n : Nat) (h : a.qop.data.toList ≠ qInt) : respL a ⟨u, p, m, t, b1, c⟩ n = respL a ⟨u, p, m, t, b2, c⟩ n := by
  unfold respL oneL twoL whoL
  simp only [if_neg h]
theorem resp_cnonce (a : PfA) (u p m t b c1 c2 : ByteArray) (n k : Nat) (h : a.qop.data.toList = []) (hs : a.sess = false) : respL a ⟨u, p, m, t, b, c1⟩ n = respL a ⟨u, p, m, t, b, c2⟩ k := by
  unfold respL oneL twoL whoL
  rw [if_pos h, if_pos h, hs]
  simp only [Bool.false_eq_true, if_false]
theorem small6 (x0 x1 x2 x3 x4 x5 : ByteArray) (W : World) (o : Nat) (ho : o = W.heap.size) : ∀ (j : Nat) x, [x0, x1, x2, x3, x4, x5][j]? = some x → (W.alloc (.cells #[.string x0, .string x1, .string x2, .string x3, .string x4, .string x5] 9)).cell? ⟨o, j, none⟩ = some (.string x) := by
  subst ho
  intro j x hj
  rw [World.cell?_alloc_mark]
  match j, hj with
  | 0, h => cases h; rfl
  | 1, h => cases h; rfl
  | 2, h => cases h; rfl
  | 3, h => cases h; rfl
  | 4, h => cases h; rfl
  | 5, h => cases h; rfl
  | j + 6, h => simp at h
set_option maxRecDepth 100000 in
set_option maxHeartbeats 4000000 in
theorem blind_walk (a : PfA) (st : Bool) (dv : Value) (za : AskZ a) (u p : ByteArray) (zc : CredZ u p) (m : ByteArray) (zm : m.size ≤ 140737488355328) (t : ByteArray) (zt : t.size ≤ 140737488355328) (b1 : ByteArray) (zb1 : b1.size ≤ 140737488355328) (b2 : ByteArray) (zb2 : b2.size ≤ 140737488355328)
    (n1 : ByteArray) (zn1 : n1.size ≤ 140737488355328) (n2 : ByteArray) (zn2 : n2.size ≤ 140737488355328) (k : Int) (k0 : -9223372036854775808 ≤ k) (k1 : k ≤ 9223372036854775807) (l : Int) (l0 : -9223372036854775808 ≤ l) (l1 : l ≤ 9223372036854775807) (w : World) (HT : Hid (Tabs w)) :
    Calls Tryd.prog 3 #[.agg #[.int .i64 a.scheme, .string a.realm, .string a.nonce, .string a.opq, .bool a.sess, .string a.qop, .bool st, dv], .agg #[.string u, .string p], .string m, .string t, .string b1, .string b2, .string n1, .string n2, .int .i64 k, .int .i64 l] w fun e w' => e = .returned (.bool true) ∧ Below w.heap.size w w' := by
  have HK0 : Hid (AcK w _ a st dv u p) := acK_start w a st dv u p HT
  have hsm := small_any a st dv u p za zc [m, t, b1, b2, n1, n2] (by intro x hx; simp at hx; rcases hx with rfl | rfl | rfl | rfl | rfl | rfl <;> assumption)
  obtain ⟨kk, hkk⟩ := Int.eq_ofNat_of_zero_le (pickI_in k 1000 (by omega)).1
  obtain ⟨ll, hll⟩ := Int.eq_ofNat_of_zero_le (pickI_in l 1000 (by omega)).1
  have hk2 : kk < 1000 := by have := (pickI_in k 1000 (by omega)).2; omega
  have hl2 : ll < 1000 := by have := (pickI_in l 1000 (by omega)).2; omega
  have hp1 := fun w => pick_any k 1000 k0 k1 (by omega) (by omega) w
  have hp2 := fun w => pick_any l 1000 l0 l1 (by omega) (by omega) w
  rw [hkk] at hp1
  rw [hll] at hp2
  clear hkk hll zm zt zb1 zb2 zn1 zn2 za zc
  go_enter Tryd.func3, Tryd.ntmps3
  go_wp2_with fail
  generalize ((w.alloc (.cells #[.int .i64 a.scheme, .string a.realm, .string a.nonce, .string a.opq, .bool a.sess, .string a.qop, .bool st, dv] 24)).alloc (.cells #[.string u, .string p] 26)) = W0 at HK0 ⊢
  refine (proved_any _ HK0.out.tabs).mono ?_
  rintro e w1 ⟨rfl, hb1⟩
  have HK1 : Hid (AcK w w1 a st dv u p) := HK0.out.below hb1
  clear hb1
  obtain ⟨c0, c1, c2, c3, c4, c5, c6, c7, d0, d1, _, _, _⟩ := HK1.out
  go_wp2_with fail
  refine (hsm w1.heap.size 6 6 rfl (by omega) _ (by simp) (small6 m t b1 b2 n1 n2 w1 _ rfl)).mono ?_
  rintro e w2 ⟨rfl, hb2⟩
  have hb2' : Below w1.heap.size w1 w2 := ((Below.refl _ _).alloc (Nat.le_refl _) _).trans (hb2.mono (by simp))
  have HK2 : Hid (AcK w w2 a st dv u p) := HK1.out.below hb2'
  clear hb2 hb2' c0 c1 c2 c3 c4 c5 c6 c7 d0 d1 hsm
  obtain ⟨c0, c1, c2, c3, c4, c5, c6, c7, d0, d1, _, _, _⟩ := HK2.out
  cases hs : smallB a u p [m, t, b1, b2, n1, n2]
  · go_wp2
    go_ret
    exact ⟨rfl, HK2.out.bel⟩
  · have htot : totZ a u p + sumZ [m, t, b1, b2, n1, n2] ≤ 500 := of_decide_eq_true hs
    simp only [totZ, sumZ] at htot
    have r1 := fun w HT => resp_any a ⟨u, p, m, t, b1, n1⟩ st dv kk (by omega) (by unfold Fits; simp only; omega) w HT
    have r2 := fun w HT => resp_any a ⟨u, p, m, t, b2, n1⟩ st dv kk (by omega) (by unfold Fits; simp only; omega) w HT
    have r3 := fun w HT => resp_any a ⟨u, p, m, t, b1, n2⟩ st dv ll (by omega) (by unfold Fits; simp only; omega) w HT
    simp only at r1 r2 r3
    clear hs htot
    obtain ⟨X, HX⟩ : ∃ X, Hid (bs (respL a ⟨u, p, m, t, b1, n1⟩ kk) = X) := ⟨_, rfl⟩
    rw [HX.out] at r1
    have HI : Hid (a.qop.data.toList ≠ qInt → bs (respL a ⟨u, p, m, t, b2, n1⟩ kk) = X) := fun h => by rw [← resp_body a u p m t b1 b2 n1 kk h, HX.out]
    have HN : Hid (a.qop.data.toList = [] → a.sess = false → bs (respL a ⟨u, p, m, t, b1, n2⟩ ll) = X) := fun h h2 => by rw [← resp_cnonce a u p m t b1 n1 n2 kk ll h h2, HX.out]
    go_wp2_with fail
    refine (hp1 _).mono ?_
    rintro e w' ⟨rfl, rfl⟩
    go_wp2_with fail
    refine (hp2 _).mono ?_
    rintro e w' ⟨rfl, rfl⟩
    go_wp2_with fail
    refine (r1 _ HK2.out.tabs).mono ?_
    rintro e w3 ⟨rfl, hb3⟩
    have HK3 : Hid (AcK w w3 a st dv u p) := HK2.out.below hb3
    clear hb3 c0 c1 c2 c3 c4 c5 c6 c7 d0 d1 r1
    obtain ⟨c0, c1, c2, c3, c4, c5, c6, c7, d0, d1, _, _, _⟩ := HK3.out
    by_cases hi : a.qop.data.toList = qInt
    · have hqe := eq_int _ hi
      rw [hqe] at c5
      clear hi
      go_wp2
      go_ret
      exact ⟨by first | rfl | simp, HK3.out.bel⟩
    · rw [HI.out hi] at r2
      have hq1 := not_list a.qop _ hi
      unfold qInt at hq1
      by_cases hq : a.qop.data.toList = []
      · have hqe : a.qop = ⟨#[]⟩ := by rw [← bs_self a.qop, hq]; rfl
        have HQE : Hid (a.qop = ⟨#[]⟩) := hqe
        have hr2 : ∀ w, Hid (Tabs w) → Calls Tryd.prog 7 #[.agg #[.int .i64 a.scheme, .string a.realm, .string a.nonce, .string a.opq, .bool a.sess, .string ⟨#[]⟩, .bool st, dv], .agg #[.string u, .string p], .string m, .string t, .string b2, .string n1, .int .i64 (kk : Int)] w fun e w' => e = .returned (.string X) ∧ Below w.heap.size w w' := fun w HT => by rw [← HQE.out]; exact r2 w HT
        rw [hqe] at c5
        cases hse : a.sess
        · rw [HN.out hq hse] at r3
          have hr3 : ∀ w, Hid (Tabs w) → Calls Tryd.prog 7 #[.agg #[.int .i64 a.scheme, .string a.realm, .string a.nonce, .string a.opq, .bool false, .string ⟨#[]⟩, .bool st, dv], .agg #[.string u, .string p], .string m, .string t, .string b1, .string n2, .int .i64 (ll : Int)] w fun e w' => e = .returned (.string X) ∧ Below w.heap.size w w' := fun w HT => by rw [← HQE.out, ← hse]; exact r3 w HT
          rw [hse] at c4 hr2
          clear hqe hq hi hq1 r2 r3
          go_wp2_with fail
          refine (hr2 _ HK3.out.tabs).mono ?_
          rintro e w4 ⟨rfl, hb4⟩
          have HK4 : Hid (AcK w w4 a st dv u p) := HK3.out.below hb4
          clear hb4 c0 c1 c2 c3 c4 c5 c6 c7 d0 d1
          obtain ⟨c0, c1, c2, c3, c4, c5, c6, c7, d0, d1, _, _, _⟩ := HK4.out
          rw [HQE.out] at c5
          rw [hse] at c4
          go_wp2_with fail
          refine (hr3 _ HK4.out.tabs).mono ?_
          rintro e w5 ⟨rfl, hb5⟩
          have HK5 : Hid (AcK w w5 a st dv u p) := HK4.out.below hb5
          clear hb5
          go_wp2
          go_ret
          exact ⟨by first | rfl | simp, HK5.out.bel⟩
        · rw [hse] at c4 hr2
          clear hqe hq hi hq1 r2 r3
          go_wp2_with fail
          refine (hr2 _ HK3.out.tabs).mono ?_
          rintro e w4 ⟨rfl, hb4⟩
          have HK4 : Hid (AcK w w4 a st dv u p) := HK3.out.below hb4
          clear hb4 c0 c1 c2 c3 c4 c5 c6 c7 d0 d1
          obtain ⟨c0, c1, c2, c3, c4, c5, c6, c7, d0, d1, _, _, _⟩ := HK4.out
          rw [HQE.out] at c5
          rw [hse] at c4
          go_wp2
          go_ret
          exact ⟨by first | rfl | simp, HK4.out.bel⟩
      · have hq2 := not_empty a.qop hq
        clear hq hi r3
        go_wp2_with fail
        refine (r2 _ HK3.out.tabs).mono ?_
        rintro e w4 ⟨rfl, hb4⟩
        have HK4 : Hid (AcK w w4 a st dv u p) := HK3.out.below hb4
        clear hb4 c0 c1 c2 c3 c4 c5 c6 c7 d0 d1
        obtain ⟨c0, c1, c2, c3, c4, c5, c6, c7, d0, d1, _, _, _⟩ := HK4.out
        go_wp2
        go_ret
        exact ⟨by first | rfl | simp, HK4.out.bel⟩
end Go.Proofs.YthhbfnfgbonakabDoor
