/- What a challenge by sums asks for, by the program. -/
import Derived.Test.YtooaiamfbmjmnaaGreatDoorKqop
import Derived.Test.YtooaiamfbmjmnaaGreatDoorKdom
import Derived.Deep.Cut
namespace Go.Proofs.YtooaiamfbmjmnaaGreatDoor
open Go.RowKit

/-- The cells of an ask that is nothing. -/
def zeroCells : Array Value := #[.int .i64 0, .string ⟨#[]⟩, .string ⟨#[]⟩, .string ⟨#[]⟩, .bool false, .string ⟨#[]⟩, .bool false, .slice none 0 0]
/-- A challenge's box, and a result's behind it. -/
structure KnF (w wi : World) (c : ChV) : Prop where
  x0 : wi.cell? ⟨w.heap.size, 0, none⟩ = some (.string c.x.scheme)
  x1 : wi.cell? ⟨w.heap.size, 1, none⟩ = some (.string c.x.token)
  x2 : wi.cell? ⟨w.heap.size, 2, none⟩ = some (.slice c.a c.len c.cap)
  res : wi.heap[w.heap.size + 1]? = some (.cells zeroCells 34 (0, 0))
  ok : ChOk wi c
  bel : Below w.heap.size w wi
theorem KnF.lt {w wi : World} {c : ChV} (h : KnF w wi c) : w.heap.size + 1 < wi.heap.size := (Array.getElem?_eq_some_iff.1 h.res).1
theorem KnF.below {w wi wj : World} {c : ChV} (h : KnF w wi c) (hb : Below wi.heap.size wi wj) : KnF w wj c := by
  have hl := h.lt
  exact ⟨(hb.cell (p := ⟨w.heap.size, 0, none⟩) (by show w.heap.size < _; omega)).trans h.x0, (hb.cell (p := ⟨w.heap.size, 1, none⟩) (by show w.heap.size < _; omega)).trans h.x1, (hb.cell (p := ⟨w.heap.size, 2, none⟩) (by show w.heap.size < _; omega)).trans h.x2, (hb.block _ hl).trans h.res, h.ok.below hb, h.bel.trans (hb.mono h.bel.size)⟩
theorem knF_start {w : World} {c : ChV} (hx : ChOk w c) : KnF w ((w.alloc (.cells #[.string c.x.scheme, .string c.x.token, .slice c.a c.len c.cap] 24)).alloc (.cells zeroCells 34)) c := by
  have hz : (w.alloc (.cells #[.string c.x.scheme, .string c.x.token, .slice c.a c.len c.cap] 24)).heap.size = w.heap.size + 1 := by simp
  have hb : Below w.heap.size w ((w.alloc (.cells #[.string c.x.scheme, .string c.x.token, .slice c.a c.len c.cap] 24)).alloc (.cells zeroCells 34)) := ((Below.refl _ _).alloc (Nat.le_refl _) _).alloc (by simp) _
  refine ⟨?_, ?_, ?_, ?_, hx.below hb, hb⟩
  · rw [World.cell?_alloc_lt _ _ ⟨w.heap.size, 0, none⟩ (by simp)]; exact World.cell?_alloc_mark _ _ _ _ _
  · rw [World.cell?_alloc_lt _ _ ⟨w.heap.size, 1, none⟩ (by simp)]; exact World.cell?_alloc_mark _ _ _ _ _
  · rw [World.cell?_alloc_lt _ _ ⟨w.heap.size, 2, none⟩ (by simp)]; exact World.cell?_alloc_mark _ _ _ _ _
  · rw [← hz]; exact heap_alloc_new _ _
/-- The eight cells of a block. -/
theorem eight {wi : World} {g : Nat} {v0 v1 v2 v3 v4 v5 v6 v7 : Value} {T : TypeId} (h : wi.heap[g]? = some (.cells #[v0, v1, v2, v3, v4, v5, v6, v7] T (0, 0))) :
    (wi.cell? ⟨g, 0, none⟩ = some v0 ∧ wi.cell? ⟨g, 1, none⟩ = some v1 ∧ wi.cell? ⟨g, 2, none⟩ = some v2 ∧ wi.cell? ⟨g, 3, none⟩ = some v3 ∧ wi.cell? ⟨g, 4, none⟩ = some v4 ∧ wi.cell? ⟨g, 5, none⟩ = some v5 ∧ wi.cell? ⟨g, 6, none⟩ = some v6 ∧ wi.cell? ⟨g, 7, none⟩ = some v7) ∧ ∀ j, wi.frozen? ⟨g, j, none⟩ = false :=
  ⟨⟨by simp [World.cell?, h], by simp [World.cell?, h], by simp [World.cell?, h], by simp [World.cell?, h], by simp [World.cell?, h], by simp [World.cell?, h], by simp [World.cell?, h], by simp [World.cell?, h]⟩, fun j => by simp [World.frozen?, h]⟩
/-- All eight anew. -/
def setEight (wi : World) (g : Nat) (v0 v1 v2 v3 v4 v5 v6 v7 : Value) : World := (((((((wi.setCell ⟨g, 0, none⟩ v0).setCell ⟨g, 1, none⟩ v1).setCell ⟨g, 2, none⟩ v2).setCell ⟨g, 3, none⟩ v3).setCell ⟨g, 4, none⟩ v4).setCell ⟨g, 5, none⟩ v5).setCell ⟨g, 6, none⟩ v6).setCell ⟨g, 7, none⟩ v7
theorem setEight_at {wi : World} {g : Nat} {u0 u1 u2 u3 u4 u5 u6 u7 : Value} {T : TypeId} (h : wi.heap[g]? = some (.cells #[u0, u1, u2, u3, u4, u5, u6, u7] T (0, 0))) (v0 v1 v2 v3 v4 v5 v6 v7 : Value) :
    (setEight wi g v0 v1 v2 v3 v4 v5 v6 v7).heap[g]? = some (.cells #[v0, v1, v2, v3, v4, v5, v6, v7] T (0, 0)) := by
  unfold setEight
  simp [World.setCell, Array.getElem?_modify, h]
theorem setEight_grown (wi : World) (g : Nat) (v0 v1 v2 v3 v4 v5 v6 v7 : Value) : wi.grownBy (setEight wi g v0 v1 v2 v3 v4 v5 v6 v7) (some g) := by
  have tr : ∀ {a b c : World}, a.grownBy b (some g) → b.grownBy c (some g) → a.grownBy c (some g) := fun h k => grown_trans h k
  unfold setEight
  exact tr (tr (tr (tr (tr (tr (tr (grown_set _ g 0 v0) (grown_set _ g 1 v1)) (grown_set _ g 2 v2)) (grown_set _ g 3 v3)) (grown_set _ g 4 v4)) (grown_set _ g 5 v5)) (grown_set _ g 6 v6)) (grown_set _ g 7 v7)
theorem none_of {α : Type} {o : Option α} (h : o.isSome = false) : o = none := by
  cases o with
  | none => rfl
  | some x => cases h
theorem some_of {o : Option ByteArray} {v : ByteArray} (h : o.isSome = true) (hv : o.getD ⟨#[]⟩ = v) : o = some v := by
  cases o with
  | none => cases h
  | some x => rw [← hv]; rfl
/-- What is kept of a challenge's box, and of the result's, whatever that holds. -/
def KnG (w W : World) (c : ChV) : Prop := ChOk W c ∧ Below w.heap.size w W ∧ ∃ u0 u1 u2 u3 u4 u5 u6 u7, W.heap[w.heap.size + 1]? = some (.cells #[u0, u1, u2, u3, u4, u5, u6, u7] 34 (0, 0))
theorem keepK {w W W' : World} {c : ChV} (h : W.cell? ⟨w.heap.size, 0, none⟩ = some (.string c.x.scheme) ∧ W.cell? ⟨w.heap.size, 1, none⟩ = some (.string c.x.token) ∧ W.cell? ⟨w.heap.size, 2, none⟩ = some (.slice c.a c.len c.cap) ∧ Hid (KnG w W c)) (hb : Below W.heap.size W W') :
    W'.cell? ⟨w.heap.size, 0, none⟩ = some (.string c.x.scheme) ∧ W'.cell? ⟨w.heap.size, 1, none⟩ = some (.string c.x.token) ∧ W'.cell? ⟨w.heap.size, 2, none⟩ = some (.slice c.a c.len c.cap) ∧ Hid (KnG w W' c) := by
  obtain ⟨h0, h1, h2, h3⟩ := h
  obtain ⟨k1, k2, u0, u1, u2, u3, u4, u5, u6, u7, k3⟩ := h3.out
  have hl := (Array.getElem?_eq_some_iff.1 k3).1
  exact ⟨(hb.cell (p := ⟨w.heap.size, 0, none⟩) (by show w.heap.size < _; omega)).trans h0, (hb.cell (p := ⟨w.heap.size, 1, none⟩) (by show w.heap.size < _; omega)).trans h1, (hb.cell (p := ⟨w.heap.size, 2, none⟩) (by show w.heap.size < _; omega)).trans h2, k1.below hb, k2.trans (hb.mono k2.size), u0, u1, u2, u3, u4, u5, u6, u7, (hb.block _ hl).trans k3⟩
theorem keepE {w W : World} {c : ChV} (h : W.cell? ⟨w.heap.size, 0, none⟩ = some (.string c.x.scheme) ∧ W.cell? ⟨w.heap.size, 1, none⟩ = some (.string c.x.token) ∧ W.cell? ⟨w.heap.size, 2, none⟩ = some (.slice c.a c.len c.cap) ∧ Hid (KnG w W c)) (hcb : 0 < c.len → c.b < w.heap.size) (v0 v1 v2 v3 v4 v5 v6 v7 : Value) :
    (setEight W (w.heap.size + 1) v0 v1 v2 v3 v4 v5 v6 v7).cell? ⟨w.heap.size, 0, none⟩ = some (.string c.x.scheme) ∧ (setEight W (w.heap.size + 1) v0 v1 v2 v3 v4 v5 v6 v7).cell? ⟨w.heap.size, 1, none⟩ = some (.string c.x.token) ∧ (setEight W (w.heap.size + 1) v0 v1 v2 v3 v4 v5 v6 v7).cell? ⟨w.heap.size, 2, none⟩ = some (.slice c.a c.len c.cap) ∧ Hid (KnG w (setEight W (w.heap.size + 1) v0 v1 v2 v3 v4 v5 v6 v7) c) := by
  have hg := setEight_grown W (w.heap.size + 1) v0 v1 v2 v3 v4 v5 v6 v7
  obtain ⟨h0, h1, h2, h3⟩ := h
  obtain ⟨k1, k2, u0, u1, u2, u3, u4, u5, u6, u7, k3⟩ := h3.out
  have hne : some w.heap.size ≠ some (w.heap.size + 1) := by intro e; injection e with e; omega
  exact ⟨hg.cell h0 hne, hg.cell h1 hne, hg.cell h2 hne, Pars.grown k1 hg (fun h e => by injection e with e; have := hcb h; omega), k2.grown hg k2.size (fun i hi => by injection hi with hi; omega), _, _, _, _, _, _, _, _, setEight_at k3 v0 v1 v2 v3 v4 v5 v6 v7⟩
/-- What Known answers. -/
def KnAns (o : Option AskV) (B : Nat) (e : Ending) (w' : World) : Prop :=
  ∃ dv, e = .returned (.tuple #[askVal (o.getD zeroA) dv, .bool o.isSome]) ∧ OwnS w' B dv (o.getD zeroA).domain
theorem getC (c : ChV) (n : ByteArray) (k : List UInt8) (hk : n.data.toList = k) (hf : Few c.x.params) (hn : n.size ≤ 3000) (t : ByteArray) (is : Bool) (ht : (getL c.x.params k).getD ⟨#[]⟩ = t) (hi : (getL c.x.params k).isSome = is) (w : World) (hx : ChOk w c) :
    Calls Tryz.prog 32 #[.agg #[.string c.x.scheme, .string c.x.token, .slice c.a c.len c.cap], .string n] w fun e w' => e = .returned (.tuple #[.string t, .bool is]) ∧ Below w.heap.size w w' := by
  subst hk ht hi
  exact get_any c n hf hn w hx
theorem getD_size (c : ChV) (k : List UInt8) (hf : Few c.x.params) : ((getL c.x.params k).getD ⟨#[]⟩).size ≤ 3000 := by
  rcases hg : getL c.x.params k with _ | v
  · decide
  · exact few_get hf hg
set_option maxRecDepth 100000 in
set_option maxHeartbeats 4000000 in
theorem digest_any (c : ChV) (hf : Few c.x.params) (realm : ByteArray) (w : World) (hx : ChOk w c) :
    Calls Tryz.prog 33 #[.agg #[.string c.x.scheme, .string c.x.token, .slice c.a c.len c.cap], .string realm] w fun e w' => KnAns (digestL c.x.params realm) w.heap.size e w' ∧ Below w.heap.size w w' := by
  have HF : Hid (Few c.x.params) := hf
  have HCB : Hid (0 < c.len → c.b < w.heap.size) := fun h => (hx.lies h).2
  have HK0 := knF_start hx
  generalize hW0 : ((w.alloc (.cells #[.string c.x.scheme, .string c.x.token, .slice c.a c.len c.cap] 24)).alloc (.cells zeroCells 34)) = W0 at HK0
  have HK : Hid (KnF w W0 c) := HK0
  obtain ⟨x0, x1, x2, _, _, _⟩ := HK0
  unfold zeroCells at hW0
  clear hx hf
  obtain ⟨A, HA⟩ : ∃ A, Hid (algoL (getL c.x.params kAlgo) = A) := ⟨_, rfl⟩
  have ha3 : A.1 ≤ 3 := by rw [← HA.out]; exact algo_le _
  obtain ⟨n, HN⟩ : ∃ n, Hid ((getL c.x.params kNonce).getD ⟨#[]⟩ = n) := ⟨_, rfl⟩
  obtain ⟨ni, HNI⟩ : ∃ n, Hid ((getL c.x.params kNonce).isSome = n) := ⟨_, rfl⟩
  obtain ⟨q, HQ⟩ : ∃ n, Hid ((qopL (getL c.x.params kQop)).getD ⟨#[]⟩ = n) := ⟨_, rfl⟩
  obtain ⟨qi, HQI⟩ : ∃ n, Hid ((qopL (getL c.x.params kQop)).isSome = n) := ⟨_, rfl⟩
  go_enter Tryz.func33, Tryz.ntmps33
  go_upto_region 1 with fail
  clear hW0
  go_wp2_with fail
  refine (algorithm_any c HF.out _ HK.out.ok).mono ?_
  rintro e w1 ⟨rfl, hb1⟩
  rw [HA.out]
  have HK1 : Hid (KnF w w1 c) := HK.out.below hb1
  clear hb1 x0 x1 x2
  obtain ⟨x0, x1, x2, _, _, _⟩ := HK1.out
  go_wp2_with fail
  refine (getC c ⟨#[110, 111, 110, 99, 101]⟩ kNonce rfl HF.out (by decide) n ni HN.out HNI.out _ HK1.out.ok).mono ?_
  rintro e w2 ⟨rfl, hb2⟩
  have HK2 : Hid (KnF w w2 c) := HK1.out.below hb2
  clear hb2 x0 x1 x2
  obtain ⟨x0, x1, x2, _, _, _⟩ := HK2.out
  have hpr : Calls Tryz.prog 71 #[.agg #[.string c.x.scheme, .string c.x.token, .slice c.a c.len c.cap]] w2 fun e w' => e = .returned (.tuple #[.string q, .bool qi]) ∧ Below w2.heap.size w2 w' := by
    rw [← HQ.out, ← HQI.out]
    exact protection_any c HF.out w2 HK2.out.ok
  go_wp2_with fail
  refine hpr.mono ?_
  rintro e w3 ⟨rfl, hb3⟩
  have HK3 : Hid (KnF w w3 c) := HK2.out.below hb3
  clear hb3 x0 x1 x2 hpr
  by_cases ha0 : A.1 = 0
  · have HO : Hid (digestL c.x.params realm = none) := by show _ = _; unfold digestL; rw [HA.out, if_pos ha0]
    have ha0' : ((A.1 : Int) == 0) = true := by rw [ha0]; rfl
    have hres := HK3.out.res
    unfold zeroCells at hres
    obtain ⟨⟨r0, r1, r2, r3, r4, r5, r6, r7⟩, fr⟩ := eight hres
    have HRES : Hid (w3.heap[w.heap.size + 1]? = some (.cells #[.int .i64 0, .string ⟨#[]⟩, .string ⟨#[]⟩, .string ⟨#[]⟩, .bool false, .string ⟨#[]⟩, .bool false, .slice none 0 0] 34 (0, 0))) := hres
    clear hres
    go_wp2
    have z1 := setEight_at HRES.out (.int .i64 0) (.string ⟨#[]⟩) (.string ⟨#[]⟩) (.string ⟨#[]⟩) (.bool false) (.string ⟨#[]⟩) (.bool false) (.slice none 0 0)
    have z2 := setEight_grown w3 (w.heap.size + 1) (.int .i64 0) (.string ⟨#[]⟩) (.string ⟨#[]⟩) (.string ⟨#[]⟩) (.bool false) (.string ⟨#[]⟩) (.bool false) (.slice none 0 0)
    unfold setEight at z1 z2
    obtain ⟨⟨e0, e1, e2, e3, e4, e5, e6, e7⟩, _⟩ := eight z1
    exact bodyPost_ret (v := .tuple #[.agg #[.int .i64 0, .string ⟨#[]⟩, .string ⟨#[]⟩, .string ⟨#[]⟩, .bool false, .string ⟨#[]⟩, .bool false, .slice none 0 0], .bool false]) (by simp [results, Tryz.f33, go_sem, e0, e1, e2, e3, e4, e5, e6, e7]) rfl ⟨⟨.slice none 0 0, by rw [HO.out]; rfl, by rw [HO.out]; exact ownS_nil _ _⟩, HK3.out.bel.grown z2 HK3.out.bel.size (fun i hi => by injection hi with hi; omega)⟩
  · have ha0' : ((A.1 : Int) == 0) = false := beq_eq_false_iff_ne.2 (by omega)
    cases ni
    · have HO : Hid (digestL c.x.params realm = none) := by
        show _ = _
        unfold digestL
        rw [HA.out, if_neg ha0, none_of HNI.out]
      have hres := HK3.out.res
      unfold zeroCells at hres
      obtain ⟨⟨r0, r1, r2, r3, r4, r5, r6, r7⟩, fr⟩ := eight hres
      have HRES : Hid (w3.heap[w.heap.size + 1]? = some (.cells #[.int .i64 0, .string ⟨#[]⟩, .string ⟨#[]⟩, .string ⟨#[]⟩, .bool false, .string ⟨#[]⟩, .bool false, .slice none 0 0] 34 (0, 0))) := hres
      clear hres
      go_wp2
      have z1 := setEight_at HRES.out (.int .i64 0) (.string ⟨#[]⟩) (.string ⟨#[]⟩) (.string ⟨#[]⟩) (.bool false) (.string ⟨#[]⟩) (.bool false) (.slice none 0 0)
      have z2 := setEight_grown w3 (w.heap.size + 1) (.int .i64 0) (.string ⟨#[]⟩) (.string ⟨#[]⟩) (.string ⟨#[]⟩) (.bool false) (.string ⟨#[]⟩) (.bool false) (.slice none 0 0)
      unfold setEight at z1 z2
      obtain ⟨⟨e0, e1, e2, e3, e4, e5, e6, e7⟩, _⟩ := eight z1
      exact bodyPost_ret (v := .tuple #[.agg #[.int .i64 0, .string ⟨#[]⟩, .string ⟨#[]⟩, .string ⟨#[]⟩, .bool false, .string ⟨#[]⟩, .bool false, .slice none 0 0], .bool false]) (by simp [results, Tryz.f33, go_sem, e0, e1, e2, e3, e4, e5, e6, e7]) rfl ⟨⟨.slice none 0 0, by rw [HO.out]; rfl, by rw [HO.out]; exact ownS_nil _ _⟩, HK3.out.bel.grown z2 HK3.out.bel.size (fun i hi => by injection hi with hi; omega)⟩
    · cases qi
      · have HO : Hid (digestL c.x.params realm = none) := by
          show _ = _
          unfold digestL
          rw [HA.out, if_neg ha0, none_of HQI.out]
          split <;> rfl
        have hres := HK3.out.res
        unfold zeroCells at hres
        obtain ⟨⟨r0, r1, r2, r3, r4, r5, r6, r7⟩, fr⟩ := eight hres
        have HRES : Hid (w3.heap[w.heap.size + 1]? = some (.cells #[.int .i64 0, .string ⟨#[]⟩, .string ⟨#[]⟩, .string ⟨#[]⟩, .bool false, .string ⟨#[]⟩, .bool false, .slice none 0 0] 34 (0, 0))) := hres
        clear hres
        go_wp2
        have z1 := setEight_at HRES.out (.int .i64 0) (.string ⟨#[]⟩) (.string ⟨#[]⟩) (.string ⟨#[]⟩) (.bool false) (.string ⟨#[]⟩) (.bool false) (.slice none 0 0)
        have z2 := setEight_grown w3 (w.heap.size + 1) (.int .i64 0) (.string ⟨#[]⟩) (.string ⟨#[]⟩) (.string ⟨#[]⟩) (.bool false) (.string ⟨#[]⟩) (.bool false) (.slice none 0 0)
        unfold setEight at z1 z2
        obtain ⟨⟨e0, e1, e2, e3, e4, e5, e6, e7⟩, _⟩ := eight z1
        exact bodyPost_ret (v := .tuple #[.agg #[.int .i64 0, .string ⟨#[]⟩, .string ⟨#[]⟩, .string ⟨#[]⟩, .bool false, .string ⟨#[]⟩, .bool false, .slice none 0 0], .bool false]) (by simp [results, Tryz.f33, go_sem, e0, e1, e2, e3, e4, e5, e6, e7]) rfl ⟨⟨.slice none 0 0, by rw [HO.out]; rfl, by rw [HO.out]; exact ownS_nil _ _⟩, HK3.out.bel.grown z2 HK3.out.bel.size (fun i hi => by injection hi with hi; omega)⟩
      · obtain ⟨o, HOQ⟩ : ∃ n, Hid ((getL c.x.params kOpq).getD ⟨#[]⟩ = n) := ⟨_, rfl⟩
        obtain ⟨oi, HOI⟩ : ∃ n, Hid ((getL c.x.params kOpq).isSome = n) := ⟨_, rfl⟩
        obtain ⟨st, HST⟩ : ∃ n, Hid ((getL c.x.params kStale).getD ⟨#[]⟩ = n) := ⟨_, rfl⟩
        obtain ⟨si, HSI⟩ : ∃ n, Hid ((getL c.x.params kStale).isSome = n) := ⟨_, rfl⟩
        have hst3 : st.size ≤ 3000 := by rw [← HST.out]; exact getD_size c kStale HF.out
        obtain ⟨D, HD⟩ : ∃ D, Hid (domL ((getL c.x.params kDomain).getD ⟨#[]⟩).data.toList = D) := ⟨_, rfl⟩
        obtain ⟨sb, HSB⟩ : ∃ sb, Hid (sameL st.data.toList kTrue = sb) := ⟨_, rfl⟩
        have HO : Hid (digestL c.x.params realm = some ⟨A.1, realm, n, o, A.2, q, sb, D⟩) := by
          show _ = _
          unfold digestL
          rw [HA.out, if_neg ha0, some_of HNI.out HN.out, some_of HQI.out HQ.out]
          simp only [HOQ.out, HST.out, HSB.out, HD.out]
        obtain ⟨x0, x1, x2, _, _, _⟩ := HK3.out
        go_wp2_with fail
        refine (getC c ⟨#[111, 112, 97, 113, 117, 101]⟩ kOpq rfl HF.out (by decide) o oi HOQ.out HOI.out _ HK3.out.ok).mono ?_
        rintro e w4 ⟨rfl, hb4⟩
        have HK4 : Hid (KnF w w4 c) := HK3.out.below hb4
        clear hb4 x0 x1 x2
        obtain ⟨x0, x1, x2, _, _, _⟩ := HK4.out
        go_wp2_with fail
        refine (getC c ⟨#[115, 116, 97, 108, 101]⟩ kStale rfl HF.out (by decide) st si HST.out HSI.out _ HK4.out.ok).mono ?_
        rintro e w5 ⟨rfl, hb5⟩
        have HK5 : Hid (KnF w w5 c) := HK4.out.below hb5
        clear hb5 x0 x1 x2
        obtain ⟨x0, x1, x2, _, _, _⟩ := HK5.out
        have hsame : ∀ w, Calls Tryz.prog 31 #[.string st, .string ⟨#[116, 114, 117, 101]⟩] w fun e w' => e = .returned (.bool sb) ∧ Below w.heap.size w w' := fun w => by
          rw [← HSB.out]
          exact same_any st ⟨#[116, 114, 117, 101]⟩ (by omega) (by decide) w
        have hdom : ∀ w', ChOk w' c → Calls Tryz.prog 72 #[.agg #[.string c.x.scheme, .string c.x.token, .slice c.a c.len c.cap]] w' fun e w'' => (∃ (a : Option Addr) (k cap : Nat), e = .returned (.slice a k cap) ∧ OwnS w'' w'.heap.size (.slice a k cap) D) ∧ Below w'.heap.size w' w'' := fun w' h => by
          rw [← HD.out]
          refine (domain_any c HF.out w' h).mono ?_
          rintro e w'' ⟨⟨v, rfl, ho⟩, hb⟩
          obtain ⟨a, cap, g, rfl, _⟩ := ho.strs
          exact ⟨⟨a, _, cap, rfl, ho⟩, hb⟩
        have hQ : w5.drew.cell? ⟨w.heap.size, 0, none⟩ = some (.string c.x.scheme) ∧ w5.drew.cell? ⟨w.heap.size, 1, none⟩ = some (.string c.x.token) ∧ w5.drew.cell? ⟨w.heap.size, 2, none⟩ = some (.slice c.a c.len c.cap) ∧ Hid (KnG w w5.drew c) :=
          ⟨x0, x1, x2, ⟨HK5.out.ok.len_eq, HK5.out.ok.lies, HK5.out.ok.one, HK5.out.ok.two⟩, ⟨HK5.out.bel.os, HK5.out.bel.tape, HK5.out.bel.output, HK5.out.bel.size, HK5.out.bel.block⟩, _, _, _, _, _, _, _, _, HK5.out.res⟩
        go_wp2
        go_region_held3 (fun W => W.cell? ⟨w.heap.size, 0, none⟩ = some (.string c.x.scheme) ∧ W.cell? ⟨w.heap.size, 1, none⟩ = some (.string c.x.token) ∧ W.cell? ⟨w.heap.size, 2, none⟩ = some (.slice c.a c.len c.cap) ∧ Hid (KnG w W c)) (with_reducible assumption) (
          (first
            | (go_at_call 31; refine (hsame _).mono ?_; rintro e w6 ⟨rfl, hb6⟩; have hQ6 := keepK (by assumption) hb6)
            | (go_at_call 72; refine (hdom _ (by have hq := hQ6; exact hq.2.2.2.out.1)).mono ?_; rintro e w7 ⟨⟨da, dk, dc, rfl, hown7⟩, hb7⟩; have hQ7 := keepK hQ6 hb7; obtain ⟨u0, u1, u2, u3, u4, u5, u6, u7, hr7⟩ := hQ7.2.2.2.out.2.2; obtain ⟨⟨r0, r1, r2, r3, r4, r5, r6, r7⟩, fr⟩ := eight hr7; have hQ8 := keepE hQ7 HCB.out (.int .i64 (A.1 : Int)) (.string realm) (.string n) (.string o) (.bool A.2) (.string q) (.bool sb) (.slice da dk dc); unfold setEight at hQ8)))
        obtain ⟨_, _, _, _, _, _, _, _, hr6⟩ := hQ6.2.2.2.out.2.2
        have hl6 := (Array.getElem?_eq_some_iff.1 hr6).1
        have HFIN : Hid (Below w.heap.size w w7 ∧ OwnS w7 w6.heap.size (.slice da dk dc) D ∧ w.heap.size + 1 < w6.heap.size ∧ w7.heap[w.heap.size + 1]? = some (.cells #[u0, u1, u2, u3, u4, u5, u6, u7] 34 (0, 0))) := ⟨hQ7.2.2.2.out.2.1, hown7, hl6, hr7⟩
        clear hQ8 hQ7 hQ6 hQ r0 r1 r2 r3 r4 r5 r6 r7 fr hr7 hown7 hr6 hl6
        go_wp2
        have z1 := setEight_at HFIN.out.2.2.2 (.int .i64 (A.1 : Int)) (.string realm) (.string n) (.string o) (.bool A.2) (.string q) (.bool sb) (.slice da dk dc)
        have z2 := setEight_grown w7 (w.heap.size + 1) (.int .i64 (A.1 : Int)) (.string realm) (.string n) (.string o) (.bool A.2) (.string q) (.bool sb) (.slice da dk dc)
        unfold setEight at z1 z2
        obtain ⟨⟨e0, e1, e2, e3, e4, e5, e6, e7⟩, _⟩ := eight z1
        exact bodyPost_ret (v := .tuple #[.agg #[.int .i64 (A.1 : Int), .string realm, .string n, .string o, .bool A.2, .string q, .bool sb, .slice da dk dc], .bool true]) (by simp [results, Tryz.f33, go_sem, e0, e1, e2, e3, e4, e5, e6, e7]) rfl ⟨⟨.slice da dk dc, by rw [HO.out]; rfl, by rw [HO.out]; exact World.ownsRow.mono (HFIN.out.2.1.grown z2 HFIN.out.2.2.1) (by have := HFIN.out.2.2.1; omega)⟩, HFIN.out.1.grown z2 HFIN.out.1.size (fun i hi => by injection hi with hi; omega)⟩
end Go.Proofs.YtooaiamfbmjmnaaGreatDoor
