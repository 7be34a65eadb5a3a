/- Texts of one claim, joined: each begins with what it proves. -/
import Derived.Test.YtgajhmmildbkfaaGreatDoorJo8
import Derived.Test.YtgajhmmildbkfaaGreatDoorJo7
import Derived.Test.YtgajhmmildbkfaaGreatDoorJo6
import Derived.Test.YtgajhmmildbkfaaGreatDoorJo1
import Derived.Test.YtgajhmmildbkfaaGreatDoorJo3
import Derived.Test.YtgajhmmildbkfaaGreatDoorJo4
import Derived.Test.YtgajhmmildbkfaaGreatDoorJo5
import Derived.Deep.Cut
import Derived.Shelf.Slices.Equal
import Derived.ProofKit
import Derived.OpenShut
import Derived.Carry
import Derived.SizedLaws
import Derived.Deep.Slices
import Derived.Deep.Strs
import Derived.Lib.SmallJoins
import Derived.Deep.QuietTactic
import Derived.BigQuiet
import Derived.Deep.LoopGhost
import Derived.Deep.RegionHeld3
/- What a challenge by sums asks for, by the program. -/
namespace Go.Proofs.YtgajhmmildbkfaaGreatDoor
open Go.RowKit

/-- The cells of an ask that is nothing. -/
def zeroCells : Array Value := #[.int .i64 0, .string ⟨#[]⟩, .string ⟨#[]⟩, .string ⟨#[]⟩, .bool false, .string ⟨#[]⟩, .bool false, .slice none 0 0]
/-- A challenge's box, and a result's behind it. -/
structure KnF (w wi : World) (c : ChV) : Prop where
  x0 : wi.cell? ⟨w.heap.size, 0, none⟩ = some (.string c.x.scheme)
  x1 : wi.cell? ⟨w.heap.size, 1, none⟩ = some (.string c.x.token)
  x2 : wi.cell? ⟨w.heap.size, 2, none⟩ = some (.slice c.a c.len c.cap)
  res : wi.heap[w.heap.size + 1]? = some (.cells zeroCells 24 (0, 0))
  ok : ChOk wi c
  bel : Below w.heap.size w wi
theorem KnF.lt {w wi : World} {c : ChV} (h : KnF w wi c) : w.heap.size + 1 < wi.heap.size := (Array.getElem?_eq_some_iff.1 h.res).1
theorem KnF.below {w wi wj : World} {c : ChV} (h : KnF w wi c) (hb : Below wi.heap.size wi wj) : KnF w wj c := by
  have hl := h.lt
  exact ⟨(hb.cell (p := ⟨w.heap.size, 0, none⟩) (by show w.heap.size < _; omega)).trans h.x0, (hb.cell (p := ⟨w.heap.size, 1, none⟩) (by show w.heap.size < _; omega)).trans h.x1, (hb.cell (p := ⟨w.heap.size, 2, none⟩) (by show w.heap.size < _; omega)).trans h.x2, (hb.block _ hl).trans h.res, h.ok.below hb, h.bel.trans (hb.mono h.bel.size)⟩
theorem knF_start {w : World} {c : ChV} (hx : ChOk w c) : KnF w ((w.alloc (.cells #[.string c.x.scheme, .string c.x.token, .slice c.a c.len c.cap] 38)).alloc (.cells zeroCells 24)) c := by
  have hz : (w.alloc (.cells #[.string c.x.scheme, .string c.x.token, .slice c.a c.len c.cap] 38)).heap.size = w.heap.size + 1 := by simp
  have hb : Below w.heap.size w ((w.alloc (.cells #[.string c.x.scheme, .string c.x.token, .slice c.a c.len c.cap] 38)).alloc (.cells zeroCells 24)) := ((Below.refl _ _).alloc (Nat.le_refl _) _).alloc (by simp) _
  refine ⟨?_, ?_, ?_, ?_, hx.below hb, hb⟩
  · rw [World.cell?_alloc_lt _ _ ⟨w.heap.size, 0, none⟩ (by simp)]; exact World.cell?_alloc_mark _ _ _ _ _
  · rw [World.cell?_alloc_lt _ _ ⟨w.heap.size, 1, none⟩ (by simp)]; exact World.cell?_alloc_mark _ _ _ _ _
  · rw [World.cell?_alloc_lt _ _ ⟨w.heap.size, 2, none⟩ (by simp)]; exact World.cell?_alloc_mark _ _ _ _ _
  · rw [← hz]; exact heap_alloc_new _ _
/-- The eight cells of a block. -/
theorem eight {wi : World} {g : Nat} {v0 v1 v2 v3 v4 v5 v6 v7 : Value} {T : TypeId} (h : wi.heap[g]? = some (.cells #[v0, v1, v2, v3, v4, v5, v6, v7] T (0, 0))) :
    (wi.cell? ⟨g, 0, none⟩ = some v0 ∧ wi.cell? ⟨g, 1, none⟩ = some v1 ∧ wi.cell? ⟨g, 2, none⟩ = some v2 ∧ wi.cell? ⟨g, 3, none⟩ = some v3 ∧ wi.cell? ⟨g, 4, none⟩ = some v4 ∧ wi.cell? ⟨g, 5, none⟩ = some v5 ∧ wi.cell? ⟨g, 6, none⟩ = some v6 ∧ wi.cell? ⟨g, 7, none⟩ = some v7) ∧ ∀ j, wi.frozen? ⟨g, j, none⟩ = false :=
  ⟨⟨by simp [World.cell?, h], by simp [World.cell?, h], by simp [World.cell?, h], by simp [World.cell?, h], by simp [World.cell?, h], by simp [World.cell?, h], by simp [World.cell?, h], by simp [World.cell?, h]⟩, fun j => by simp [World.frozen?, h]⟩
/-- All eight anew. -/
def setEight (wi : World) (g : Nat) (v0 v1 v2 v3 v4 v5 v6 v7 : Value) : World := (((((((wi.setCell ⟨g, 0, none⟩ v0).setCell ⟨g, 1, none⟩ v1).setCell ⟨g, 2, none⟩ v2).setCell ⟨g, 3, none⟩ v3).setCell ⟨g, 4, none⟩ v4).setCell ⟨g, 5, none⟩ v5).setCell ⟨g, 6, none⟩ v6).setCell ⟨g, 7, none⟩ v7
theorem setEight_at {wi : World} {g : Nat} {u0 u1 u2 u3 u4 u5 u6 u7 : Value} {T : TypeId} (h : wi.heap[g]? = some (.cells #[u0, u1, u2, u3, u4, u5, u6, u7] T (0, 0))) (v0 v1 v2 v3 v4 v5 v6 v7 : Value) :
    (setEight wi g v0 v1 v2 v3 v4 v5 v6 v7).heap[g]? = some (.cells #[v0, v1, v2, v3, v4, v5, v6, v7] T (0, 0)) := by
  unfold setEight
  simp [World.setCell, Array.getElem?_modify, h]
theorem setEight_grown (wi : World) (g : Nat) (v0 v1 v2 v3 v4 v5 v6 v7 : Value) : wi.grownBy (setEight wi g v0 v1 v2 v3 v4 v5 v6 v7) (some g) := by
  have tr : ∀ {a b c : World}, a.grownBy b (some g) → b.grownBy c (some g) → a.grownBy c (some g) := fun h k => grown_trans h k
  unfold setEight
  exact tr (tr (tr (tr (tr (tr (tr (grown_set _ g 0 v0) (grown_set _ g 1 v1)) (grown_set _ g 2 v2)) (grown_set _ g 3 v3)) (grown_set _ g 4 v4)) (grown_set _ g 5 v5)) (grown_set _ g 6 v6)) (grown_set _ g 7 v7)
theorem none_of {α : Type} {o : Option α} (h : o.isSome = false) : o = none := by
  cases o with
  | none => rfl
  | some x => cases h
theorem some_of {o : Option ByteArray} {v : ByteArray} (h : o.isSome = true) (hv : o.getD ⟨#[]⟩ = v) : o = some v := by
  cases o with
  | none => cases h
  | some x => rw [← hv]; rfl
/-- What is kept of a challenge's box, and of the result's, whatever that holds. -/
def KnG (w W : World) (c : ChV) : Prop := ChOk W c ∧ Below w.heap.size w W ∧ ∃ u0 u1 u2 u3 u4 u5 u6 u7, W.heap[w.heap.size + 1]? = some (.cells #[u0, u1, u2, u3, u4, u5, u6, u7] 24 (0, 0))
theorem keepK {w W W' : World} {c : ChV} (h : W.cell? ⟨w.heap.size, 0, none⟩ = some (.string c.x.scheme) ∧ W.cell? ⟨w.heap.size, 1, none⟩ = some (.string c.x.token) ∧ W.cell? ⟨w.heap.size, 2, none⟩ = some (.slice c.a c.len c.cap) ∧ Hid (KnG w W c)) (hb : Below W.heap.size W W') :
    W'.cell? ⟨w.heap.size, 0, none⟩ = some (.string c.x.scheme) ∧ W'.cell? ⟨w.heap.size, 1, none⟩ = some (.string c.x.token) ∧ W'.cell? ⟨w.heap.size, 2, none⟩ = some (.slice c.a c.len c.cap) ∧ Hid (KnG w W' c) := by
  obtain ⟨h0, h1, h2, h3⟩ := h
  obtain ⟨k1, k2, u0, u1, u2, u3, u4, u5, u6, u7, k3⟩ := h3.out
  have hl := (Array.getElem?_eq_some_iff.1 k3).1
  exact ⟨(hb.cell (p := ⟨w.heap.size, 0, none⟩) (by show w.heap.size < _; omega)).trans h0, (hb.cell (p := ⟨w.heap.size, 1, none⟩) (by show w.heap.size < _; omega)).trans h1, (hb.cell (p := ⟨w.heap.size, 2, none⟩) (by show w.heap.size < _; omega)).trans h2, k1.below hb, k2.trans (hb.mono k2.size), u0, u1, u2, u3, u4, u5, u6, u7, (hb.block _ hl).trans k3⟩
theorem keepE {w W : World} {c : ChV} (h : W.cell? ⟨w.heap.size, 0, none⟩ = some (.string c.x.scheme) ∧ W.cell? ⟨w.heap.size, 1, none⟩ = some (.string c.x.token) ∧ W.cell? ⟨w.heap.size, 2, none⟩ = some (.slice c.a c.len c.cap) ∧ Hid (KnG w W c)) (hcb : 0 < c.len → c.b < w.heap.size) (v0 v1 v2 v3 v4 v5 v6 v7 : Value) :
    (setEight W (w.heap.size + 1) v0 v1 v2 v3 v4 v5 v6 v7).cell? ⟨w.heap.size, 0, none⟩ = some (.string c.x.scheme) ∧ (setEight W (w.heap.size + 1) v0 v1 v2 v3 v4 v5 v6 v7).cell? ⟨w.heap.size, 1, none⟩ = some (.string c.x.token) ∧ (setEight W (w.heap.size + 1) v0 v1 v2 v3 v4 v5 v6 v7).cell? ⟨w.heap.size, 2, none⟩ = some (.slice c.a c.len c.cap) ∧ Hid (KnG w (setEight W (w.heap.size + 1) v0 v1 v2 v3 v4 v5 v6 v7) c) := by
  have hg := setEight_grown W (w.heap.size + 1) v0 v1 v2 v3 v4 v5 v6 v7
  obtain ⟨h0, h1, h2, h3⟩ := h
  obtain ⟨k1, k2, u0, u1, u2, u3, u4, u5, u6, u7, k3⟩ := h3.out
  have hne : some w.heap.size ≠ some (w.heap.size + 1) := by intro e; injection e with e; omega
  exact ⟨hg.cell h0 hne, hg.cell h1 hne, hg.cell h2 hne, Pars.grown k1 hg (fun h e => by injection e with e; have := hcb h; omega), k2.grown hg k2.size (fun i hi => by injection hi with hi; omega), _, _, _, _, _, _, _, _, setEight_at k3 v0 v1 v2 v3 v4 v5 v6 v7⟩
/-- What Known answers. -/
def KnAns (o : Option AskV) (B : Nat) (e : Ending) (w' : World) : Prop :=
  ∃ dv, e = .returned (.tuple #[askVal (o.getD zeroA) dv, .bool o.isSome]) ∧ OwnS w' B dv (o.getD zeroA).domain
theorem getC (c : ChV) (n : ByteArray) (k : List UInt8) (hk : n.data.toList = k) (hf : Few c.x.params) (hn : n.size ≤ 3000) (t : ByteArray) (is : Bool) (ht : (getL c.x.params k).getD ⟨#[]⟩ = t) (hi : (getL c.x.params k).isSome = is) (w : World) (hx : ChOk w c) :
    Calls Tryz.prog 13 #[.agg #[.string c.x.scheme, .string c.x.token, .slice c.a c.len c.cap], .string n] w fun e w' => e = .returned (.tuple #[.string t, .bool is]) ∧ Below w.heap.size w w' := by
  subst hk ht hi
  exact get_any c n hf hn w hx
theorem getD_size (c : ChV) (k : List UInt8) (hf : Few c.x.params) : ((getL c.x.params k).getD ⟨#[]⟩).size ≤ 3000 := by
  rcases hg : getL c.x.params k with _ | v
  · decide
  · exact few_get hf hg
set_option maxRecDepth 100000 in
set_option maxHeartbeats 4000000 in
theorem digest_any (c : ChV) (hf : Few c.x.params) (realm : ByteArray) (w : World) (hx : ChOk w c) :
    Calls Tryz.prog 38 #[.agg #[.string c.x.scheme, .string c.x.token, .slice c.a c.len c.cap], .string realm] w fun e w' => KnAns (digestL c.x.params realm) w.heap.size e w' ∧ Below w.heap.size w w' := by
  have HF : Hid (Few c.x.params) := hf
  have HCB : Hid (0 < c.len → c.b < w.heap.size) := fun h => (hx.lies h).2
  have HK0 := knF_start hx
  generalize hW0 : ((w.alloc (.cells #[.string c.x.scheme, .string c.x.token, .slice c.a c.len c.cap] 38)).alloc (.cells zeroCells 24)) = W0 at HK0
  have HK : Hid (KnF w W0 c) := HK0
  obtain ⟨x0, x1, x2, _, _, _⟩ := HK0
  unfold zeroCells at hW0
  clear hx hf
  obtain ⟨A, HA⟩ : ∃ A, Hid (algoL (getL c.x.params kAlgo) = A) := ⟨_, rfl⟩
  have ha3 : A.1 ≤ 3 := by rw [← HA.out]; exact algo_le _
  obtain ⟨n, HN⟩ : ∃ n, Hid ((getL c.x.params kNonce).getD ⟨#[]⟩ = n) := ⟨_, rfl⟩
  obtain ⟨ni, HNI⟩ : ∃ n, Hid ((getL c.x.params kNonce).isSome = n) := ⟨_, rfl⟩
  obtain ⟨q, HQ⟩ : ∃ n, Hid ((qopL (getL c.x.params kQop)).getD ⟨#[]⟩ = n) := ⟨_, rfl⟩
  obtain ⟨qi, HQI⟩ : ∃ n, Hid ((qopL (getL c.x.params kQop)).isSome = n) := ⟨_, rfl⟩
  go_enter Tryz.func38, Tryz.ntmps38
  go_upto_region 1 with fail
  clear hW0
  go_wp2_with fail
  refine (algorithm_any c HF.out _ HK.out.ok).mono ?_
  rintro e w1 ⟨rfl, hb1⟩
  rw [HA.out]
  have HK1 : Hid (KnF w w1 c) := HK.out.below hb1
  clear hb1 x0 x1 x2
  obtain ⟨x0, x1, x2, _, _, _⟩ := HK1.out
  go_wp2_with fail
  refine (getC c ⟨#[110, 111, 110, 99, 101]⟩ kNonce rfl HF.out (by decide) n ni HN.out HNI.out _ HK1.out.ok).mono ?_
  rintro e w2 ⟨rfl, hb2⟩
  have HK2 : Hid (KnF w w2 c) := HK1.out.below hb2
  clear hb2 x0 x1 x2
  obtain ⟨x0, x1, x2, _, _, _⟩ := HK2.out
  have hpr : Calls Tryz.prog 67 #[.agg #[.string c.x.scheme, .string c.x.token, .slice c.a c.len c.cap]] w2 fun e w' => e = .returned (.tuple #[.string q, .bool qi]) ∧ Below w2.heap.size w2 w' := by
    rw [← HQ.out, ← HQI.out]
    exact protection_any c HF.out w2 HK2.out.ok
  go_wp2_with fail
  refine hpr.mono ?_
  rintro e w3 ⟨rfl, hb3⟩
  have HK3 : Hid (KnF w w3 c) := HK2.out.below hb3
  clear hb3 x0 x1 x2 hpr
  by_cases ha0 : A.1 = 0
  · have HO : Hid (digestL c.x.params realm = none) := by show _ = _; unfold digestL; rw [HA.out, if_pos ha0]
    have ha0' : ((A.1 : Int) == 0) = true := by rw [ha0]; rfl
    have hres := HK3.out.res
    unfold zeroCells at hres
    obtain ⟨⟨r0, r1, r2, r3, r4, r5, r6, r7⟩, fr⟩ := eight hres
    have HRES : Hid (w3.heap[w.heap.size + 1]? = some (.cells #[.int .i64 0, .string ⟨#[]⟩, .string ⟨#[]⟩, .string ⟨#[]⟩, .bool false, .string ⟨#[]⟩, .bool false, .slice none 0 0] 24 (0, 0))) := hres
    clear hres
    go_wp2
    have z1 := setEight_at HRES.out (.int .i64 0) (.string ⟨#[]⟩) (.string ⟨#[]⟩) (.string ⟨#[]⟩) (.bool false) (.string ⟨#[]⟩) (.bool false) (.slice none 0 0)
    have z2 := setEight_grown w3 (w.heap.size + 1) (.int .i64 0) (.string ⟨#[]⟩) (.string ⟨#[]⟩) (.string ⟨#[]⟩) (.bool false) (.string ⟨#[]⟩) (.bool false) (.slice none 0 0)
    unfold setEight at z1 z2
    obtain ⟨⟨e0, e1, e2, e3, e4, e5, e6, e7⟩, _⟩ := eight z1
    exact bodyPost_ret (v := .tuple #[.agg #[.int .i64 0, .string ⟨#[]⟩, .string ⟨#[]⟩, .string ⟨#[]⟩, .bool false, .string ⟨#[]⟩, .bool false, .slice none 0 0], .bool false]) (by simp [results, Tryz.f38, go_sem, e0, e1, e2, e3, e4, e5, e6, e7]) rfl ⟨⟨.slice none 0 0, by rw [HO.out]; rfl, by rw [HO.out]; exact ownS_nil _ _⟩, HK3.out.bel.grown z2 HK3.out.bel.size (fun i hi => by injection hi with hi; omega)⟩
  · have ha0' : ((A.1 : Int) == 0) = false := beq_eq_false_iff_ne.2 (by omega)
    cases ni
    · have HO : Hid (digestL c.x.params realm = none) := by
        show _ = _
        unfold digestL
        rw [HA.out, if_neg ha0, none_of HNI.out]
      have hres := HK3.out.res
      unfold zeroCells at hres
      obtain ⟨⟨r0, r1, r2, r3, r4, r5, r6, r7⟩, fr⟩ := eight hres
      have HRES : Hid (w3.heap[w.heap.size + 1]? = some (.cells #[.int .i64 0, .string ⟨#[]⟩, .string ⟨#[]⟩, .string ⟨#[]⟩, .bool false, .string ⟨#[]⟩, .bool false, .slice none 0 0] 24 (0, 0))) := hres
      clear hres
      go_wp2
      have z1 := setEight_at HRES.out (.int .i64 0) (.string ⟨#[]⟩) (.string ⟨#[]⟩) (.string ⟨#[]⟩) (.bool false) (.string ⟨#[]⟩) (.bool false) (.slice none 0 0)
      have z2 := setEight_grown w3 (w.heap.size + 1) (.int .i64 0) (.string ⟨#[]⟩) (.string ⟨#[]⟩) (.string ⟨#[]⟩) (.bool false) (.string ⟨#[]⟩) (.bool false) (.slice none 0 0)
      unfold setEight at z1 z2
      obtain ⟨⟨e0, e1, e2, e3, e4, e5, e6, e7⟩, _⟩ := eight z1
      exact bodyPost_ret (v := .tuple #[.agg #[.int .i64 0, .string ⟨#[]⟩, .string ⟨#[]⟩, .string ⟨#[]⟩, .bool false, .string ⟨#[]⟩, .bool false, .slice none 0 0], .bool false]) (by simp [results, Tryz.f38, go_sem, e0, e1, e2, e3, e4, e5, e6, e7]) rfl ⟨⟨.slice none 0 0, by rw [HO.out]; rfl, by rw [HO.out]; exact ownS_nil _ _⟩, HK3.out.bel.grown z2 HK3.out.bel.size (fun i hi => by injection hi with hi; omega)⟩
    · cases qi
      · have HO : Hid (digestL c.x.params realm = none) := by
          show _ = _
          unfold digestL
          rw [HA.out, if_neg ha0, none_of HQI.out]
          split <;> rfl
        have hres := HK3.out.res
        unfold zeroCells at hres
        obtain ⟨⟨r0, r1, r2, r3, r4, r5, r6, r7⟩, fr⟩ := eight hres
        have HRES : Hid (w3.heap[w.heap.size + 1]? = some (.cells #[.int .i64 0, .string ⟨#[]⟩, .string ⟨#[]⟩, .string ⟨#[]⟩, .bool false, .string ⟨#[]⟩, .bool false, .slice none 0 0] 24 (0, 0))) := hres
        clear hres
        go_wp2
        have z1 := setEight_at HRES.out (.int .i64 0) (.string ⟨#[]⟩) (.string ⟨#[]⟩) (.string ⟨#[]⟩) (.bool false) (.string ⟨#[]⟩) (.bool false) (.slice none 0 0)
        have z2 := setEight_grown w3 (w.heap.size + 1) (.int .i64 0) (.string ⟨#[]⟩) (.string ⟨#[]⟩) (.string ⟨#[]⟩) (.bool false) (.string ⟨#[]⟩) (.bool false) (.slice none 0 0)
        unfold setEight at z1 z2
        obtain ⟨⟨e0, e1, e2, e3, e4, e5, e6, e7⟩, _⟩ := eight z1
        exact bodyPost_ret (v := .tuple #[.agg #[.int .i64 0, .string ⟨#[]⟩, .string ⟨#[]⟩, .string ⟨#[]⟩, .bool false, .string ⟨#[]⟩, .bool false, .slice none 0 0], .bool false]) (by simp [results, Tryz.f38, go_sem, e0, e1, e2, e3, e4, e5, e6, e7]) rfl ⟨⟨.slice none 0 0, by rw [HO.out]; rfl, by rw [HO.out]; exact ownS_nil _ _⟩, HK3.out.bel.grown z2 HK3.out.bel.size (fun i hi => by injection hi with hi; omega)⟩
      · obtain ⟨o, HOQ⟩ : ∃ n, Hid ((getL c.x.params kOpq).getD ⟨#[]⟩ = n) := ⟨_, rfl⟩
        obtain ⟨oi, HOI⟩ : ∃ n, Hid ((getL c.x.params kOpq).isSome = n) := ⟨_, rfl⟩
        obtain ⟨st, HST⟩ : ∃ n, Hid ((getL c.x.params kStale).getD ⟨#[]⟩ = n) := ⟨_, rfl⟩
        obtain ⟨si, HSI⟩ : ∃ n, Hid ((getL c.x.params kStale).isSome = n) := ⟨_, rfl⟩
        have hst3 : st.size ≤ 3000 := by rw [← HST.out]; exact getD_size c kStale HF.out
        obtain ⟨D, HD⟩ : ∃ D, Hid (domL ((getL c.x.params kDomain).getD ⟨#[]⟩).data.toList = D) := ⟨_, rfl⟩
        obtain ⟨sb, HSB⟩ : ∃ sb, Hid (sameL st.data.toList kTrue = sb) := ⟨_, rfl⟩
        have HO : Hid (digestL c.x.params realm = some ⟨A.1, realm, n, o, A.2, q, sb, D⟩) := by
          show _ = _
          unfold digestL
          rw [HA.out, if_neg ha0, some_of HNI.out HN.out, some_of HQI.out HQ.out]
          simp only [HOQ.out, HST.out, HSB.out, HD.out]
        obtain ⟨x0, x1, x2, _, _, _⟩ := HK3.out
        go_wp2_with fail
        refine (getC c ⟨#[111, 112, 97, 113, 117, 101]⟩ kOpq rfl HF.out (by decide) o oi HOQ.out HOI.out _ HK3.out.ok).mono ?_
        rintro e w4 ⟨rfl, hb4⟩
        have HK4 : Hid (KnF w w4 c) := HK3.out.below hb4
        clear hb4 x0 x1 x2
        obtain ⟨x0, x1, x2, _, _, _⟩ := HK4.out
        go_wp2_with fail
        refine (getC c ⟨#[115, 116, 97, 108, 101]⟩ kStale rfl HF.out (by decide) st si HST.out HSI.out _ HK4.out.ok).mono ?_
        rintro e w5 ⟨rfl, hb5⟩
        have HK5 : Hid (KnF w w5 c) := HK4.out.below hb5
        clear hb5 x0 x1 x2
        obtain ⟨x0, x1, x2, _, _, _⟩ := HK5.out
        have hsame : ∀ w, Calls Tryz.prog 23 #[.string st, .string ⟨#[116, 114, 117, 101]⟩] w fun e w' => e = .returned (.bool sb) ∧ Below w.heap.size w w' := fun w => by
          rw [← HSB.out]
          exact same_any st ⟨#[116, 114, 117, 101]⟩ (by omega) (by decide) w
        have hdom : ∀ w', ChOk w' c → Calls Tryz.prog 68 #[.agg #[.string c.x.scheme, .string c.x.token, .slice c.a c.len c.cap]] w' fun e w'' => (∃ (a : Option Addr) (k cap : Nat), e = .returned (.slice a k cap) ∧ OwnS w'' w'.heap.size (.slice a k cap) D) ∧ Below w'.heap.size w' w'' := fun w' h => by
          rw [← HD.out]
          refine (domain_any c HF.out w' h).mono ?_
          rintro e w'' ⟨⟨v, rfl, ho⟩, hb⟩
          obtain ⟨a, cap, g, rfl, _⟩ := ho.strs
          exact ⟨⟨a, _, cap, rfl, ho⟩, hb⟩
        have hQ : w5.drew.cell? ⟨w.heap.size, 0, none⟩ = some (.string c.x.scheme) ∧ w5.drew.cell? ⟨w.heap.size, 1, none⟩ = some (.string c.x.token) ∧ w5.drew.cell? ⟨w.heap.size, 2, none⟩ = some (.slice c.a c.len c.cap) ∧ Hid (KnG w w5.drew c) :=
          ⟨x0, x1, x2, ⟨HK5.out.ok.len_eq, HK5.out.ok.lies, HK5.out.ok.one, HK5.out.ok.two⟩, ⟨HK5.out.bel.os, HK5.out.bel.tape, HK5.out.bel.output, HK5.out.bel.size, HK5.out.bel.block⟩, _, _, _, _, _, _, _, _, HK5.out.res⟩
        go_wp2
        go_region_held3 (fun W => W.cell? ⟨w.heap.size, 0, none⟩ = some (.string c.x.scheme) ∧ W.cell? ⟨w.heap.size, 1, none⟩ = some (.string c.x.token) ∧ W.cell? ⟨w.heap.size, 2, none⟩ = some (.slice c.a c.len c.cap) ∧ Hid (KnG w W c)) (with_reducible assumption) (
          (first
            | (go_at_call 23; refine (hsame _).mono ?_; rintro e w6 ⟨rfl, hb6⟩; have hQ6 := keepK (by assumption) hb6)
            | (go_at_call 68; refine (hdom _ (by have hq := hQ6; exact hq.2.2.2.out.1)).mono ?_; rintro e w7 ⟨⟨da, dk, dc, rfl, hown7⟩, hb7⟩; have hQ7 := keepK hQ6 hb7; obtain ⟨u0, u1, u2, u3, u4, u5, u6, u7, hr7⟩ := hQ7.2.2.2.out.2.2; obtain ⟨⟨r0, r1, r2, r3, r4, r5, r6, r7⟩, fr⟩ := eight hr7; have hQ8 := keepE hQ7 HCB.out (.int .i64 (A.1 : Int)) (.string realm) (.string n) (.string o) (.bool A.2) (.string q) (.bool sb) (.slice da dk dc); unfold setEight at hQ8)))
        obtain ⟨_, _, _, _, _, _, _, _, hr6⟩ := hQ6.2.2.2.out.2.2
        have hl6 := (Array.getElem?_eq_some_iff.1 hr6).1
        have HFIN : Hid (Below w.heap.size w w7 ∧ OwnS w7 w6.heap.size (.slice da dk dc) D ∧ w.heap.size + 1 < w6.heap.size ∧ w7.heap[w.heap.size + 1]? = some (.cells #[u0, u1, u2, u3, u4, u5, u6, u7] 24 (0, 0))) := ⟨hQ7.2.2.2.out.2.1, hown7, hl6, hr7⟩
        clear hQ8 hQ7 hQ6 hQ r0 r1 r2 r3 r4 r5 r6 r7 fr hr7 hown7 hr6 hl6
        go_wp2
        have z1 := setEight_at HFIN.out.2.2.2 (.int .i64 (A.1 : Int)) (.string realm) (.string n) (.string o) (.bool A.2) (.string q) (.bool sb) (.slice da dk dc)
        have z2 := setEight_grown w7 (w.heap.size + 1) (.int .i64 (A.1 : Int)) (.string realm) (.string n) (.string o) (.bool A.2) (.string q) (.bool sb) (.slice da dk dc)
        unfold setEight at z1 z2
        obtain ⟨⟨e0, e1, e2, e3, e4, e5, e6, e7⟩, _⟩ := eight z1
        exact bodyPost_ret (v := .tuple #[.agg #[.int .i64 (A.1 : Int), .string realm, .string n, .string o, .bool A.2, .string q, .bool sb, .slice da dk dc], .bool true]) (by simp [results, Tryz.f38, go_sem, e0, e1, e2, e3, e4, e5, e6, e7]) rfl ⟨⟨.slice da dk dc, by rw [HO.out]; rfl, by rw [HO.out]; exact World.ownsRow.mono (HFIN.out.2.1.grown z2 HFIN.out.2.2.1) (by have := HFIN.out.2.2.1; omega)⟩, HFIN.out.1.grown z2 HFIN.out.1.size (fun i hi => by injection hi with hi; omega)⟩
end Go.Proofs.YtgajhmmildbkfaaGreatDoor

/- What a challenge asks for, by the program. -/
namespace Go.Proofs.YtgajhmmildbkfaaGreatDoor
open Go.RowKit

/-- Challenges whose texts are not too long. -/
def Mild (c : Chal) : Prop := Few c.params ∧ c.scheme.size ≤ 3000
set_option maxRecDepth 100000 in
set_option maxHeartbeats 4000000 in
theorem known_any (c : ChV) (hm : Mild c.x) (w : World) (hx : ChOk w c) :
    Calls Tryz.prog 14 #[.agg #[.string c.x.scheme, .string c.x.token, .slice c.a c.len c.cap]] w fun e w' => KnAns (knownL c.x) w.heap.size e w' ∧ Below w.heap.size w w' := by
  have HF : Hid (Few c.x.params) := hm.1
  have hz3 : c.x.scheme.size ≤ 3000 := hm.2
  have HK0 := knF_start hx
  generalize hW0 : ((w.alloc (.cells #[.string c.x.scheme, .string c.x.token, .slice c.a c.len c.cap] 38)).alloc (.cells zeroCells 24)) = W0 at HK0
  have HK : Hid (KnF w W0 c) := HK0
  obtain ⟨x0, x1, x2, _, _, _⟩ := HK0
  unfold zeroCells at hW0
  clear hx hm
  obtain ⟨r, HR⟩ : ∃ n, Hid ((getL c.x.params kRealm).getD ⟨#[]⟩ = n) := ⟨_, rfl⟩
  obtain ⟨ri, HRI⟩ : ∃ n, Hid ((getL c.x.params kRealm).isSome = n) := ⟨_, rfl⟩
  go_enter Tryz.func14, Tryz.ntmps14
  go_upto_region 1 with fail
  clear hW0
  go_wp2_with fail
  refine (getC c ⟨#[114, 101, 97, 108, 109]⟩ kRealm rfl HF.out (by decide) r ri HR.out HRI.out _ HK.out.ok).mono ?_
  rintro e w1 ⟨rfl, hb1⟩
  have HK1 : Hid (KnF w w1 c) := HK.out.below hb1
  clear hb1 x0 x1 x2
  cases ri
  · have HO : Hid (knownL c.x = none) := by show _ = _; unfold knownL; rw [none_of HRI.out]
    have hres := HK1.out.res
    unfold zeroCells at hres
    obtain ⟨⟨r0, r1, r2, r3, r4, r5, r6, r7⟩, fr⟩ := eight hres
    have HRES : Hid (w1.heap[w.heap.size + 1]? = some (.cells #[.int .i64 0, .string ⟨#[]⟩, .string ⟨#[]⟩, .string ⟨#[]⟩, .bool false, .string ⟨#[]⟩, .bool false, .slice none 0 0] 24 (0, 0))) := hres
    clear hres
    go_wp2
    have z1 := setEight_at HRES.out (.int .i64 0) (.string ⟨#[]⟩) (.string ⟨#[]⟩) (.string ⟨#[]⟩) (.bool false) (.string ⟨#[]⟩) (.bool false) (.slice none 0 0)
    have z2 := setEight_grown w1 (w.heap.size + 1) (.int .i64 0) (.string ⟨#[]⟩) (.string ⟨#[]⟩) (.string ⟨#[]⟩) (.bool false) (.string ⟨#[]⟩) (.bool false) (.slice none 0 0)
    unfold setEight at z1 z2
    obtain ⟨⟨e0, e1, e2, e3, e4, e5, e6, e7⟩, _⟩ := eight z1
    exact bodyPost_ret (v := .tuple #[.agg #[.int .i64 0, .string ⟨#[]⟩, .string ⟨#[]⟩, .string ⟨#[]⟩, .bool false, .string ⟨#[]⟩, .bool false, .slice none 0 0], .bool false]) (by simp [results, Tryz.f14, go_sem, e0, e1, e2, e3, e4, e5, e6, e7]) rfl ⟨⟨.slice none 0 0, by rw [HO.out]; rfl, by rw [HO.out]; exact ownS_nil _ _⟩, HK1.out.bel.grown z2 HK1.out.bel.size (fun i hi => by injection hi with hi; omega)⟩
  · have HRS : Hid (getL c.x.params kRealm = some r) := some_of HRI.out HR.out
    obtain ⟨x0, x1, x2, _, _, _⟩ := HK1.out
    have hsb := same_any c.x.scheme ⟨#[98, 97, 115, 105, 99]⟩ (by omega) (by decide) w1
    go_wp2_with fail
    refine hsb.mono ?_
    rintro e w2 ⟨rfl, hb2⟩
    have HK2 : Hid (KnF w w2 c) := HK1.out.below hb2
    clear hb2 x0 x1 x2 hsb
    cases hba : sameL c.x.scheme.data.toList (⟨#[98, 97, 115, 105, 99]⟩ : ByteArray).data.toList
    · obtain ⟨x0, x1, x2, _, _, _⟩ := HK2.out
      have hsd := same_any c.x.scheme ⟨#[100, 105, 103, 101, 115, 116]⟩ (by omega) (by decide) w2
      go_wp2_with fail
      refine hsd.mono ?_
      rintro e w3 ⟨rfl, hb3⟩
      have HK3 : Hid (KnF w w3 c) := HK2.out.below hb3
      clear hb3 x0 x1 x2 hsd
      cases hdi : sameL c.x.scheme.data.toList (⟨#[100, 105, 103, 101, 115, 116]⟩ : ByteArray).data.toList
      · have HO : Hid (knownL c.x = none) := by
          show _ = _
          unfold knownL
          rw [HRS.out]
          simp only []
          rw [if_neg (by rw [show sameL c.x.scheme.data.toList kBasic = false from hba]; simp), if_neg (by rw [show sameL c.x.scheme.data.toList kDigest = false from hdi]; simp)]
        have hres := HK3.out.res
        unfold zeroCells at hres
        obtain ⟨⟨r0, r1, r2, r3, r4, r5, r6, r7⟩, fr⟩ := eight hres
        have HRES : Hid (w3.heap[w.heap.size + 1]? = some (.cells #[.int .i64 0, .string ⟨#[]⟩, .string ⟨#[]⟩, .string ⟨#[]⟩, .bool false, .string ⟨#[]⟩, .bool false, .slice none 0 0] 24 (0, 0))) := hres
        clear hres
        go_wp2
        have z1 := setEight_at HRES.out (.int .i64 0) (.string ⟨#[]⟩) (.string ⟨#[]⟩) (.string ⟨#[]⟩) (.bool false) (.string ⟨#[]⟩) (.bool false) (.slice none 0 0)
        have z2 := setEight_grown w3 (w.heap.size + 1) (.int .i64 0) (.string ⟨#[]⟩) (.string ⟨#[]⟩) (.string ⟨#[]⟩) (.bool false) (.string ⟨#[]⟩) (.bool false) (.slice none 0 0)
        unfold setEight at z1 z2
        obtain ⟨⟨e0, e1, e2, e3, e4, e5, e6, e7⟩, _⟩ := eight z1
        exact bodyPost_ret (v := .tuple #[.agg #[.int .i64 0, .string ⟨#[]⟩, .string ⟨#[]⟩, .string ⟨#[]⟩, .bool false, .string ⟨#[]⟩, .bool false, .slice none 0 0], .bool false]) (by simp [results, Tryz.f14, go_sem, e0, e1, e2, e3, e4, e5, e6, e7]) rfl ⟨⟨.slice none 0 0, by rw [HO.out]; rfl, by rw [HO.out]; exact ownS_nil _ _⟩, HK3.out.bel.grown z2 HK3.out.bel.size (fun i hi => by injection hi with hi; omega)⟩
      · have HO : Hid (knownL c.x = digestL c.x.params r) := by
          show _ = _
          unfold knownL
          rw [HRS.out]
          simp only []
          rw [if_neg (by rw [show sameL c.x.scheme.data.toList kBasic = false from hba]; simp), if_pos (show sameL c.x.scheme.data.toList kDigest = true from hdi)]
        obtain ⟨x0, x1, x2, _, _, _⟩ := HK3.out
        go_wp2_with fail
        refine (digest_any c HF.out r _ HK3.out.ok).mono ?_
        rintro e w4 ⟨⟨dv, rfl, hown⟩, hb4⟩
        have HK4 : Hid (KnF w w4 c) := HK3.out.below hb4
        have hl3 := HK3.out.lt
        obtain ⟨da, dc, dg, rfl, _⟩ := hown.strs
        have HOW : Hid (OwnS w4 w3.heap.size (.slice da ((digestL c.x.params r).getD zeroA).domain.length dc) ((digestL c.x.params r).getD zeroA).domain ∧ w.heap.size + 1 < w3.heap.size) := ⟨hown, hl3⟩
        obtain ⟨q, HQ⟩ : ∃ q, Hid ((digestL c.x.params r).getD zeroA = q) := ⟨_, rfl⟩
        obtain ⟨qi, HQI⟩ : ∃ q, Hid ((digestL c.x.params r).isSome = q) := ⟨_, rfl⟩
        rw [HQ.out] at HOW ⊢
        rw [HQI.out]
        clear hb4 x0 x1 x2 hown
        unfold askVal
        have hres := HK4.out.res
        unfold zeroCells at hres
        obtain ⟨⟨r0, r1, r2, r3, r4, r5, r6, r7⟩, fr⟩ := eight hres
        have HRES : Hid (w4.heap[w.heap.size + 1]? = some (.cells #[.int .i64 0, .string ⟨#[]⟩, .string ⟨#[]⟩, .string ⟨#[]⟩, .bool false, .string ⟨#[]⟩, .bool false, .slice none 0 0] 24 (0, 0))) := hres
        clear hres
        go_wp2
        have z1 := setEight_at HRES.out (.int .i64 (q.scheme : Int)) (.string q.realm) (.string q.nonce) (.string q.opq) (.bool q.sess) (.string q.qop) (.bool q.stale) (.slice da q.domain.length dc)
        have z2 := setEight_grown w4 (w.heap.size + 1) (.int .i64 (q.scheme : Int)) (.string q.realm) (.string q.nonce) (.string q.opq) (.bool q.sess) (.string q.qop) (.bool q.stale) (.slice da q.domain.length dc)
        unfold setEight at z1 z2
        obtain ⟨⟨e0, e1, e2, e3, e4, e5, e6, e7⟩, _⟩ := eight z1
        exact bodyPost_ret (v := .tuple #[.agg #[.int .i64 (q.scheme : Int), .string q.realm, .string q.nonce, .string q.opq, .bool q.sess, .string q.qop, .bool q.stale, .slice da q.domain.length dc], .bool qi]) (by simp [results, Tryz.f14, go_sem, e0, e1, e2, e3, e4, e5, e6, e7]) rfl ⟨⟨.slice da q.domain.length dc, by rw [HO.out, HQ.out, HQI.out]; rfl, by rw [HO.out, HQ.out]; exact World.ownsRow.mono (HOW.out.1.grown z2 HOW.out.2) (by have := HOW.out.2; omega)⟩, HK4.out.bel.grown z2 HK4.out.bel.size (fun i hi => by injection hi with hi; omega)⟩
    · have HO : Hid (knownL c.x = some ⟨1, r, ⟨#[]⟩, ⟨#[]⟩, false, ⟨#[]⟩, false, []⟩) := by
        show _ = _
        unfold knownL
        rw [HRS.out]
        simp only []
        rw [if_pos (show sameL c.x.scheme.data.toList kBasic = true from hba)]
      have hres := HK2.out.res
      unfold zeroCells at hres
      obtain ⟨⟨r0, r1, r2, r3, r4, r5, r6, r7⟩, fr⟩ := eight hres
      have HRES : Hid (w2.heap[w.heap.size + 1]? = some (.cells #[.int .i64 0, .string ⟨#[]⟩, .string ⟨#[]⟩, .string ⟨#[]⟩, .bool false, .string ⟨#[]⟩, .bool false, .slice none 0 0] 24 (0, 0))) := hres
      clear hres
      go_wp2
      have z1 := setEight_at HRES.out (.int .i64 1) (.string r) (.string ⟨#[]⟩) (.string ⟨#[]⟩) (.bool false) (.string ⟨#[]⟩) (.bool false) (.slice none 0 0)
      have z2 := setEight_grown w2 (w.heap.size + 1) (.int .i64 1) (.string r) (.string ⟨#[]⟩) (.string ⟨#[]⟩) (.bool false) (.string ⟨#[]⟩) (.bool false) (.slice none 0 0)
      unfold setEight at z1 z2
      obtain ⟨⟨e0, e1, e2, e3, e4, e5, e6, e7⟩, _⟩ := eight z1
      exact bodyPost_ret (v := .tuple #[.agg #[.int .i64 1, .string r, .string ⟨#[]⟩, .string ⟨#[]⟩, .bool false, .string ⟨#[]⟩, .bool false, .slice none 0 0], .bool true]) (by simp [results, Tryz.f14, go_sem, e0, e1, e2, e3, e4, e5, e6, e7]) rfl ⟨⟨.slice none 0 0, by rw [HO.out]; rfl, by rw [HO.out]; exact ownS_nil _ _⟩, HK2.out.bel.grown z2 HK2.out.bel.size (fun i hi => by injection hi with hi; omega)⟩
end Go.Proofs.YtgajhmmildbkfaaGreatDoor

/- The best of challenges, by the program. -/
namespace Go.Proofs.YtgajhmmildbkfaaGreatDoor
open Go.RowKit

def knownV (x : Chal) : AskV := (knownL x).getD zeroA
def betterV (b : AskV) (x : Chal) : AskV := if b.scheme < (knownV x).scheme then knownV x else b
/-- The strongest of what challenges ask for, the first one of these. -/
def bestL (xs : List Chal) : AskV := xs.foldl betterV zeroA
theorem bestL_snoc (xs : List Chal) (k : Nat) (x : Chal) (h : xs[k]? = some x) : bestL (xs.take (k + 1)) = betterV (bestL (xs.take k)) x := by
  obtain ⟨hk, e⟩ := List.getElem?_eq_some_iff.1 h
  unfold bestL
  rw [List.take_succ_eq_append_getElem hk, List.foldl_append, e]
  rfl
theorem knownV_le (x : Chal) : (knownV x).scheme ≤ 3 := by
  unfold knownV
  rcases h : knownL x with _ | a
  · exact Nat.zero_le _
  · exact (known_le x a h).2
theorem best_le (xs : List Chal) : (bestL xs).scheme ≤ 3 := by
  have : ∀ (xs : List Chal) (b : AskV), b.scheme ≤ 3 → (xs.foldl betterV b).scheme ≤ 3 := fun xs => by
    induction xs with
    | nil => intro b hb; exact hb
    | cons x r ih =>
      intro b hb
      refine ih _ ?_
      unfold betterV
      split
      · exact knownV_le x
      · exact hb
  exact this xs zeroA (Nat.zero_le _)
/-- What Best answers. -/
def BsAns (b : AskV) (B : Nat) (e : Ending) (w' : World) : Prop :=
  ∃ dv, e = .returned (.tuple #[askVal b dv, .bool (decide (0 < b.scheme))]) ∧ OwnS w' B dv b.domain
def askCells (b : AskV) (dv : Value) : Array Value := #[.int .i64 (b.scheme : Int), .string b.realm, .string b.nonce, .string b.opq, .bool b.sess, .string b.qop, .bool b.stale, dv]
set_option maxRecDepth 100000 in
set_option maxHeartbeats 4000000 in
theorem best_any (cs : List ChV) (hm : ∀ c ∈ cs, Mild c.x) (a0 : Option Addr) (len cap b off : Nat) (hlen : len ≤ 1000000) (w : World) (hx : Chals w a0 len b off cs) :
    Calls Tryz.prog 16 #[.slice a0 len cap] w fun e w' => BsAns (bestL (xsOf cs)) w.heap.size e w' ∧ Below w.heap.size w w' := by
  have HX : Hid (Chals w a0 len b off cs) := hx
  have HM : Hid (∀ c ∈ cs, Mild c.x) := hm
  have hl := hx.len_eq
  have hz1 : (w.alloc (.cells zeroCells 24)).heap.size = w.heap.size + 1 := by simp
  have HS : Hid (((w.alloc (.cells zeroCells 24)).alloc (.cells zeroCells 24)).heap[w.heap.size + 1]? = some (.cells (askCells zeroA (.slice none 0 0)) 24 (0, 0)) ∧ ((w.alloc (.cells zeroCells 24)).alloc (.cells zeroCells 24)).heap[w.heap.size]? = some (.cells zeroCells 24 (0, 0)) ∧ Below w.heap.size w ((w.alloc (.cells zeroCells 24)).alloc (.cells zeroCells 24))) := by
    refine ⟨?_, ?_, ((Below.refl _ _).alloc (Nat.le_refl _) _).alloc (by simp) _⟩
    · rw [← hz1]; exact heap_alloc_new _ _
    · exact (((Below.refl _ _).alloc (Nat.le_refl _) _ : Below (w.alloc (.cells zeroCells 24)).heap.size (w.alloc (.cells zeroCells 24)) ((w.alloc (.cells zeroCells 24)).alloc (.cells zeroCells 24))).block w.heap.size (by simp)).trans (heap_alloc_new _ _)
  unfold zeroCells at HS
  clear hx hm hz1
  go_enter Tryz.func16, Tryz.ntmps16
  go_wp2
  go_loopw [11] (fun i wr => ∃ (k : Nat) (da : Option Addr) (dk dc : Nat), k ≤ len ∧ i = .int .i64 k ∧ Hid (wr.heap[w.heap.size + 1]? = some (.cells (askCells (bestL ((xsOf cs).take k)) (.slice da dk dc)) 24 (0, 0)) ∧ wr.heap[w.heap.size]? = some (.cells zeroCells 24 (0, 0)) ∧ OwnS wr (w.heap.size + 2) (.slice da dk dc) (bestL ((xsOf cs).take k)).domain ∧ Below w.heap.size w wr)) (fun i _ => len - (intOf i).toNat)
  case atStart => exact ⟨0, none, 0, 0, Nat.zero_le _, rfl, ⟨HS.out.1, HS.out.2.1, ownS_nil _ _, HS.out.2.2⟩⟩
  case round =>
    obtain ⟨k, da, dk, dc, hk, rfl, HI⟩ := hrel
    have hwl : w.heap.size + 1 < wr.heap.size := (Array.getElem?_eq_some_iff.1 HI.out.1).1
    obtain ⟨B0, HB⟩ : ∃ B0, Hid (bestL ((xsOf cs).take k) = B0) := ⟨_, rfl⟩
    have hB3 : B0.scheme ≤ 3 := by rw [← HB.out]; exact best_le _
    rw [HB.out] at HI
    by_cases hlt : k < len
    · obtain ⟨c, hck⟩ : ∃ c, cs[k]? = some c := ⟨cs[k]'(by omega), List.getElem?_eq_getElem (by omega)⟩
      have HNX : Hid (bestL ((xsOf cs).take (k + 1)) = betterV B0 c.x) := by show _ = _; rw [bestL_snoc _ _ _ (xsOf_at hck), HB.out]
      have hX := HX.out.below HI.out.2.2.2
      obtain ⟨ha0, hbl⟩ := hX.lies (by omega)
      have hc1 := hX.one k c hck
      have hc2 := hX.two k c hck
      have hc3 := hX.three k c hck
      have HMC : Hid (Mild c.x) := HM.out c (List.mem_of_getElem? hck)
      have hb1 : Below wr.heap.size wr (wr.alloc (.cells #[.string c.x.scheme, .string c.x.token, .slice c.a c.len c.cap] 38)) := (Below.refl _ _).alloc (Nat.le_refl _) _
      have HOK : Hid (ChOk (wr.alloc (.cells #[.string c.x.scheme, .string c.x.token, .slice c.a c.len c.cap] 38)) c) := (hX.pars c (List.mem_of_getElem? hck)).below hb1
      have HI1 : Hid ((wr.alloc (.cells #[.string c.x.scheme, .string c.x.token, .slice c.a c.len c.cap] 38)).heap[w.heap.size + 1]? = some (.cells (askCells B0 (.slice da dk dc)) 24 (0, 0)) ∧ (wr.alloc (.cells #[.string c.x.scheme, .string c.x.token, .slice c.a c.len c.cap] 38)).heap[w.heap.size]? = some (.cells zeroCells 24 (0, 0)) ∧ OwnS (wr.alloc (.cells #[.string c.x.scheme, .string c.x.token, .slice c.a c.len c.cap] 38)) (w.heap.size + 2) (.slice da dk dc) B0.domain ∧ Below w.heap.size w (wr.alloc (.cells #[.string c.x.scheme, .string c.x.token, .slice c.a c.len c.cap] 38))) :=
        ⟨(hb1.block _ hwl).trans HI.out.1, (hb1.block _ (by omega)).trans HI.out.2.1, HI.out.2.2.1.below hb1, HI.out.2.2.2.trans (hb1.mono HI.out.2.2.2.size)⟩
      have HWZ : Hid (w.heap.size + 2 ≤ (wr.alloc (.cells #[.string c.x.scheme, .string c.x.token, .slice c.a c.len c.cap] 38)).heap.size) := by show _ ≤ _; simp; omega
      subst ha0
      clear hck hX hb1
      go_wp2_with fail
      refine (known_any c HMC.out _ HOK.out).mono ?_
      rintro e w2 ⟨⟨dv, rfl, hown⟩, hb2⟩
      obtain ⟨ea, ec, eg, rfl, _⟩ := hown.strs
      obtain ⟨q, HQ⟩ : ∃ q, Hid ((knownL c.x).getD zeroA = q) := ⟨_, rfl⟩
      obtain ⟨qi, HQI⟩ : ∃ q, Hid ((knownL c.x).isSome = q) := ⟨_, rfl⟩
      have hq3 : q.scheme ≤ 3 := by rw [← HQ.out]; exact knownV_le c.x
      have HQV : Hid (knownV c.x = q) := HQ
      rw [HQ.out] at hown ⊢
      rw [HQI.out]
      obtain ⟨el, HEL⟩ : ∃ el, Hid (q.domain.length = el) := ⟨_, rfl⟩
      rw [HEL.out] at hown ⊢
      unfold askVal
      have hl1 : w.heap.size + 1 < (wr.alloc (.cells #[.string c.x.scheme, .string c.x.token, .slice c.a c.len c.cap] 38)).heap.size := by have := HWZ.out; omega
      have HI2 : Hid (w2.heap[w.heap.size + 1]? = some (.cells (askCells B0 (.slice da dk dc)) 24 (0, 0)) ∧ w2.heap[w.heap.size]? = some (.cells zeroCells 24 (0, 0)) ∧ OwnS w2 (w.heap.size + 2) (.slice da dk dc) B0.domain ∧ Below w.heap.size w w2 ∧ OwnS w2 (w.heap.size + 2) (.slice ea el ec) q.domain) :=
        ⟨(hb2.block _ hl1).trans HI1.out.1, (hb2.block _ (by omega)).trans HI1.out.2.1, HI1.out.2.2.1.below hb2, HI1.out.2.2.2.trans (hb2.mono HI1.out.2.2.2.size), World.ownsRow.mono hown HWZ.out⟩
      have hl2 : w.heap.size + 1 < w2.heap.size := (Array.getElem?_eq_some_iff.1 HI2.out.1).1
      clear hown hb2 HI1 HOK hl1
      have hb3 : Below w2.heap.size w2 (w2.alloc (.cells #[.int .i64 (q.scheme : Int), .string q.realm, .string q.nonce, .string q.opq, .bool q.sess, .string q.qop, .bool q.stale, .slice ea el ec] 24)) := (Below.refl _ _).alloc (Nat.le_refl _) _
      have HI3 : Hid ((w2.alloc (.cells #[.int .i64 (q.scheme : Int), .string q.realm, .string q.nonce, .string q.opq, .bool q.sess, .string q.qop, .bool q.stale, .slice ea el ec] 24)).heap[w.heap.size + 1]? = some (.cells (askCells B0 (.slice da dk dc)) 24 (0, 0)) ∧ (w2.alloc (.cells #[.int .i64 (q.scheme : Int), .string q.realm, .string q.nonce, .string q.opq, .bool q.sess, .string q.qop, .bool q.stale, .slice ea el ec] 24)).heap[w.heap.size]? = some (.cells zeroCells 24 (0, 0)) ∧ OwnS (w2.alloc (.cells #[.int .i64 (q.scheme : Int), .string q.realm, .string q.nonce, .string q.opq, .bool q.sess, .string q.qop, .bool q.stale, .slice ea el ec] 24)) (w.heap.size + 2) (.slice da dk dc) B0.domain ∧ Below w.heap.size w (w2.alloc (.cells #[.int .i64 (q.scheme : Int), .string q.realm, .string q.nonce, .string q.opq, .bool q.sess, .string q.qop, .bool q.stale, .slice ea el ec] 24)) ∧ OwnS (w2.alloc (.cells #[.int .i64 (q.scheme : Int), .string q.realm, .string q.nonce, .string q.opq, .bool q.sess, .string q.qop, .bool q.stale, .slice ea el ec] 24)) (w.heap.size + 2) (.slice ea el ec) q.domain) :=
        ⟨(hb3.block _ hl2).trans HI2.out.1, (hb3.block _ (by omega)).trans HI2.out.2.1, HI2.out.2.2.1.below hb3, HI2.out.2.2.2.1.trans (hb3.mono HI2.out.2.2.2.1.size), HI2.out.2.2.2.2.below hb3⟩
      have hnew : (w2.alloc (.cells #[.int .i64 (q.scheme : Int), .string q.realm, .string q.nonce, .string q.opq, .bool q.sess, .string q.qop, .bool q.stale, .slice ea el ec] 24)).heap[w2.heap.size]? = some (.cells #[.int .i64 (q.scheme : Int), .string q.realm, .string q.nonce, .string q.opq, .bool q.sess, .string q.qop, .bool q.stale, .slice ea el ec] 24 (0, 0)) := heap_alloc_new w2 _
      have HZ3 : Hid (w2.heap.size ≤ (w2.alloc (.cells #[.int .i64 (q.scheme : Int), .string q.realm, .string q.nonce, .string q.opq, .bool q.sess, .string q.qop, .bool q.stale, .slice ea el ec] 24)).heap.size) := hb3.size
      clear hb3
      generalize hW3 : w2.alloc (.cells #[.int .i64 (q.scheme : Int), .string q.realm, .string q.nonce, .string q.opq, .bool q.sess, .string q.qop, .bool q.stale, .slice ea el ec] 24) = W3 at HI3 hnew HZ3
      have hbest := HI3.out.1
      unfold askCells at hbest
      obtain ⟨⟨s0, s1, s2, s3, s4, s5, s6, s7⟩, sf⟩ := eight hbest
      obtain ⟨⟨t0, t1, t2, t3, t4, t5, t6, t7⟩, tf⟩ := eight hnew
      have HBEST : Hid (W3.heap[w.heap.size + 1]? = some (.cells #[.int .i64 (B0.scheme : Int), .string B0.realm, .string B0.nonce, .string B0.opq, .bool B0.sess, .string B0.qop, .bool B0.stale, .slice da dk dc] 24 (0, 0))) := hbest
      clear hbest hnew
      by_cases hgt : B0.scheme < q.scheme
      · have hgt' : (B0.scheme : Int) < (q.scheme : Int) := by omega
        have HBV : Hid (betterV B0 c.x = q) := by show _ = _; unfold betterV; rw [HQV.out, if_pos hgt]
        go_wp2
        have z1 := setEight_at HBEST.out (.int .i64 (q.scheme : Int)) (.string q.realm) (.string q.nonce) (.string q.opq) (.bool q.sess) (.string q.qop) (.bool q.stale) (.slice ea el ec)
        have z2 := setEight_grown W3 (w.heap.size + 1) (.int .i64 (q.scheme : Int)) (.string q.realm) (.string q.nonce) (.string q.opq) (.bool q.sess) (.string q.qop) (.bool q.stale) (.slice ea el ec)
        unfold setEight at z1 z2
        have h0 := (z2.block w.heap.size (by have := HZ3.out; omega) (by intro e; injection e with e; omega)).trans HI3.out.2.1
        have h1 := HI3.out.2.2.2.2.grown z2 (by omega)
        have h2 := HI3.out.2.2.2.1.grown z2 HI3.out.2.2.2.1.size (fun i hi => by injection hi with hi; omega)
        go_roundw
        case rel => exact ⟨k + 1, ea, el, ec, by omega, by go_num, ⟨by rw [HNX.out, HBV.out]; exact z1, h0, by rw [HNX.out, HBV.out]; exact h1, h2⟩⟩
        case measure => simp [intOf]; omega
      · have hgt' : ¬ (B0.scheme : Int) < (q.scheme : Int) := by omega
        have HBV : Hid (betterV B0 c.x = B0) := by show _ = _; unfold betterV; rw [HQV.out, if_neg hgt]
        go_wp2
        go_roundw
        case rel => exact ⟨k + 1, da, dk, dc, by omega, by go_num, ⟨by rw [HNX.out, HBV.out]; exact HI3.out.1, HI3.out.2.1, by rw [HNX.out, HBV.out]; exact HI3.out.2.2.1, HI3.out.2.2.2.1⟩⟩
        case measure => simp [intOf]; omega
    · have HE : Hid (bestL (xsOf cs) = B0) := by
        show _ = _
        rw [← HB.out, List.take_of_length_le (by unfold xsOf; simp; omega)]
      have hbest := HI.out.1
      have hres := HI.out.2.1
      unfold askCells at hbest
      unfold zeroCells at hres
      obtain ⟨⟨s0, s1, s2, s3, s4, s5, s6, s7⟩, sf⟩ := eight hbest
      obtain ⟨⟨r0, r1, r2, r3, r4, r5, r6, r7⟩, rf⟩ := eight hres
      have HRES : Hid (wr.heap[w.heap.size]? = some (.cells #[.int .i64 0, .string ⟨#[]⟩, .string ⟨#[]⟩, .string ⟨#[]⟩, .bool false, .string ⟨#[]⟩, .bool false, .slice none 0 0] 24 (0, 0))) := hres
      clear hbest hres
      go_wp2
      go_region
      go_wp2
      have z1 := setEight_at HRES.out (.int .i64 (B0.scheme : Int)) (.string B0.realm) (.string B0.nonce) (.string B0.opq) (.bool B0.sess) (.string B0.qop) (.bool B0.stale) (.slice da dk dc)
      have z2 := setEight_grown wr w.heap.size (.int .i64 (B0.scheme : Int)) (.string B0.realm) (.string B0.nonce) (.string B0.opq) (.bool B0.sess) (.string B0.qop) (.bool B0.stale) (.slice da dk dc)
      obtain ⟨Y, hY⟩ : ∃ Y, setEight wr w.heap.size (.int .i64 (B0.scheme : Int)) (.string B0.realm) (.string B0.nonce) (.string B0.opq) (.bool B0.sess) (.string B0.qop) (.bool B0.stale) (.slice da dk dc) = Y := ⟨_, rfl⟩
      rw [hY] at z1 z2
      unfold setEight at hY
      rw [hY]
      clear hY
      have hd : Below Y.heap.size Y Y.drew := ⟨rfl, rfl, rfl, Nat.le_refl _, fun _ _ => rfl⟩
      have z3 : Y.drew.heap[w.heap.size]? = some (.cells #[.int .i64 (B0.scheme : Int), .string B0.realm, .string B0.nonce, .string B0.opq, .bool B0.sess, .string B0.qop, .bool B0.stale, .slice da dk dc] 24 (0, 0)) := z1
      obtain ⟨⟨e0, e1, e2, e3, e4, e5, e6, e7⟩, _⟩ := eight z3
      have ho := (HI.out.2.2.1.grown z2 (by omega)).below hd
      have hb := HI.out.2.2.2.grown z2 HI.out.2.2.2.size (fun i hi => by injection hi with hi; omega)
      have hbd := hb.trans (hd.mono hb.size)
      exact bodyPost_ret (v := .tuple #[.agg #[.int .i64 (B0.scheme : Int), .string B0.realm, .string B0.nonce, .string B0.opq, .bool B0.sess, .string B0.qop, .bool B0.stale, .slice da dk dc], .bool (decide (0 < B0.scheme))]) (by simp [results, Tryz.f16, go_sem, e0, e1, e2, e3, e4, e5, e6, e7]) rfl ⟨⟨.slice da dk dc, by rw [HE.out]; rfl, by rw [HE.out]; exact World.ownsRow.mono ho (by omega)⟩, hbd⟩
end Go.Proofs.YtgajhmmildbkfaaGreatDoor

/- The fact on challenges, walked. -/
namespace Go.Proofs.YtgajhmmildbkfaaGreatDoor
open Go.RowKit

abbrev askText : ByteArray := ⟨#[66, 97, 115, 105, 99, 32, 114, 101, 97, 108, 109, 61, 34, 114, 34, 44, 32, 44, 32, 68, 105, 103, 101, 115, 116, 32, 110, 111, 110, 99, 101, 32, 61, 32, 110, 44, 114, 101, 97, 108, 109, 61, 115, 44, 78, 101, 103, 111, 116, 105, 97, 116, 101, 32, 97, 98, 99, 61, 61]⟩
def askXs : List Chal := [⟨⟨#[66, 97, 115, 105, 99]⟩, ⟨#[]⟩, [(⟨#[114, 101, 97, 108, 109]⟩, ⟨#[114]⟩)]⟩, ⟨⟨#[68, 105, 103, 101, 115, 116]⟩, ⟨#[]⟩, [(⟨#[110, 111, 110, 99, 101]⟩, ⟨#[110]⟩), (⟨#[114, 101, 97, 108, 109]⟩, ⟨#[115]⟩)]⟩, ⟨⟨#[78, 101, 103, 111, 116, 105, 97, 116, 101]⟩, ⟨#[97, 98, 99, 61, 61]⟩, []⟩]
theorem askText_is : askL askText.data.toList = .ok askXs := by kernel_rfl
theorem askBest_is : bestL askXs = ⟨2, ⟨#[115]⟩, ⟨#[110]⟩, ⟨#[]⟩, false, ⟨#[]⟩, false, []⟩ := by kernel_rfl
theorem slight_mild {c : ChV} (h : Slight c) : Mild c.x := ⟨⟨by have := h.1.1; omega, h.1.2⟩, h.2.1⟩
set_option maxRecDepth 100000 in
set_option maxHeartbeats 4000000 in
theorem asked_any (w : World) : Calls Tryz.prog 6 #[] w fun e w' => e = .returned (.bool true) ∧ Below w.heap.size w w' := by
  have hpz : askText.size ≤ 3000 := by decide
  go_enter Tryz.func6, Tryz.ntmps6
  go_wp2_with fail
  refine (parse_any askText hpz _).mono ?_
  rintro e w1 ⟨⟨cs, v, h1, h2, h3, rfl, hown⟩ | ⟨n, left, v, h1, _⟩, hb1⟩
  · have hxs : xsOf cs = askXs := Except.ok.inj (h1.symm.trans askText_is)
    obtain ⟨a, cap, g, ds, rfl, hC, hx, hBg, _⟩ := hown.chals
    have hxd : xsOf ds = askXs := hx.trans hxs
    have hl3 : cs.length = 3 := by rw [← xsOf_len, hxs]; rfl
    rw [hl3] at hC ⊢
    have hd : ∀ d ∈ ds, Mild d.x := fun d hd => by
      obtain ⟨c, hc, e⟩ : ∃ c ∈ cs, c.x = d.x := by
        have : d.x ∈ xsOf cs := by rw [← hx]; exact List.mem_map.2 ⟨d, hd, rfl⟩
        obtain ⟨c, hc, e⟩ := List.mem_map.1 this
        exact ⟨c, hc, e⟩
      rw [← e]
      exact slight_mild (h3 c hc)
    have HM : Hid (∀ d ∈ ds, Mild d.x) := hd
    have HC : Hid (Chals w1 a 3 g 0 ds) := hC
    have hds : ds.length = 3 := hC.len_eq
    obtain ⟨ha, hgl⟩ := hC.lies (by omega)
    subst ha
    obtain ⟨d0, d1, d2, rfl⟩ : ∃ d0 d1 d2, ds = [d0, d1, d2] := by
      match ds, hds with
      | [d0, d1, d2], _ => exact ⟨d0, d1, d2, rfl⟩
    have e0 : d0.x = ⟨⟨#[66, 97, 115, 105, 99]⟩, ⟨#[]⟩, [(⟨#[114, 101, 97, 108, 109]⟩, ⟨#[114]⟩)]⟩ := (List.cons.inj hxd).1
    have e2 : d2.x = ⟨⟨#[78, 101, 103, 111, 116, 105, 97, 116, 101]⟩, ⟨#[97, 98, 99, 61, 61]⟩, []⟩ := (List.cons.inj (List.cons.inj (List.cons.inj hxd).2).2).1
    have ht2 : w1.cell? ⟨g, 7, none⟩ = some (.string ⟨#[97, 98, 99, 61, 61]⟩) := by
      have := hC.two 2 d2 rfl
      rw [e2] at this
      exact this
    have hp0 : w1.cell? ⟨g, 2, none⟩ = some (.slice d0.a 1 d0.cap) := by
      have := hC.three 0 d0 rfl
      unfold ChV.len at this
      rw [e0] at this
      exact this
    have HX : Hid (bestL (xsOf [d0, d1, d2]) = ⟨2, ⟨#[115]⟩, ⟨#[110]⟩, ⟨#[]⟩, false, ⟨#[]⟩, false, []⟩) := by show _ = _; rw [hxd]; exact askBest_is
    clear hd hC hxd hx hxs h1 h2 h3 hown hBg e0 e2 hl3 hds
    go_wp2_with fail
    refine (best_any _ HM.out _ 3 cap g 0 (by omega) _ HC.out).mono ?_
    rintro e w2 ⟨⟨dv, rfl, ho⟩, hb2⟩
    rw [HX.out] at ho ⊢
    obtain ⟨da, dc, dg, rfl, _⟩ := ho.strs
    have k1 := (hb2.cell (p := ⟨g, 7, none⟩) hgl).trans ht2
    have k2 := (hb2.cell (p := ⟨g, 2, none⟩) hgl).trans hp0
    have HB : Hid (Below w.heap.size w w2) := hb1.trans (hb2.mono hb1.size)
    have hgl2 : g < w2.heap.size := Nat.lt_of_lt_of_le hgl hb2.size
    unfold askVal
    simp only []
    clear ho hb2 ht2 hp0 hb1
    go_wp2
    go_ret
    exact ⟨rfl, HB.out.alloc HB.out.size _⟩
  · rw [askText_is] at h1
    cases h1
end Go.Proofs.YtgajhmmildbkfaaGreatDoor

/- Whether a text is a word, by the program. -/
namespace Go.Proofs.YtgajhmmildbkfaaGreatDoor
open Go.RowKit

set_option maxHeartbeats 1000000 in
theorem is_any (s : ByteArray) (hs : s.size ≤ 5000) (w : World) :
    Calls Tryz.prog 24 #[.string s] w fun e w' => e = .returned (.bool (isL s.data.toList)) ∧ w' = w := by
  by_cases h0 : s.size = 0
  · have HI : Hid (isL s.data.toList = false) := isL_empty s h0
    obtain rfl : s = ⟨#[]⟩ := by
      apply ByteArray.ext
      exact Array.eq_empty_of_size_eq_zero h0
    go_enter Tryz.func24, Tryz.ntmps24
    go_wp2
    go_ret
    exact ⟨ret_bool HI.out.symm, rfl⟩
  · have HI : Hid (isL s.data.toList = decide ((runL tokB s.data.toList : Int) = (s.size : Int))) := isL_run s (by omega)
    have hne : (s.toList == ([] : List UInt8)) = false := by
      rw [beq_eq_false_iff_ne]
      intro e
      have h5 : s.data.toList = [] := by
        rw [← ByteArray.toList_eq]
        exact e
      have h6 : s.data.toList.length = s.size := Array.length_toList
      rw [h5] at h6
      exact h0 h6.symm
    obtain ⟨n, HN⟩ : ∃ n : Int, Hid ((runL tokB s.data.toList : Int) = n) := ⟨_, rfl⟩
    go_enter Tryz.func24, Tryz.ntmps24
    go_wp2_with (go_at_call 45; refine (run_any _ _ kind_byte s (by omega) _).mono ?_; rintro e w' ⟨rfl, rfl⟩; rw [HN.out])
    go_ret
    exact ⟨ret_bool (by rw [HI.out, HN.out]; rfl), rfl⟩
end Go.Proofs.YtgajhmmildbkfaaGreatDoor

/- The library's contracts that are leant on, laid at this program's numbers. -/
namespace Go.Proofs.YtgajhmmildbkfaaGreatDoor
open Go.Shelf Go.RowKit
def lays193_ren : Go.Shelf.Ren := ⟨fun | 193 => 21 | n => n, fun | 31 => 22 | 9 => 9 | 4 => 4 | 3 => 3 | 0 => 0 | n => n, fun | n => n⟩
theorem lays193 : Go.Proofs.Lays.n193 Tryz.prog lays193_ren := {
  mixed := by kernel_rfl
  f193 := Tryz.func21.trans (congrArg some (by kernel_rfl))
  t0 := Tryz.underlying0
  a0 := Tryz.isAgg0
  z0 := Tryz.sizeOf0
  v0 := Tryz.zeroValue0
  t3 := Tryz.underlying3
  a3 := Tryz.isAgg3
  z3 := Tryz.sizeOf3
  v3 := Tryz.zeroValue3
  t4 := Tryz.underlying4
  a4 := Tryz.isAgg4
  z4 := Tryz.sizeOf4
  v4 := Tryz.zeroValue4
  t9 := Tryz.underlying9
  a9 := Tryz.isAgg9
  z9 := Tryz.sizeOf9
  v9 := Tryz.zeroValue9
  t31 := Tryz.underlying22
  a31 := Tryz.isAgg22
  z31 := Tryz.sizeOf22
  v31 := Tryz.zeroValue22 }
end Go.Proofs.YtgajhmmildbkfaaGreatDoor

/- Two rows of the same texts are equal, by the library's own function. -/
namespace Go.Proofs.YtgajhmmildbkfaaGreatDoor
open Go.RowKit Go.Shelf

theorem equal_same (a1 a2 : Option Addr) (n c b1 o1 d b2 o2 : Nat) (xs : List ByteArray) (w : World) (hn : n ≤ 1000000) (h1 : Strs w a1 n b1 o1 xs) (h2 : Strs w a2 n b2 o2 xs) :
    Calls Tryz.prog 21 #[.slice a1 n c, .slice a2 n d] w fun e w' => e = .returned (.bool true) ∧ ∃ q, w' = w.drewN q := by
  by_cases h0 : n = 0
  · subst h0
    refine (Any.slices_Equal_string_empty lays193 a1 a2 c 0 d w (by omega)).mono ?_
    rintro e w' ⟨rfl, rfl⟩
    exact ⟨rfl, 0, rfl⟩
  · obtain ⟨rfl, _⟩ := h1.lies (by omega)
    obtain ⟨rfl, _⟩ := h2.lies (by omega)
    have hl := h1.len_eq
    have hc : ∀ (b o : Nat), (∀ (j : Nat) (x : ByteArray), xs[j]? = some x → w.cell? ⟨b, o + j, none⟩ = some (.string x)) → ∀ j, j < xs.length → w.cell? ⟨b, o + j, none⟩ = some (.string (xs.getD j ByteArray.empty)) := by
      intro b o h j hj
      have : xs[j]? = some xs[j] := List.getElem?_eq_getElem hj
      rw [h j _ this]
      simp [List.getD, this]
    refine (Any.slices_Equal_string lays193 b1 o1 n c b2 o2 n d xs xs w (by omega) (by omega) (by omega) (by omega) (hc b1 o1 h1.cells) (hc b2 o2 h2.cells)).mono ?_
    rintro e w' ⟨rfl, hq⟩
    exact ⟨by simp, hq⟩
end Go.Proofs.YtgajhmmildbkfaaGreatDoor

/- The fact of words, lists and texts between marks, by the program. -/
namespace Go.Proofs.YtgajhmmildbkfaaGreatDoor
open Go.RowKit Go.Shelf

theorem strs_two (w : World) (x y : ByteArray) : Strs (w.alloc (.cells #[.string x, .string y] 9)) (some ⟨w.heap.size, 0, none⟩) 2 w.heap.size 0 [x, y] := by
  refine ⟨rfl, fun _ => ⟨rfl, by simp⟩, fun j z hz => ?_⟩
  rw [cells_at]
  match j, hz with
  | 0, hz => cases hz; rfl
  | 1, hz => cases hz; rfl
  | j + 2, hz => simp at hz
theorem texts_ab {xs : List ByteArray} (h : texts xs = [[97], [98]]) : xs = [⟨#[97]⟩, ⟨#[98]⟩] := by
  unfold texts at h
  match xs, h with
  | [], h => simp at h
  | [x], h => simp at h
  | x :: y :: z :: r, h => simp at h
  | [x, y], h =>
    simp only [List.map_cons, List.map_nil, List.cons.injEq, and_true] at h
    have e1 : x = bs [97] := by rw [← h.1, bs_self]
    have e2 : y = bs [98] := by rw [← h.2, bs_self]
    rw [e1, e2]
    rfl
theorem list_ab : listP 0 (splitL 44 (⟨#[32, 97, 32, 44, 32, 44, 98, 9]⟩ : ByteArray).data.toList) = .ok [[97], [98]] := by rfl
theorem quote_ab : quoteO (⟨#[97, 34, 98]⟩ : ByteArray).data.toList = some (quoteL (⟨#[97, 34, 98]⟩ : ByteArray).data.toList) := by decide
theorem quote_ab2 : bs (quoteL (⟨#[97, 34, 98]⟩ : ByteArray).data.toList) = ⟨#[34, 97, 92, 34, 98, 34]⟩ := by rfl
theorem quoted_xy : quotedL ((⟨#[34, 120, 92, 121, 34, 122]⟩ : ByteArray).data.toList.drop 0) = some ([120, 121], 5) := by decide
theorem same_ab : sameL (⟨#[97, 66]⟩ : ByteArray).data.toList (⟨#[65, 98]⟩ : ByteArray).data.toList = true := by decide
theorem is_x1 : isL (⟨#[120, 45, 49]⟩ : ByteArray).data.toList = true := by decide
set_option maxRecDepth 100000 in
set_option maxHeartbeats 2000000 in
theorem worded_any (w : World) : Calls Tryz.prog 7 #[] w fun e w' => e = .returned (.bool true) ∧ Below w.heap.size w w' := by
  go_enter Tryz.func7, Tryz.ntmps7
  go_wp2_with fail
  refine (list_any ⟨#[32, 97, 32, 44, 32, 44, 98, 9]⟩ (by decide) _).mono ?_
  rintro e w1 ⟨⟨xs, v, hx, _, rfl, hown⟩ | ⟨xs, hx, hl, _⟩ | ⟨p, g, hx, _⟩, hb1⟩
  · rw [list_ab] at hx
    obtain rfl := texts_ab (Except.ok.inj hx).symm
    obtain ⟨a, cap, g, rfl, hs⟩ := hown.strs
    have HS : Hid (Strs w1 a 2 g 0 [⟨#[97]⟩, ⟨#[98]⟩]) := hs
    clear hs hx hown
    go_wp2_with fail
    refine (quote_yes ⟨#[97, 34, 98]⟩ (by decide) quote_ab _).mono ?_
    rintro e w2 ⟨rfl, hb2⟩
    rw [quote_ab2]
    go_wp2_with fail
    refine (on_any ⟨#[34, 120, 92, 121, 34, 122]⟩ _).mono ?_
    rintro e w3 ⟨rfl, hc3, hb3, hz3⟩
    have HC3 : Hid (Cur w3 w2.heap.size ⟨#[34, 120, 92, 121, 34, 122]⟩ 0) := hc3
    clear hc3
    go_wp2_with fail
    refine (quoted_any w2.heap.size ⟨#[34, 120, 92, 121, 34, 122]⟩ (by decide) 0 _ HC3.out).mono ?_
    rintro e w4 (⟨t, n, hq, rfl, hc4, hg4⟩ | ⟨hq, _⟩)
    · rw [quoted_xy] at hq
      cases hq
      have HC4 : Hid (Cur w4 w2.heap.size ⟨#[34, 120, 92, 121, 34, 122]⟩ 5) := hc4
      have s1 := hb1.size
      have s2 := hb2.size
      have s3 := hb3.size
      have hb4 : Below w.heap.size w w4 := ((hb1.trans (hb2.mono (by omega))).trans (hb3.mono (by omega))).grown hg4 (by omega) (fun i hi => by injection hi with hi; omega)
      have hs4 : Strs w4 a 2 g 0 [⟨#[97]⟩, ⟨#[98]⟩] := by
        have h3 := (HS.out.below hb2).below hb3
        refine ⟨h3.len_eq, fun h0 => ⟨(h3.lies h0).1, Nat.lt_of_lt_of_le (h3.lies h0).2 hg4.size⟩, fun j x hx => hg4.cell (h3.cells j x hx) ?_⟩
        intro e
        have e2 : g = w2.heap.size := Option.some.inj e
        have := ((HS.out.below hb2).lies (by omega)).2
        omega
      have HS4 : Hid (Strs w4 a 2 g 0 [⟨#[97]⟩, ⟨#[98]⟩]) := hs4
      clear hs4 hc4 hg4 HS HC3 hb1 hb2 hb3 s1 s2 s3 hz3
      have ht : bs [120, 121] = ⟨#[120, 121]⟩ := rfl
      rw [ht]
      go_wp2_with fail
      refine (equal_same a (some ⟨w4.heap.size, 0, none⟩) 2 _ g 0 2 w4.heap.size 0 [⟨#[97]⟩, ⟨#[98]⟩] _ (by omega) (HS4.out.below ((Below.refl _ _).alloc (Nat.le_refl _) _)) (strs_two w4 _ _)).mono ?_
      rintro e w5 ⟨rfl, q, rfl⟩
      go_wp2_with fail
      refine (at_any w2.heap.size ⟨#[34, 120, 92, 121, 34, 122]⟩ 5 _ ((HC4.out.below ((Below.refl _ _).alloc (Nat.le_refl _) _)).drewN q)).mono ?_
      rintro e w6 ⟨rfl, rfl⟩
      go_wp2_with fail
      refine (same_any ⟨#[97, 66]⟩ ⟨#[65, 98]⟩ (by decide) (by decide) _).mono ?_
      rintro e w7 ⟨rfl, hb7⟩
      rw [same_ab]
      go_wp2_with fail
      refine (is_any ⟨#[120, 45, 49]⟩ (by decide) _).mono ?_
      rintro e w8 ⟨rfl, rfl⟩
      rw [is_x1]
      go_wp2
      go_ret
      refine ⟨rfl, ?_⟩
      have z4 := hb4.size
      exact (drewN_at (hb4.alloc z4 _) q).trans (hb7.mono (by show w.heap.size ≤ (w4.alloc _).heap.size; simp; omega))
    · rw [quoted_xy] at hq
      cases hq
  · rw [list_ab] at hx
    have := congrArg List.length (Except.ok.inj hx)
    simp [texts] at this
    omega
  · rw [list_ab] at hx
    cases hx
end Go.Proofs.YtgajhmmildbkfaaGreatDoor

/- Who asks, and what is asked for, that came in: opened. -/
namespace Go.Proofs.YtgajhmmildbkfaaGreatDoor
open Go.ChangeShapes Go.WideShapes Go.ChangeAt Go.RowKit Go.Joins

theorem laidOutK : laidOutB Tryz.prog = true := by kernel_rfl
/-- No text of it is longer than a machine can hold. -/
def ReachK {H : Type} (t : TypeId) (d : DataW H) : Prop := ∀ n ∈ d.weights Tryz.prog t, n ≤ 140737488355328
theorem reachK_all {H : Type} {ts : List TypeId} {ds : List (DataW H)} (h : (DataW.weightsEach Tryz.prog ts ds).all (· ≤ reachBytes) = true) {j : Nat} {t : TypeId} {d : DataW H} (ht : ts[j]? = some t) (hd : ds[j]? = some d) : ReachK t d := fun n hn => by
  have h1 := List.all_eq_true.1 h _ (DataW.weights_mem_each ht hd n hn)
  have h2 : n ≤ reachBytes := of_decide_eq_true h1
  have := reachBytes_lt
  have e3 : (2 : Nat) ^ 47 = 140737488355328 := by decide
  omega
theorem array8 {α : Type} {cs : Array α} (h : cs.size = 8) : ∃ c0 c1 c2 c3 c4 c5 c6 c7, cs = #[c0, c1, c2, c3, c4, c5, c6, c7] := by
  obtain ⟨l⟩ := cs
  match l, h with
  | [c0, c1, c2, c3, c4, c5, c6, c7], _ => exact ⟨c0, c1, c2, c3, c4, c5, c6, c7, rfl⟩
theorem list8 {α : Type} {l : List α} (h : l.length = 8) : ∃ c0 c1 c2 c3 c4 c5 c6 c7, l = [c0, c1, c2, c3, c4, c5, c6, c7] := by
  match l, h with
  | [c0, c1, c2, c3, c4, c5, c6, c7], _ => exact ⟨c0, c1, c2, c3, c4, c5, c6, c7, rfl⟩
/-- No text is longer than a machine can hold. -/
def CredZ (u p : ByteArray) : Prop := u.size ≤ 140737488355328 ∧ p.size ≤ 140737488355328
def AskZ (a : PfA) : Prop := a.realm.size ≤ 140737488355328 ∧ a.nonce.size ≤ 140737488355328 ∧ a.opq.size ≤ 140737488355328 ∧ a.qop.size ≤ 140737488355328
section
variable {H : Type} {enc : TypeId × Value → H} {W : World}
set_option maxRecDepth 100000 in
theorem open_creds {b0 : Nat} {v : Value} {d : DataW H} {p : List MemPlace} (hv : Value.okWide Tryz.prog W .any b0 26 v) (h : DataW.Trod enc Tryz.prog W 0 (fun _ => true) true 26 v d p) :
    ∃ x y : ByteArray, v = .agg #[.string x, .string y] ∧ (ReachK 26 d → CredZ x y) := by
  obtain ⟨c0, c1, y0, y1, m, rfl, rfl, rfl, g0, g1⟩ := open_agg2 Tryz.underlying26 (by kernel_rfl) (by kernel_rfl) hv h
  obtain ⟨s0, e0, rfl, _⟩ := DataW.trod_string Tryz.underlying9 g0
  obtain ⟨s1, e1, rfl, _⟩ := DataW.trod_string Tryz.underlying9 g1
  simp only [List.cons.injEq, and_true] at e0 e1
  subst e0 e1
  refine ⟨s0, s1, rfl, fun hw => ?_⟩
  have w0 := hw s0.data.toList.length (by simp [DataW.weights, DataW.weightsEach, Tryz.underlying26])
  have w1 := hw s1.data.toList.length (by simp [DataW.weights, DataW.weightsEach, Tryz.underlying26])
  rw [Array.length_toList] at w0 w1
  exact ⟨w0, w1⟩
end
end Go.Proofs.YtgajhmmildbkfaaGreatDoor

/- Whether what is asked for, and what it is answered with, are few bytes, by the law's own function. -/
namespace Go.Proofs.YtgajhmmildbkfaaGreatDoor
open Go.RowKit

def totZ (a : PfA) (u p : ByteArray) : Nat := a.realm.size + a.nonce.size + a.opq.size + a.qop.size + u.size + p.size
def sumZ : List ByteArray → Nat
  | [] => 0
  | x :: r => x.size + sumZ r
theorem sumZ_snoc : ∀ (l : List ByteArray) (x : ByteArray), sumZ (l ++ [x]) = sumZ l + x.size
  | [], x => by simp [sumZ]
  | y :: r, x => by rw [List.cons_append, sumZ, sumZ, sumZ_snoc r x]; omega
theorem sumZ_le : ∀ (l : List ByteArray), (∀ x ∈ l, x.size ≤ 140737488355328) → sumZ l ≤ l.length * 140737488355328
  | [], _ => by simp [sumZ]
  | y :: r, h => by
    have h1 := h y (by simp)
    have h2 := sumZ_le r (fun x hx => h x (by simp [hx]))
    rw [sumZ, List.length_cons, Nat.succ_mul]
    omega
/-- They are few. -/
def smallB (a : PfA) (u p : ByteArray) (xs : List ByteArray) : Bool := decide (totZ a u p + sumZ xs ≤ 500)
set_option maxRecDepth 100000 in
set_option maxHeartbeats 2000000 in
theorem small_any (a : PfA) (st : Bool) (dv : Value) (u p : ByteArray) (za : AskZ a) (zc : CredZ u p) (xs : List ByteArray) (hz : ∀ x ∈ xs, x.size ≤ 140737488355328) (b n cap : Nat) (hn : xs.length = n) (hl : n ≤ 10) (w : World) (hbw : b < w.heap.size) (hc : ∀ (j : Nat) x, xs[j]? = some x → w.cell? ⟨b, j, none⟩ = some (.string x)) :
    Calls Tryz.prog 8 #[.agg #[.int .i64 a.scheme, .string a.realm, .string a.nonce, .string a.opq, .bool a.sess, .string a.qop, .bool st, dv], .agg #[.string u, .string p], .slice (some ⟨b, 0, none⟩) n cap] w fun e w' => e = .returned (.bool (smallB a u p xs)) ∧ Below w.heap.size w w' := by
  obtain ⟨z1, z2, z3, z4⟩ := za
  obtain ⟨z5, z6⟩ := zc
  have hT : ((a.realm.size : Int) + a.nonce.size + a.opq.size + a.qop.size + u.size + p.size) = ((totZ a u p : Nat) : Int) := by unfold totZ; omega
  have hTz : totZ a u p ≤ 844424930131968 := by unfold totZ; omega
  have hb1 : Below w.heap.size w ((w.alloc (.cells #[.int .i64 a.scheme, .string a.realm, .string a.nonce, .string a.opq, .bool a.sess, .string a.qop, .bool st, dv] 24)).alloc (.cells #[.string u, .string p] 26)) := ((Below.refl _ _).alloc (Nat.le_refl _) _).alloc (by simp) _
  have HC : Hid (∀ (j : Nat) x, xs[j]? = some x → ((w.alloc (.cells #[.int .i64 a.scheme, .string a.realm, .string a.nonce, .string a.opq, .bool a.sess, .string a.qop, .bool st, dv] 24)).alloc (.cells #[.string u, .string p] 26)).cell? ⟨b, j, none⟩ = some (.string x)) := fun j x hj => by
    rw [hb1.cell (p := ⟨b, j, none⟩) hbw]
    exact hc j x hj
  have HB1 : Hid (Below w.heap.size w ((w.alloc (.cells #[.int .i64 a.scheme, .string a.realm, .string a.nonce, .string a.opq, .bool a.sess, .string a.qop, .bool st, dv] 24)).alloc (.cells #[.string u, .string p] 26))) := hb1
  clear hc hb1
  go_enter Tryz.func8, Tryz.ntmps8
  go_wp2
  generalize ((w.alloc (.cells #[.int .i64 a.scheme, .string a.realm, .string a.nonce, .string a.opq, .bool a.sess, .string a.qop, .bool st, dv] 24)).alloc (.cells #[.string u, .string p] 26)) = W0 at HC HB1 ⊢
  go_loop [7, 8] (fun t i => ∃ (k : Nat) (s : Nat), k ≤ n ∧ i = .int .i64 (k : Int) ∧ t = .int .i64 (s : Int) ∧ s ≤ 844424930131968 + k * 140737488355328 ∧ Hid (s = totZ a u p + sumZ (xs.take k))) (fun _ i => n - (intOf i).toNat)
  case atStart => exact ⟨0, totZ a u p, Nat.zero_le _, rfl, by first | rfl | (rw [← hT]; rfl), by omega, rfl⟩
  case round =>
    obtain ⟨k, s, hk, rfl, rfl, hs, HS⟩ := hrel
    by_cases hlt : k < n
    · obtain ⟨x, hxk⟩ : ∃ x, xs[k]? = some x := ⟨xs[k]'(by omega), List.getElem?_eq_getElem (by omega)⟩
      have hcx := HC.out k x hxk
      have hxz := hz x (List.mem_of_getElem? hxk)
      have HN : Hid (s + x.size = totZ a u p + sumZ (xs.take (k + 1))) := by
        show _ = _
        obtain ⟨hk1, e⟩ := List.getElem?_eq_some_iff.1 hxk
        rw [List.take_succ_eq_append_getElem hk1, sumZ_snoc, HS.out, e]
        omega
      clear hxk
      have hs2 : s ≤ 2251799813685248 := by have : k * 140737488355328 ≤ 10 * 140737488355328 := Nat.mul_le_mul_right _ (by omega); omega
      have hki : (k : Int) < (n : Int) := by omega
      go_wp2
      go_round
      case rel => exact ⟨k + 1, s + x.size, by omega, by go_num, by go_num, by rw [Nat.add_mul]; omega, HN⟩
      case measure => simp [intOf]; omega
    · have HN : Hid (decide ((s : Int) ≤ 500) = smallB a u p xs) := by
        show _ = _
        have h := HS.out
        rw [List.take_of_length_le (by omega)] at h
        unfold smallB
        rw [decide_eq_decide]
        omega
      have hki : ¬ (k : Int) < (n : Int) := by omega
      go_wp2
      go_ret
      exact ⟨by rw [← HN.out]; rfl, HB1.out⟩
end Go.Proofs.YtgajhmmildbkfaaGreatDoor

/- What is asked for, that came in: opened. -/
namespace Go.Proofs.YtgajhmmildbkfaaGreatDoor
open Go.ChangeShapes Go.WideShapes Go.ChangeAt Go.RowKit Go.Joins Go.Deep

theorem one_field {H : Type} {enc : TypeId × Value → H} {W : World} {n : Nat} {f : Field} {cs : List Value} {i : Nat} {c : Value} {y : Option (DataW H × List MemPlace)} (ho : f.offset = i ∧ Tryz.prog.cellsOf f.type = 1) (hc : (cs.drop i).take 1 = [c])
    (h : DataW.trod enc Tryz.prog W 0 (fun _ => true) true n f.type ((cs.drop f.offset).take (Tryz.prog.cellsOf f.type)) = y) : DataW.trod enc Tryz.prog W 0 (fun _ => true) true n f.type [c] = y := by
  rw [ho.1, ho.2, hc] at h
  exact h
section
variable {H : Type} {enc : TypeId × Value → H} {W : World}
set_option maxRecDepth 100000 in
set_option maxHeartbeats 1000000 in
theorem open_ask8 {f0 f1 f2 f3 f4 f5 f6 f7 : Field} {t : TypeId} (hs : Tryz.prog.underlying t = some (.struct #[f0, f1, f2, f3, f4, f5, f6, f7])) (hone : oneCellFields Tryz.prog #[f0, f1, f2, f3, f4, f5, f6, f7] = true) (hC : Tryz.prog.cellsOf t = 8)
    {b0 : Nat} {v : Value} {d : DataW H} {p : List MemPlace} (hv : Value.okWide Tryz.prog W .any b0 t v) (h : DataW.Trod enc Tryz.prog W 0 (fun _ => true) true t v d p) :
    ∃ (c0 c1 c2 c3 c4 c5 c6 c7 : Value) (y0 y1 y2 y3 y4 y5 y6 y7 : DataW H × List MemPlace) (n : Nat), v = .agg #[c0, c1, c2, c3, c4, c5, c6, c7] ∧ d = .agg [y0.1, y1.1, y2.1, y3.1, y4.1, y5.1, y6.1, y7.1] ∧
      DataW.trod enc Tryz.prog W 0 (fun _ => true) true n f0.type [c0] = some y0 ∧ DataW.trod enc Tryz.prog W 0 (fun _ => true) true n f1.type [c1] = some y1 ∧ DataW.trod enc Tryz.prog W 0 (fun _ => true) true n f2.type [c2] = some y2 ∧ DataW.trod enc Tryz.prog W 0 (fun _ => true) true n f3.type [c3] = some y3 ∧
      DataW.trod enc Tryz.prog W 0 (fun _ => true) true n f4.type [c4] = some y4 ∧ DataW.trod enc Tryz.prog W 0 (fun _ => true) true n f5.type [c5] = some y5 ∧ DataW.trod enc Tryz.prog W 0 (fun _ => true) true n f6.type [c6] = some y6 ∧ DataW.trod enc Tryz.prog W 0 (fun _ => true) true n f7.type [c7] = some y7 := by
  obtain ⟨cs, rfl, hsz⟩ := okWide_struct hs hv
  obtain ⟨c0, c1, c2, c3, c4, c5, c6, c7, rfl⟩ := array8 (hsz.trans hC)
  obtain ⟨fuel, hf⟩ := h
  obtain ⟨xs, n, _, hx, _, hlen, hff⟩ := DataW.trod_struct hs hf
  obtain ⟨y0, y1, y2, y3, y4, y5, y6, y7, rfl⟩ := list8 (hlen.trans rfl)
  simp only [Prod.mk.injEq] at hx
  have o := hone_of hone
  exact ⟨c0, c1, c2, c3, c4, c5, c6, c7, y0, y1, y2, y3, y4, y5, y6, y7, n, rfl, hx.1, one_field (o 0 f0 rfl) rfl (hff 0 f0 rfl), one_field (o 1 f1 rfl) rfl (hff 1 f1 rfl), one_field (o 2 f2 rfl) rfl (hff 2 f2 rfl), one_field (o 3 f3 rfl) rfl (hff 3 f3 rfl),
    one_field (o 4 f4 rfl) rfl (hff 4 f4 rfl), one_field (o 5 f5 rfl) rfl (hff 5 f5 rfl), one_field (o 6 f6 rfl) rfl (hff 6 f6 rfl), one_field (o 7 f7 rfl) rfl (hff 7 f7 rfl)⟩
set_option maxRecDepth 100000 in
set_option maxHeartbeats 1000000 in
theorem open_ask {b0 : Nat} {v : Value} {d : DataW H} {p : List MemPlace} (hv : Value.okWide Tryz.prog W .any b0 24 v) (h : DataW.Trod enc Tryz.prog W 0 (fun _ => true) true 24 v d p) :
    ∃ (a : PfA) (st : Bool) (dv : Value), v = .agg #[.int .i64 a.scheme, .string a.realm, .string a.nonce, .string a.opq, .bool a.sess, .string a.qop, .bool st, dv] ∧ (ReachK 24 d → AskZ a) := by
  obtain ⟨c0, c1, c2, c3, c4, c5, c6, c7, y0, y1, y2, y3, y4, y5, y6, y7, n, rfl, rfl, g0, g1, g2, g3, g4, g5, g6, g7⟩ := open_ask8 Tryz.underlying24 (by kernel_rfl) (by kernel_rfl) hv h
  obtain ⟨s0, e0, rfl, _⟩ := DataW.trod_int Tryz.underlying3 g0
  obtain ⟨s1, e1, rfl, _⟩ := DataW.trod_string Tryz.underlying9 g1
  obtain ⟨s2, e2, rfl, _⟩ := DataW.trod_string Tryz.underlying9 g2
  obtain ⟨s3, e3, rfl, _⟩ := DataW.trod_string Tryz.underlying9 g3
  obtain ⟨s4, e4, rfl⟩ := DataW.trod_bool Tryz.underlying4 g4
  obtain ⟨s5, e5, rfl, _⟩ := DataW.trod_string Tryz.underlying9 g5
  obtain ⟨s6, e6, rfl⟩ := DataW.trod_bool Tryz.underlying4 g6
  simp only [List.cons.injEq, and_true] at e0 e1 e2 e3 e4 e5 e6
  subst e0 e1 e2 e3 e4 e5 e6
  refine ⟨⟨s0, s1, s2, s3, s4, s5⟩, s6, c7, rfl, fun hw => ?_⟩
  have w1 := hw s1.data.toList.length (by simp [DataW.weights, DataW.weightsEach, Tryz.underlying24])
  have w2 := hw s2.data.toList.length (by simp [DataW.weights, DataW.weightsEach, Tryz.underlying24])
  have w3 := hw s3.data.toList.length (by simp [DataW.weights, DataW.weightsEach, Tryz.underlying24])
  have w5 := hw s5.data.toList.length (by simp [DataW.weights, DataW.weightsEach, Tryz.underlying24])
  rw [Array.length_toList] at w1 w2 w3 w5
  exact ⟨w1, w2, w3, w5⟩
end
end Go.Proofs.YtgajhmmildbkfaaGreatDoor

/- The law DigestKnown, walked. -/
namespace Go.Proofs.YtgajhmmildbkfaaGreatDoor
open Go.RowKit
set_option linter.unusedVariables false

/-- How long a header may be. -/
def totI : List Item → Nat
  | [] => 0
  | x :: r => x.1.length + 2 * x.2.1.length + 5 + totI r
theorem itemT_tot (x : Item) : (itemT x).length ≤ x.1.length + 2 * x.2.1.length + 3 := by
  unfold itemT
  have := escL_length x.2.1
  rw [List.length_append, List.length_cons]
  split
  · unfold quoteL
    simp
    omega
  · omega
theorem joinT_len : ∀ L : List Item, (Lib.join (L.map itemT) [44, 32]).length ≤ totI L
  | [] => by simp [Lib.join]
  | [x] => by
    have := itemT_tot x
    rw [List.map_cons, List.map_nil, join_one]
    simp only [totI]
    omega
  | x :: y :: r => by
    have h1 := itemT_tot x
    have h2 := joinT_len (y :: r)
    rw [List.map_cons] at h2
    rw [List.map_cons, List.map_cons, join_cons, List.length_append, List.length_append, totI]
    show _ + (2 + _) ≤ _
    omega
theorem totI_append : ∀ (L K : List Item), totI (L ++ K) = totI L + totI K
  | [], K => by simp [totI]
  | x :: r, K => by rw [List.cons_append, totI, totI, totI_append r K]; omega
theorem digT_len (a : PfA) (r : PfR) (m : Nat) (hf : Fits a r) (ho : a.realm.size + a.nonce.size + a.opq.size + a.qop.size + r.user.size + r.target.size + r.cnonce.size ≤ 500) : (digT (items a r m)).length ≤ 3000 := by
  unfold digT
  rw [List.length_append, List.length_cons]
  have h1 := joinT_len (items a r m)
  have e : ∀ x : ByteArray, x.data.toList.length = x.size := fun x => Array.length_toList
  have r1 := respL_len a r m
  have r2 := countL_len m
  have r3 : (algT a).length ≤ 12 := by unfold algT; split <;> split <;> decide
  have t1 : totI (fiveI a r m) ≤ 29 + 25 + 2 * (r.user.size + a.realm.size + a.nonce.size + r.target.size + 64) := by
    simp only [fiveI, totI, e]
    have : nUser.length = 8 := rfl
    have : nRealm.length = 5 := rfl
    have : nNonce.length = 5 := rfl
    have : nUri.length = 3 := rfl
    have : nResp.length = 8 := rfl
    omega
  have t2 : totI [(nAlgo, algT a, false)] ≤ 40 := by
    simp only [totI]
    have : nAlgo.length = 9 := rfl
    omega
  have t3 : totI (qopI a m) ≤ 2 * a.qop.size + 50 := by
    unfold qopI
    split
    · simp [totI]
    · simp only [totI, e]
      have : nQop.length = 3 := rfl
      have : nNc.length = 2 := rfl
      omega
  have t4 : totI (cnI a r) ≤ 2 * r.cnonce.size + 11 := by
    unfold cnI
    split
    · simp [totI]
    · simp only [totI, e]
      have : nCn.length = 6 := rfl
      omega
  have t5 : totI (opqI a) ≤ 2 * a.opq.size + 11 := by
    unfold opqI
    split
    · simp [totI]
    · simp only [totI, e]
      have : nOpq.length = 6 := rfl
      omega
  have t6 : totI (items a r m) = totI (fiveI a r m) + totI [(nAlgo, algT a, false)] + totI (qopI a m) + totI (cnI a r) + totI (opqI a) := by
    unfold items
    rw [totI_append, totI_append, totI_append, totI_append]
  have : digW.length = 6 := rfl
  omega
theorem digO_ok {a : PfA} {r : PfR} {n : Int} {l : List UInt8} (h : digO a r n = .ok l) : (a.scheme = 2 ∨ a.scheme = 3) ∧ (a.qop.data.toList = [] ∨ a.qop.data.toList = qAuth ∨ a.qop.data.toList = qInt) ∧ ∃ m : Nat, n = (m : Int) ∧ m < 4294967296 ∧ (items a r m).all itemOk = true ∧ l = digT (items a r m) := by
  unfold digO at h
  split at h
  · cases h
  · rename_i h1
    split at h
    · cases h
    · rename_i h2
      split at h
      · rename_i h3
        injection h with h
        refine ⟨Decidable.not_not.1 (fun h => h1 (.inl h)), Decidable.not_not.1 (fun h => h1 (.inr h)), n.toNat, by omega, by omega, h3, h.symm⟩
      · cases h
theorem small3 (x0 x1 x2 : ByteArray) (W : World) (o : Nat) (ho : o = W.heap.size) : ∀ (j : Nat) x, [x0, x1, x2][j]? = some x → (W.alloc (.cells #[.string x0, .string x1, .string x2] 9)).cell? ⟨o, j, none⟩ = some (.string x) := by
  subst ho
  intro j x hj
  rw [World.cell?_alloc_mark]
  match j, hj with
  | 0, h => cases h; rfl
  | 1, h => cases h; rfl
  | 2, h => cases h; rfl
  | j + 3, h => simp at h
set_option maxRecDepth 100000 in
set_option maxHeartbeats 8000000 in
theorem known_walk (a : PfA) (st : Bool) (dv : Value) (za : AskZ a) (u p : ByteArray) (zc : CredZ u p) (m : ByteArray) (zm : m.size ≤ 140737488355328) (t : ByteArray) (zt : t.size ≤ 140737488355328) (c : ByteArray) (zn : c.size ≤ 140737488355328)
    (n : Int) (n0 : -9223372036854775808 ≤ n) (n1 : n ≤ 9223372036854775807) (w : World) (HT : Hid (Tabs w)) :
    Calls Tryz.prog 4 #[.agg #[.int .i64 a.scheme, .string a.realm, .string a.nonce, .string a.opq, .bool a.sess, .string a.qop, .bool st, dv], .agg #[.string u, .string p], .string m, .string t, .string c, .int .i64 n] w fun e w' => e = .returned (.bool true) ∧ Below w.heap.size w w' := by
  have HK0 : Hid (AcK w _ a st dv u p) := acK_start w a st dv u p HT
  have hsm := small_any a st dv u p za zc [m, t, c] (by intro x hx; simp at hx; rcases hx with rfl | rfl | rfl <;> assumption)
  clear zm zt zn za zc
  go_enter Tryz.func4, Tryz.ntmps4
  go_wp2_with fail
  generalize ((w.alloc (.cells #[.int .i64 a.scheme, .string a.realm, .string a.nonce, .string a.opq, .bool a.sess, .string a.qop, .bool st, dv] 24)).alloc (.cells #[.string u, .string p] 26)) = W0 at HK0 ⊢
  refine (proved_any _ HK0.out.tabs).mono ?_
  rintro e w1 ⟨rfl, hb1⟩
  have HK1 : Hid (AcK w w1 a st dv u p) := HK0.out.below hb1
  clear hb1 HK0
  go_wp2_with fail
  refine (asked_any _).mono ?_
  rintro e w2 ⟨rfl, hb2⟩
  have HK2 : Hid (AcK w w2 a st dv u p) := HK1.out.below hb2
  clear hb2 HK1
  go_wp2_with fail
  refine (worded_any _).mono ?_
  rintro e w3 ⟨rfl, hb3⟩
  have HK3 : Hid (AcK w w3 a st dv u p) := HK2.out.below hb3
  clear hb3 HK2
  obtain ⟨c0, c1, c2, c3, c4, c5, c6, c7, d0, d1, _, _, _⟩ := HK3.out
  go_wp2_with fail
  refine (hsm w3.heap.size 3 3 rfl (by omega) _ (by simp) (small3 m t c w3 _ rfl)).mono ?_
  rintro e w4 ⟨rfl, hb4⟩
  have hb4' : Below w3.heap.size w3 w4 := ((Below.refl _ _).alloc (Nat.le_refl _) _).trans (hb4.mono (by simp))
  have HK4 : Hid (AcK w w4 a st dv u p) := HK3.out.below hb4'
  clear hb4 hb4' c0 c1 c2 c3 c4 c5 c6 c7 d0 d1 hsm HK3
  obtain ⟨c0, c1, c2, c3, c4, c5, c6, c7, d0, d1, _, _, _⟩ := HK4.out
  cases hs : smallB a u p [m, t, c]
  · go_wp2
    go_ret
    exact ⟨rfl, HK4.out.bel⟩
  · have hfit : Fits a ⟨u, p, m, t, ⟨#[]⟩, c⟩ ∧ a.realm.size + a.nonce.size + a.opq.size + a.qop.size + u.size + t.size + c.size ≤ 500 := by
      have h := of_decide_eq_true hs
      simp only [totZ, sumZ] at h
      unfold Fits
      have : (⟨#[]⟩ : ByteArray).size = 0 := rfl
      simp only
      omega
    have HD := fun w HT => dig_any a ⟨u, p, m, t, ⟨#[]⟩, c⟩ st dv n hfit.1 (by have := hfit.2; omega) w HT
    simp only at HD
    go_wp2_with fail
    cases hdg : digO a ⟨u, p, m, t, ⟨#[]⟩, c⟩ n with
    | error k =>
      rw [hdg] at HD
      simp only [digV] at HD
      refine (HD _ HK4.out.tabs).mono ?_
      rintro e w5 ⟨rfl, hb5⟩
      have HK5 : Hid (AcK w w5 a st dv u p) := HK4.out.below hb5
      go_wp2
      go_ret
      exact ⟨rfl, HK5.out.bel⟩
    | ok l =>
      obtain ⟨hsc, hqo, k, rfl, hk, hok, hl⟩ := digO_ok hdg
      have hlz : (bs l).size ≤ 3000 := by rw [bs_size, hl]; exact digT_len a _ k hfit.1 hfit.2
      have HA : Hid (askL (bs l).data.toList = .ok [⟨bs digW, ⟨#[]⟩, parsI (items a ⟨u, p, m, t, ⟨#[]⟩, c⟩ k)⟩]) := by show _ = _; rw [bs_data, hl]; exact items_read a _ k hqo hok
      have HKN : Hid (knownL ⟨bs digW, ⟨#[]⟩, parsI (items a ⟨u, p, m, t, ⟨#[]⟩, c⟩ k)⟩ = some ⟨a.scheme.toNat, a.realm, a.nonce, a.opq, a.sess, a.qop, false, []⟩) := items_known a _ k hsc hqo
      have hsi : ((a.scheme.toNat : Nat) : Int) = a.scheme := by rcases hsc with h | h <;> rw [h] <;> rfl
      rw [hdg] at HD
      simp only [digV] at HD
      generalize parsI (items a ⟨u, p, m, t, ⟨#[]⟩, c⟩ k) = ps at HA HKN
      generalize bs l = s at hlz HA HD
      clear hdg hl hok hs hfit
      refine (HD _ HK4.out.tabs).mono ?_
      rintro e w5 ⟨rfl, hb5⟩
      have HK5 : Hid (AcK w w5 a st dv u p) := HK4.out.below hb5
      clear hb5 HK4 HD c0 c1 c2 c3 c4 c5 c6 c7 d0 d1
      go_wp2_with fail
      refine (parse_any s hlz _).mono ?_
      rintro e w6 ⟨⟨cs, v, h1, h2, h3, rfl, hown⟩ | ⟨n, left, v, h1, _⟩, hb6⟩
      · have hxs : xsOf cs = [⟨bs digW, ⟨#[]⟩, ps⟩] := Except.ok.inj (h1.symm.trans HA.out)
        have HK6 : Hid (AcK w w6 a st dv u p) := HK5.out.below hb6
        obtain ⟨ca, ccap, g, ds, rfl, hC, hx, hBg, _⟩ := hown.chals
        have hl1 : cs.length = 1 := by rw [← xsOf_len, hxs]; rfl
        rw [hl1] at hC ⊢
        obtain ⟨d, rfl⟩ : ∃ d, ds = [d] := by
          have := hC.len_eq
          match ds, this with
          | [d], _ => exact ⟨d, rfl⟩
        have hdx : d.x = ⟨bs digW, ⟨#[]⟩, ps⟩ := (List.cons.inj (hx.trans hxs)).1
        have hmild : Mild d.x := by
          have : d.x ∈ xsOf cs := by rw [← hx]; exact List.mem_map.2 ⟨d, by simp, rfl⟩
          obtain ⟨c, hc, e⟩ := List.mem_map.1 this
          rw [← e]
          exact slight_mild (h3 c hc)
        obtain ⟨ha, hgl⟩ := hC.lies (by omega)
        subst ha
        have g0 : w6.cell? ⟨g, 0, none⟩ = some (.string d.x.scheme) := hC.one 0 d rfl
        have g1 : w6.cell? ⟨g, 1, none⟩ = some (.string d.x.token) := hC.two 0 d rfl
        have g2 : w6.cell? ⟨g, 2, none⟩ = some (.slice d.a d.len d.cap) := hC.three 0 d rfl
        have HP : Hid (ChOk w6 d) := hC.pars d (by simp)
        have HM : Hid (Mild d.x) := hmild
        have HKD : Hid (knownL d.x = some ⟨a.scheme.toNat, a.realm, a.nonce, a.opq, a.sess, a.qop, false, []⟩) := by show _ = _; rw [hdx]; exact HKN.out
        clear HA h1 h2 h3 hown hC hx hxs hBg hb6 HK5 hdx hmild HKN
        go_wp2_with fail
        refine (known_any d HM.out _ HP.out).mono ?_
        rintro e w7 ⟨⟨dv7, rfl, ho⟩, hb7⟩
        rw [HKD.out] at ho ⊢
        simp only [Option.getD_some, Option.isSome_some, askVal] at ho ⊢
        rw [hsi]
        obtain ⟨da, dc, dg, rfl, _⟩ := ho.strs
        have HK7 : Hid (AcK w w7 a st dv u p) := HK6.out.below hb7
        clear hb7 HK6 g0 g1 g2 HP HM HKD ho
        go_upto_region 12 with fail
        have hb8 : Below w7.heap.size w7 (w7.alloc (.cells #[.int .i64 a.scheme, .string a.realm, .string a.nonce, .string a.opq, .bool a.sess, .string a.qop, .bool false, .slice da 0 dc] 24)) := (Below.refl _ _).alloc (Nat.le_refl _) _
        have hq : ∀ i, (w7.alloc (.cells #[.int .i64 a.scheme, .string a.realm, .string a.nonce, .string a.opq, .bool a.sess, .string a.qop, .bool false, .slice da 0 dc] 24)).cell? ⟨w7.heap.size, i, none⟩ = #[.int .i64 a.scheme, .string a.realm, .string a.nonce, .string a.opq, .bool a.sess, .string a.qop, .bool false, .slice da 0 dc][i]? := fun i => World.cell?_alloc_mark _ _ _ _ _
        have HK8 : Hid (AcK w (w7.alloc (.cells #[.int .i64 a.scheme, .string a.realm, .string a.nonce, .string a.opq, .bool a.sess, .string a.qop, .bool false, .slice da 0 dc] 24)) a st dv u p) := HK7.out.below hb8
        clear hb8
        generalize (w7.alloc (.cells #[.int .i64 a.scheme, .string a.realm, .string a.nonce, .string a.opq, .bool a.sess, .string a.qop, .bool false, .slice da 0 dc] 24)) = W8 at hq HK8 ⊢
        have q0 := (hq 0).trans rfl
        have q1 := (hq 1).trans rfl
        have q2 := (hq 2).trans rfl
        have q3 := (hq 3).trans rfl
        have q4 := (hq 4).trans rfl
        have q5 := (hq 5).trans rfl
        have q6 := (hq 6).trans rfl
        have q7 := (hq 7).trans rfl
        clear hq
        simp only [List.getElem?_toArray, List.getElem?_cons_zero, List.getElem?_cons_succ] at q0 q1 q2 q3 q4 q5 q6 q7
        obtain ⟨c0, c1, c2, c3, c4, c5, c6, c7, d0, d1, _, _, _⟩ := HK8.out
        go_wp2_with fail
        go_ret
        exact ⟨rfl, HK8.out.bel⟩
      · have := h1.symm.trans HA.out
        cases this
end Go.Proofs.YtgajhmmildbkfaaGreatDoor

/- A region that draws its order, walked by what holds whichever of its operations have come up: one law a kind of operation, however many orders there are. -/
namespace Go.Proofs.YtgajhmmildbkfaaGreatDoor
open Go.RowKit

section
variable {P : Program} {ops : Array Oper} {Q : Exit → Act → World → Prop} {md : Region.Mode} {S : World → Prop}
/-- J s: what holds where those of L s have come up; N s: how many are left. -/
theorem wpAnyH_inv {ι : Type} (J : ι → Act → World → Prop) (L : ι → Array Bool) (N : ι → Nat)
    (hstep : ∀ s a w, J s a w → ∀ i ∈ Region.ready md ops (L s), ∃ s', (L s).setIfInBounds i true = L s' ∧ N s' < N s ∧ wpOp P ops Q i (fun a' w' => S w' ∧ J s' a' w') a w)
    (hdone : ∀ s a w, J s a w → Region.ready md ops (L s) = [] → Q .normal a w) :
    ∀ (fuel : Nat) (s : ι) (a : Act) (w : World), N s ≤ fuel → J s a w → wpAnyH P md ops Q S fuel (L s) a w := by
  intro fuel
  induction fuel with
  | zero =>
    intro s a w hN hJ
    have h0 : Region.ready md ops (L s) = [] := by
      cases hr : Region.ready md ops (L s) with
      | nil => rfl
      | cons i r =>
        obtain ⟨s', _, h2, _⟩ := hstep s a w hJ i (by rw [hr]; simp)
        omega
    exact ⟨h0, hdone s a w hJ h0⟩
  | succ fuel ih =>
    intro s a w hN hJ
    refine ⟨fun h0 => hdone s a w hJ h0, fun i hi => ?_⟩
    obtain ⟨s', h1, h2, h3⟩ := hstep s a w hJ i hi
    exact wpOp_mono (fun a' w' h => ⟨h.1, by rw [h1]; exact ih s' a' w' (by omega) h.2⟩) h3
/-- .. where those that are ready are told by R. -/
theorem wpAnyH_invR {ι : Type} (ok : ι → Bool) (R : ι → List Nat) (J : ι → Act → World → Prop) (L : ι → Array Bool) (N : ι → Nat)
    (hR : ∀ s, ok s = true → Region.ready md ops (L s) = R s) (hok : ∀ s a w, J s a w → ok s = true)
    (hstep : ∀ s a w, J s a w → ∀ i ∈ R s, ∃ s', (L s).setIfInBounds i true = L s' ∧ N s' < N s ∧ wpOp P ops Q i (fun a' w' => S w' ∧ J s' a' w') a w)
    (hdone : ∀ s a w, J s a w → R s = [] → Q .normal a w) (fuel : Nat) (s : ι) (a : Act) (w : World) (hN : N s ≤ fuel) (hJ : J s a w) : wpAnyH P md ops Q S fuel (L s) a w :=
  wpAnyH_inv J L N (fun s a w h i hi => hstep s a w h i (by rw [← hR s (hok s a w h)]; exact hi)) (fun s a w h h0 => hdone s a w h (by rw [← hR s (hok s a w h)]; exact h0)) fuel s a w hN hJ
/-- One operation, told as the walk takes it. -/
theorem wpOp_at {i : Nat} {o : Oper} {K : Act → World → Prop} {a : Act} {w : World} (ho : ops[i]? = some o)
    (h : ∀ K' : Act → World → Prop, Shut (∀ a w, K a w → K' a w) → if Region.wanted o (yielded ops a.tmps) = true then Oper.wp P o a w K' Q else K' (a.put o.dst undef) w) : wpOp P ops Q i K a w :=
  wpOp_step ho (fun K' hK => h K' hK)
theorem wpAnyH_gen {fuel : Nat} {listed : Array Bool} {a : Act} {w : World} (h : ∀ A, A = a → wpAnyH P md ops Q S fuel listed A w) : wpAnyH P md ops Q S fuel listed a w := h a rfl
end
end Go.Proofs.YtgajhmmildbkfaaGreatDoor

/- DigestBack's map of what is wanted: which of its region's operations have come up. -/
namespace Go.Proofs.YtgajhmmildbkfaaGreatDoor
open Go.RowKit

/-- Made; called; each of the five put in; moved; assigned. -/
structure RgS where
  ma : Bool
  cl : Bool
  i1 : Bool
  i2 : Bool
  i3 : Bool
  i4 : Bool
  i5 : Bool
  d1 : Bool
  d2 : Bool
def RgS.L (s : RgS) : Array Bool := #[s.ma, true, true, s.i1, true, true, s.i2, true, true, s.i3, true, s.i4, true, true, true, true, true, true, true, s.cl, s.i5, s.d1, s.d2]
def b1 (b : Bool) : Nat := if b then 1 else 0
def RgS.cnt (s : RgS) : Nat := b1 s.i1 + b1 s.i2 + b1 s.i3 + b1 s.i4 + b1 s.i5
def RgS.N (s : RgS) : Nat := b1 (!s.ma) + b1 (!s.cl) + b1 (!s.i1) + b1 (!s.i2) + b1 (!s.i3) + b1 (!s.i4) + b1 (!s.i5) + b1 (!s.d1) + b1 (!s.d2)
def RgS.all5 (s : RgS) : Bool := s.ma && s.cl && s.i1 && s.i2 && s.i3 && s.i4 && s.i5
def RgS.ok (s : RgS) : Bool := (s.ma || !(s.i1 || s.i2 || s.i3 || s.i4 || s.i5)) && (s.cl || !s.i5) && (!s.d1 || s.all5) && (!s.d2 || s.d1)
def oneR (b : Bool) (i : Nat) : List Nat := if b then [i] else []
def RgS.R (s : RgS) : List Nat := oneR (!s.ma) 0 ++ oneR (s.ma && !s.i1) 3 ++ oneR (s.ma && !s.i2) 6 ++ oneR (s.ma && !s.i3) 9 ++ oneR (s.ma && !s.i4) 11 ++ oneR (!s.cl) 19 ++ oneR (s.ma && s.cl && !s.i5) 20 ++ oneR (s.all5 && !s.d1) 21 ++ oneR (s.d1 && !s.d2) 22
/-- What stands in the slots by then. -/
def RgS.A (s : RgS) (A : Act) (M X : Value) : Act :=
  match s.ma, s.cl, s.d1, s.d2 with
  | false, false, _, _ => A
  | true, false, _, _ => A.put (some 76) M
  | false, true, _, _ => A.put (some 91) X
  | true, true, false, _ => (A.put (some 76) M).put (some 91) X
  | true, true, true, false => ((A.put (some 76) M).put (some 91) X).put (some 92) M
  | true, true, true, true => (((A.put (some 76) M).put (some 91) X).put (some 92) M).put (some 18) M
theorem oneR_mem {b : Bool} {i j : Nat} (h : i ∈ oneR b j) : b = true ∧ i = j := by
  unfold oneR at h
  cases b
  · cases h
  · simpa using h
theorem RgS.R_mem {s : RgS} {i : Nat} (h : i ∈ s.R) : (s.ma = false ∧ i = 0) ∨ (s.ma = true ∧ s.i1 = false ∧ i = 3) ∨ (s.ma = true ∧ s.i2 = false ∧ i = 6) ∨ (s.ma = true ∧ s.i3 = false ∧ i = 9) ∨ (s.ma = true ∧ s.i4 = false ∧ i = 11) ∨ (s.cl = false ∧ i = 19) ∨ (s.ma = true ∧ s.cl = true ∧ s.i5 = false ∧ i = 20) ∨ (s.all5 = true ∧ s.d1 = false ∧ i = 21) ∨ (s.d1 = true ∧ s.d2 = false ∧ i = 22) := by
  unfold RgS.R at h
  simp only [List.mem_append] at h
  rcases h with (((((((h | h) | h) | h) | h) | h) | h) | h) | h
  · obtain ⟨h1, h2⟩ := oneR_mem h; exact .inl ⟨by simpa using h1, h2⟩
  · obtain ⟨h1, h2⟩ := oneR_mem h; simp at h1; exact .inr (.inl ⟨h1.1, h1.2, h2⟩)
  · obtain ⟨h1, h2⟩ := oneR_mem h; simp at h1; exact .inr (.inr (.inl ⟨h1.1, h1.2, h2⟩))
  · obtain ⟨h1, h2⟩ := oneR_mem h; simp at h1; exact .inr (.inr (.inr (.inl ⟨h1.1, h1.2, h2⟩)))
  · obtain ⟨h1, h2⟩ := oneR_mem h; simp at h1; exact .inr (.inr (.inr (.inr (.inl ⟨h1.1, h1.2, h2⟩))))
  · obtain ⟨h1, h2⟩ := oneR_mem h; simp at h1; exact .inr (.inr (.inr (.inr (.inr (.inl ⟨h1, h2⟩)))))
  · obtain ⟨h1, h2⟩ := oneR_mem h; simp at h1; exact .inr (.inr (.inr (.inr (.inr (.inr (.inl ⟨h1.1.1, h1.1.2, h1.2, h2⟩))))))
  · obtain ⟨h1, h2⟩ := oneR_mem h; rw [Bool.and_eq_true] at h1; exact .inr (.inr (.inr (.inr (.inr (.inr (.inr (.inl ⟨h1.1, by simpa using h1.2, h2⟩)))))))
  · obtain ⟨h1, h2⟩ := oneR_mem h; simp at h1; exact .inr (.inr (.inr (.inr (.inr (.inr (.inr (.inr ⟨h1.1, h1.2, h2⟩)))))))
theorem RgS.open {s : RgS} (hok : s.ok = true) (h : s.all5 = false) : s.d1 = false ∧ s.d2 = false := by
  obtain ⟨ma, cl, i1, i2, i3, i4, i5, d1, d2⟩ := s
  cases d1 <;> cases d2 <;> simp_all [RgS.ok, RgS.all5]
theorem RgS.done {s : RgS} (hok : s.ok = true) (h : s.R = []) : s = ⟨true, true, true, true, true, true, true, true, true⟩ := by
  obtain ⟨ma, cl, i1, i2, i3, i4, i5, d1, d2⟩ := s
  revert hok h
  cases ma <;> cases cl <;> cases i1 <;> cases i2 <;> cases i3 <;> cases i4 <;> cases i5 <;> cases d1 <;> cases d2 <;> first | (intro _ h; exact absurd h (by decide)) | (intro h _; exact absurd h (by decide)) | (intro _ _; rfl)
theorem put_swap (A : Act) (v x : Value) : (A.put (some 91) x).put (some 76) v = (A.put (some 76) v).put (some 91) x := by
  show ({ A with tmps := (A.tmps.setIfInBounds 91 x).setIfInBounds 76 v } : Act) = { A with tmps := (A.tmps.setIfInBounds 76 v).setIfInBounds 91 x }
  rw [Array.setIfInBounds_comm _ _ (by decide)]
end Go.Proofs.YtgajhmmildbkfaaGreatDoor
