/- The reader's challenge, by the program. -/
import Derived.Test.YtooaiamfbmjmnaaGreatDoorRps
import Derived.Test.YtooaiamfbmjmnaaGreatDoorRdt
import Derived.Test.YtooaiamfbmjmnaaGreatDoorChlA
namespace Go.Proofs.YtooaiamfbmjmnaaGreatDoor
open Go.RowKit

/-- The reader's box, and the result's. -/
structure RdF (w wi : World) (b : Nat) (s : ByteArray) : Prop where
  rd0 : wi.cell? ⟨w.heap.size, 0, none⟩ = some (.pointer (some ⟨b, 0, none⟩))
  rd1 : wi.cell? ⟨w.heap.size, 1, none⟩ = some (.string s)
  res : wi.heap[w.heap.size + 1]? = some (.cells #[.string ⟨#[]⟩, .string ⟨#[]⟩, .slice none 0 0] 24 (0, 0))
theorem RdF.grown {w wi wj : World} {b : Nat} {s : ByteArray} {row : Option Nat} (h : RdF w wi b s) (hg : wi.grownBy wj row) (hr : ∀ k, row = some k → k ≠ w.heap.size ∧ k ≠ w.heap.size + 1) : RdF w wj b s := by
  have h1 : some w.heap.size ≠ row := fun e => (hr _ e.symm).1 rfl
  have h2 : some (w.heap.size + 1) ≠ row := fun e => (hr _ e.symm).2 rfl
  exact ⟨hg.cell h.rd0 h1, hg.cell h.rd1 h1, (hg.block _ (Array.getElem?_eq_some_iff.1 h.res).1 h2).trans h.res⟩
theorem res_cells {wi : World} {g : Nat} {v0 v1 v2 : Value} {T : TypeId} (h : wi.heap[g]? = some (.cells #[v0, v1, v2] T (0, 0))) :
    (wi.cell? ⟨g, 0, none⟩ = some v0 ∧ wi.cell? ⟨g, 1, none⟩ = some v1 ∧ wi.cell? ⟨g, 2, none⟩ = some v2) ∧ (wi.frozen? ⟨g, 0, none⟩ = false ∧ wi.frozen? ⟨g, 1, none⟩ = false ∧ wi.frozen? ⟨g, 2, none⟩ = false) := by
  refine ⟨⟨?_, ?_, ?_⟩, ?_, ?_, ?_⟩
  · simp [World.cell?, h]
  · simp [World.cell?, h]
  · simp [World.cell?, h]
  · simp [World.frozen?, h]
  · simp [World.frozen?, h]
  · simp [World.frozen?, h]
theorem set_one {wi : World} {g : Nat} {v0 v1 v2 : Value} {T : TypeId} (h : wi.heap[g]? = some (.cells #[v0, v1, v2] T (0, 0))) (x : Value) : (wi.setCell ⟨g, 1, none⟩ x).heap[g]? = some (.cells #[v0, x, v2] T (0, 0)) := by
  simp [World.setCell, Array.getElem?_modify, h]
theorem set_two {wi : World} {g : Nat} {v0 v1 v2 : Value} {T : TypeId} (h : wi.heap[g]? = some (.cells #[v0, v1, v2] T (0, 0))) (x : Value) : (wi.setCell ⟨g, 2, none⟩ x).heap[g]? = some (.cells #[v0, v1, x] T (0, 0)) := by
  simp [World.setCell, Array.getElem?_modify, h]
theorem set_zero {wi : World} {g : Nat} {v0 v1 v2 : Value} {T : TypeId} (h : wi.heap[g]? = some (.cells #[v0, v1, v2] T (0, 0))) (x : Value) : (wi.setCell ⟨g, 0, none⟩ x).heap[g]? = some (.cells #[x, v1, v2] T (0, 0)) := by
  simp [World.setCell, Array.getElem?_modify, h]
/-- All three cells of a block anew. -/
theorem set_all {wi : World} {g : Nat} {v0 v1 v2 : Value} {T : TypeId} (h : wi.heap[g]? = some (.cells #[v0, v1, v2] T (0, 0))) (x y z : Value) :
    (((wi.setCell ⟨g, 0, none⟩ x).setCell ⟨g, 1, none⟩ y).setCell ⟨g, 2, none⟩ z).heap[g]? = some (.cells #[x, y, z] T (0, 0)) ∧ wi.grownBy (((wi.setCell ⟨g, 0, none⟩ x).setCell ⟨g, 1, none⟩ y).setCell ⟨g, 2, none⟩ z) (some g) :=
  ⟨set_two (set_one (set_zero h x) y) z, grown_trans (grown_trans (grown_set _ g 0 x) (grown_set _ g 1 y)) (grown_set _ g 2 z)⟩
/-- What the reader's challenge answers. -/
def ChAns (b : Nat) (s : ByteArray) (ahead : Nat) (r : List UInt8) (B : Nat) (e : Ending) (w' : World) : Prop :=
  (∃ (c : ChV) (u : List UInt8), chalL ahead r = .ok (c.x, u) ∧ Small c.x.params ∧ c.x.scheme.size ≤ 3000 ∧ c.x.token.size ≤ 3000 ∧ e = .returned (.tuple #[.agg #[.string c.x.scheme, .string c.x.token, .slice c.a c.len c.cap], .nilIface]) ∧ OwnP w' B (.slice c.a c.len c.cap) c.x.params ∧ CurR w' b s u) ∨
  (∃ (n left : Nat) (v : Value) (q1 q2 : ByteArray), chalL ahead r = .error (n, left) ∧ e = .returned (.tuple #[.agg #[.string q1, .string q2, .slice none 0 0], v]) ∧ IsAt w' v B n ((s.size - left : Nat) : Int))
theorem grown_new {w0 w w' : World} {b g : Nat} (h : w0.grownBy w (some b)) (hg : w.grownBy w' (some g)) (hB : w0.heap.size ≤ g) : w0.grownBy w' (some b) := grown_other h hg (fun k e => by injection e with e; omega)
set_option maxRecDepth 100000 in
set_option maxHeartbeats 4000000 in
theorem challenge_any (b : Nat) (s : ByteArray) (hs : s.size ≤ 3000) (ahead : Nat) (hah : ahead ≤ 1000) (r : List UInt8) (w : World) (hc : CurR w b s r) :
    Calls Tryz.prog 53 #[.agg #[.pointer (some ⟨b, 0, none⟩), .string s], .int .i64 (ahead : Int)] w fun e w' => ChAns b s ahead r w.heap.size e w' ∧ w.grownBy w' (some b) := by
  have hbl := hc.lt
  have hrl := hc.len
  have hrun := runL_le tokB r
  have hB1 : Below w.heap.size w ((w.alloc (.cells #[.pointer (some ⟨b, 0, none⟩), .string s] 79)).alloc (.cells #[.string ⟨#[]⟩, .string ⟨#[]⟩, .slice none 0 0] 24)) := ((Below.refl _ _).alloc (Nat.le_refl _) _).alloc (by simp) _
  have hF0 : RdF w ((w.alloc (.cells #[.pointer (some ⟨b, 0, none⟩), .string s] 79)).alloc (.cells #[.string ⟨#[]⟩, .string ⟨#[]⟩, .slice none 0 0] 24)) b s := by
    have hz : (w.alloc (.cells #[.pointer (some ⟨b, 0, none⟩), .string s] 79)).heap.size = w.heap.size + 1 := by simp
    refine ⟨?_, ?_, ?_⟩
    · rw [World.cell?_alloc_lt _ _ ⟨w.heap.size, 0, none⟩ (by simp)]; exact World.cell?_alloc_mark _ _ _ _ _
    · rw [World.cell?_alloc_lt _ _ ⟨w.heap.size, 1, none⟩ (by simp)]; exact World.cell?_alloc_mark _ _ _ _ _
    · rw [← hz]; exact heap_alloc_new _ _
  generalize hW0 : ((w.alloc (.cells #[.pointer (some ⟨b, 0, none⟩), .string s] 79)).alloc (.cells #[.string ⟨#[]⟩, .string ⟨#[]⟩, .slice none 0 0] 24)) = W0 at hB1 hF0
  have HF0 : Hid (RdF w W0 b s) := hF0
  have HC0 : Hid (CurR W0 b s r ∧ w.grownBy W0 (some b) ∧ W0.heap.size = w.heap.size + 2) := ⟨hc.below hB1, grown_below hB1 _, by rw [← hW0]; simp⟩
  have hnb : ∀ k, some b = some k → k ≠ w.heap.size ∧ k ≠ w.heap.size + 1 := fun k e => by injection e with e; omega
  obtain ⟨k, HK⟩ : ∃ k, Hid (s.size - r.length = k) := ⟨_, rfl⟩
  have hat := rd_at b s r _ HC0.out.1
  rw [HK.out] at hat
  obtain ⟨hx0, hx1, _⟩ := hF0
  clear hc hB1
  go_enter Tryz.func53, Tryz.ntmps53
  go_upto_region 1 with fail
  clear hW0
  go_wp2_with (go_at_call 88; refine hat.mono ?_; rintro e w1 ⟨rfl, hw1⟩; obtain rfl := hw1.symm; clear hw1 hat)
  refine (rd_word b s hs r _ HC0.out.1).mono ?_
  rintro e w2 ⟨t, rfl, htz, HT, hc2, hg2⟩
  have hb3 : Below w2.heap.size w2 (w2.alloc (.cells #[.string t, .string ⟨#[]⟩, .slice none 0 0] 24)) := (Below.refl _ _).alloc (Nat.le_refl _) _
  have HC3 : Hid (CurR (w2.alloc (.cells #[.string t, .string ⟨#[]⟩, .slice none 0 0] 24)) b s (r.dropWhile tokB) ∧ w.grownBy (w2.alloc (.cells #[.string t, .string ⟨#[]⟩, .slice none 0 0] 24)) (some b) ∧ RdF w (w2.alloc (.cells #[.string t, .string ⟨#[]⟩, .slice none 0 0] 24)) b s ∧ (w2.alloc (.cells #[.string t, .string ⟨#[]⟩, .slice none 0 0] 24)).heap[w2.heap.size]? = some (.cells #[.string t, .string ⟨#[]⟩, .slice none 0 0] 24 (0, 0))) :=
    ⟨hc2.below hb3, grown_trans HC0.out.2.1 (grown_trans hg2 (grown_below hb3 _)), (HF0.out.grown hg2 (fun k e => hnb k e)).grown (grown_below hb3 none) (fun k e => by cases e), heap_alloc_new w2 _⟩
  have hgz : w.heap.size + 2 ≤ w2.heap.size := by have := hg2.size; have := HC0.out.2.2; omega
  have ht3 : t.size ≤ 3000 := by omega
  have HTZ : Hid (t.size = runL tokB r) := htz
  obtain ⟨g3, HG3⟩ : ∃ g3, Hid (w2.heap.size = g3) := ⟨_, rfl⟩
  clear hc2 hg2 hb3 hx0 hx1 htz
  by_cases h0 : r.takeWhile tokB = []
  · have HA : Hid (chalL ahead r = .error (3, r.length)) := by show _ = _; unfold chalL; rw [if_pos h0]
    have ht0 : t.size = 0 := by rw [HTZ.out]; unfold runL; rw [h0]; rfl
    obtain rfl : t = ⟨#[]⟩ := ByteArray.ext (Array.eq_empty_of_size_eq_zero ht0)
    clear h0
    go_wp2_with fail
    refine (wrong_any 3 k _).mono ?_
    rintro e w9 ⟨⟨g, rfl, hg0, hg1, hgB, hgl⟩, hbw⟩
    have HAT : Hid (IsAt w9 (.iface 115 (.pointer (some ⟨g, 0, none⟩))) (w2.alloc (.cells #[.string ⟨#[]⟩, .string ⟨#[]⟩, .slice none 0 0] 24)).heap.size 3 k) := ⟨g, rfl, hg0, hg1, hgB, hgl⟩
    have HGW : Hid (w.grownBy w9 (some b)) := grown_trans HC3.out.2.1 (grown_below hbw _)
    have HR9 : Hid (w9.heap[w.heap.size + 1]? = some (.cells #[.string ⟨#[]⟩, .string ⟨#[]⟩, .slice none 0 0] 24 (0, 0))) := (RdF.grown HC3.out.2.2.1 (grown_below hbw none) (fun k e => by cases e)).res
    have HLT : Hid (w.heap.size + 1 < (w2.alloc (.cells #[.string ⟨#[]⟩, .string ⟨#[]⟩, .slice none 0 0] 24)).heap.size) := (Array.getElem?_eq_some_iff.1 (RdF.res HC3.out.2.2.1)).1
    obtain ⟨⟨r0, r1, r2⟩, f0, f1, f2⟩ := res_cells HR9.out
    clear hg0 hg1 hbw
    go_wp2
    obtain ⟨z1, z2⟩ := set_all HR9.out (.string ⟨#[]⟩) (.string ⟨#[]⟩) (.slice none 0 0)
    obtain ⟨⟨e0, e1, e2⟩, _⟩ := res_cells z1
    exact bodyPost_ret (v := .tuple #[.agg #[.string ⟨#[]⟩, .string ⟨#[]⟩, .slice none 0 0], (.iface 115 (.pointer (some ⟨g, 0, none⟩)))]) (by simp [results, Tryz.f53, go_sem, e0, e1, e2]) rfl ⟨.inr ⟨_, _, _, _, _, HA.out, rfl, by rw [HK.out]; exact (HAT.out.grown z2 (fun k e => by injection e with e; have := HLT.out; omega)).mono (by have := HLT.out; omega)⟩, grown_new HGW.out z2 (by omega)⟩
  · have HN0 : Hid (r.takeWhile tokB ≠ []) := h0
    have hte : t.toList.isEmpty = false := by
      rw [HT.out, ByteArray.toList_eq, bs_data]
      cases h : r.takeWhile tokB with
      | nil => exact absurd h h0
      | cons x y => rfl
    clear h0
    by_cases h8 : (8 : Int) ≤ (ahead : Int)
    · have HA : Hid (chalL ahead r = .error (4, r.length)) := by show _ = _; unfold chalL; rw [if_neg HN0.out, if_pos (by omega)]
      go_wp2_with fail
      refine (wrong_any 4 k _).mono ?_
      rintro e w9 ⟨⟨g, rfl, hg0, hg1, hgB, hgl⟩, hbw⟩
      have HAT : Hid (IsAt w9 (.iface 115 (.pointer (some ⟨g, 0, none⟩))) (w2.alloc (.cells #[.string t, .string ⟨#[]⟩, .slice none 0 0] 24)).heap.size 4 k) := ⟨g, rfl, hg0, hg1, hgB, hgl⟩
      have HGW : Hid (w.grownBy w9 (some b)) := grown_trans HC3.out.2.1 (grown_below hbw _)
      have HR9 : Hid (w9.heap[w.heap.size + 1]? = some (.cells #[.string ⟨#[]⟩, .string ⟨#[]⟩, .slice none 0 0] 24 (0, 0))) := (RdF.grown HC3.out.2.2.1 (grown_below hbw none) (fun k e => by cases e)).res
      have HLT : Hid (w.heap.size + 1 < (w2.alloc (.cells #[.string t, .string ⟨#[]⟩, .slice none 0 0] 24)).heap.size) := (Array.getElem?_eq_some_iff.1 (RdF.res HC3.out.2.2.1)).1
      obtain ⟨⟨r0, r1, r2⟩, f0, f1, f2⟩ := res_cells HR9.out
      clear hg0 hg1 hbw
      go_wp2
      obtain ⟨z1, z2⟩ := set_all HR9.out (.string ⟨#[]⟩) (.string ⟨#[]⟩) (.slice none 0 0)
      obtain ⟨⟨e0, e1, e2⟩, _⟩ := res_cells z1
      exact bodyPost_ret (v := .tuple #[.agg #[.string ⟨#[]⟩, .string ⟨#[]⟩, .slice none 0 0], (.iface 115 (.pointer (some ⟨g, 0, none⟩)))]) (by simp [results, Tryz.f53, go_sem, e0, e1, e2]) rfl ⟨.inr ⟨_, _, _, _, _, HA.out, rfl, by rw [HK.out]; exact (HAT.out.grown z2 (fun k e => by injection e with e; have := HLT.out; omega)).mono (by have := HLT.out; omega)⟩, grown_new HGW.out z2 (by omega)⟩
    · have HA8 : Hid (¬ 8 ≤ ahead) := by show ¬ _; omega
      obtain ⟨hx0, hx1, _⟩ := HC3.out.2.2.1
      go_wp2_with fail
      refine (rd_blanks b s hs _ _ HC3.out.1).mono ?_
      rintro e w4 ⟨rfl, hc4, hg4⟩
      have HC4 : Hid (CurR w4 b s ((r.dropWhile tokB).dropWhile blankB) ∧ w.grownBy w4 (some b) ∧ RdF w w4 b s ∧ w4.heap[w2.heap.size]? = some (.cells #[.string t, .string ⟨#[]⟩, .slice none 0 0] 24 (0, 0))) :=
        ⟨hc4, grown_trans HC3.out.2.1 hg4, HC3.out.2.2.1.grown hg4 (fun k e => hnb k e), (hg4.block _ (by simp) (by intro e; injection e with e; omega)).trans HC3.out.2.2.2⟩
      clear hc4 hg4 hx0 hx1 HC3
      obtain ⟨hx0, hx1, _⟩ := HC4.out.2.2.1
      go_wp2_with fail
      refine (over_at b s _ _ HC4.out.1).mono ?_
      rintro e w5 ⟨rfl, hc5, hg5⟩
      have HC5 : Hid (CurR w5 b s ((r.dropWhile tokB).dropWhile blankB) ∧ w.grownBy w5 (some b) ∧ RdF w w5 b s ∧ w5.heap[w2.heap.size]? = some (.cells #[.string t, .string ⟨#[]⟩, .slice none 0 0] 24 (0, 0))) :=
        ⟨hc5, grown_trans HC4.out.2.1 hg5, HC4.out.2.2.1.grown hg5 (fun k e => hnb k e), (hg5.block _ (Array.getElem?_eq_some_iff.1 HC4.out.2.2.2).1 (by intro e; injection e with e; omega)).trans HC4.out.2.2.2⟩
      clear hc5 hg5 hx0 hx1 HC4
      obtain ⟨hx0, hx1, hres⟩ := HC5.out.2.2.1
      obtain ⟨⟨r0, r1, r2⟩, f0, f1, f2⟩ := res_cells hres
      obtain ⟨⟨b0, b1, b2⟩, n0, n1, n2⟩ := res_cells HC5.out.2.2.2
      have HRES : Hid (w5.heap[w.heap.size + 1]? = some (.cells #[.string ⟨#[]⟩, .string ⟨#[]⟩, .slice none 0 0] 24 (0, 0))) := hres
      clear hres
      obtain ⟨r2', HR2⟩ : ∃ r2', Hid ((r.dropWhile tokB).dropWhile blankB = r2') := ⟨_, rfl⟩
      cases hst : stopsL ((r.dropWhile tokB).dropWhile blankB)
      · by_cases hbk : 0 < runL blankB (r.dropWhile tokB)
        · have HIN : Hid (chalL ahead r = insideL t ((r.dropWhile tokB).dropWhile blankB)) := by
            show _ = _
            unfold chalL
            rw [if_neg HN0.out, if_neg HA8.out, if_neg (by rw [hst]; simp), if_neg (by omega), HT.out]
          rw [decide_eq_true hbk]
          clear hbk hst
          rw [HR2.out] at HIN HC5
          go_wp2_with fail
          refine (token_any b s hs _ _ HC5.out.1).mono ?_
          rintro e w6 ⟨htk, hg6⟩
          have HC6 : Hid (w.grownBy w6 (some b) ∧ RdF w w6 b s ∧ w6.heap[w2.heap.size]? = some (.cells #[.string t, .string ⟨#[]⟩, .slice none 0 0] 24 (0, 0))) :=
            ⟨grown_trans HC5.out.2.1 hg6, HC5.out.2.2.1.grown hg6 (fun k e => hnb k e), (hg6.block _ (Array.getElem?_eq_some_iff.1 HC5.out.2.2.2).1 (by intro e; injection e with e; omega)).trans HC5.out.2.2.2⟩
          clear hg6 hx0 hx1 r0 r1 r2 f0 f1 f2 b0 b1 b2 n0 n1 n2 HRES
          rcases htk with ⟨tk, u, hT, htk0, htk3, rfl, hc6⟩ | ⟨hT, rfl, hc6⟩
          · have HA : Hid (chalL ahead r = .ok (⟨t, tk, []⟩, u)) := by
              show _ = _
              rw [HIN.out]
              unfold insideL
              rw [hT]
            have hb7 := set_one HC6.out.2.2 (.string tk)
            have hg7 := grown_set w6 w2.heap.size 1 (.string tk)
            have HC7 : Hid (CurR (w6.setCell ⟨w2.heap.size, 1, none⟩ (.string tk)) b s u ∧ w.grownBy (w6.setCell ⟨w2.heap.size, 1, none⟩ (.string tk)) (some b) ∧ RdF w (w6.setCell ⟨w2.heap.size, 1, none⟩ (.string tk)) b s) :=
              ⟨hc6.grown hg7 (by intro e; injection e with e; omega), grown_new HC6.out.1 hg7 (by omega), HC6.out.2.1.grown hg7 (fun k e => by injection e with e; omega)⟩
            obtain ⟨⟨b0, b1, b2⟩, n0, n1, n2⟩ := res_cells HC6.out.2.2
            obtain ⟨⟨c0, c1, c2⟩, _, _, _⟩ := res_cells hb7
            obtain ⟨⟨r0, r1, r2⟩, f0, f1, f2⟩ := res_cells HC7.out.2.2.res
            have hke : tk.toList.isEmpty = false := by
              rw [ByteArray.toList_eq]
              cases h : tk.data.toList with
              | nil => exact absurd (by rw [← len_data, h]; rfl) htk0
              | cons x y => rfl
            clear hT hc6 hb7 hg7
            generalize hW7 : w6.setCell ⟨w2.heap.size, 1, none⟩ (.string tk) = W7 at HC7 c0 c1 c2 r0 r1 r2 f0 f1 f2
            go_wp2
            obtain ⟨z1, z2⟩ := set_all HC7.out.2.2.res (.string t) (.string tk) (.slice none 0 0)
            obtain ⟨⟨e0, e1, e2⟩, _⟩ := res_cells z1
            exact bodyPost_ret (v := .tuple #[.agg #[.string t, .string tk, .slice none 0 0], .nilIface]) (by simp [results, Tryz.f53, go_sem, e0, e1, e2]) rfl ⟨.inl ⟨⟨⟨t, tk, []⟩, none, 0, 0, 0⟩, _, HA.out, ⟨by simp, fun p hp => by cases hp⟩, ht3, htk3, rfl, ownP_nil _ _, HC7.out.1.grown z2 (by intro e; injection e with e; omega)⟩, grown_new HC7.out.2.1 z2 (by omega)⟩
          · have HIN2 : Hid (chalL ahead r = (paramsL (r2'.length + 1) [] r2').map fun x => (⟨t, ⟨#[]⟩, x.1⟩, x.2)) := by
              show _ = _
              rw [HIN.out]
              unfold insideL
              rw [hT]
            have hb7 := set_one HC6.out.2.2 (.string ⟨#[]⟩)
            have hg7 := grown_set w6 w2.heap.size 1 (.string ⟨#[]⟩)
            have HC7 : Hid (CurR (w6.setCell ⟨w2.heap.size, 1, none⟩ (.string ⟨#[]⟩)) b s r2' ∧ w.grownBy (w6.setCell ⟨w2.heap.size, 1, none⟩ (.string ⟨#[]⟩)) (some b) ∧ RdF w (w6.setCell ⟨w2.heap.size, 1, none⟩ (.string ⟨#[]⟩)) b s ∧ (w6.setCell ⟨w2.heap.size, 1, none⟩ (.string ⟨#[]⟩)).heap[w2.heap.size]? = some (.cells #[.string t, .string ⟨#[]⟩, .slice none 0 0] 24 (0, 0))) :=
              ⟨hc6.grown hg7 (by intro e; injection e with e; omega), grown_new HC6.out.1 hg7 (by omega), HC6.out.2.1.grown hg7 (fun k e => by injection e with e; omega), hb7⟩
            obtain ⟨⟨b0, b1, b2⟩, n0, n1, n2⟩ := res_cells HC6.out.2.2
            obtain ⟨⟨c0, c1, c2⟩, m0, m1, m2⟩ := res_cells hb7
            obtain ⟨hx0, hx1, _⟩ := HC7.out.2.2.1
            clear hT hc6 hb7 hg7 HIN
            generalize hW7 : w6.setCell ⟨w2.heap.size, 1, none⟩ (.string ⟨#[]⟩) = W7 at HC7 c0 c1 c2 m0 m1 m2 hx0 hx1
            go_wp2_with fail
            clear hW7
            refine (params_any b s hs _ _ HC7.out.1).mono ?_
            rintro e w8 ⟨hps, hg8⟩
            have hw7 : w2.heap.size < W7.heap.size := (Array.getElem?_eq_some_iff.1 HC7.out.2.2.2).1
            have HC8 : Hid (w.grownBy w8 (some b) ∧ RdF w w8 b s ∧ w8.heap[w2.heap.size]? = some (.cells #[.string t, .string ⟨#[]⟩, .slice none 0 0] 24 (0, 0))) :=
              ⟨grown_trans HC7.out.2.1 hg8, HC7.out.2.2.1.grown hg8 (fun k e => hnb k e), (hg8.block _ hw7 (by intro e; injection e with e; omega)).trans HC7.out.2.2.2⟩
            clear hg8 hx0 hx1 b0 b1 b2 n0 n1 n2 c0 c1 c2 m0 m1 m2
            rcases hps with ⟨ps, u, v, hP, hsm, rfl, hown, hc8⟩ | ⟨en, left, v, hP, rfl, hat8⟩
            · obtain ⟨a, cap, pg, rfl, _, _⟩ := hown.pars
              have HA : Hid (chalL ahead r = .ok (⟨t, ⟨#[]⟩, ps⟩, u)) := by
                show _ = _
                rw [HIN2.out, hP]
                rfl
              have hb9 := set_two HC8.out.2.2 (.slice a ps.length cap)
              have hg9 := grown_set w8 w2.heap.size 2 (.slice a ps.length cap)
              have HC9 : Hid (CurR (w8.setCell ⟨w2.heap.size, 2, none⟩ (.slice a ps.length cap)) b s u ∧ w.grownBy (w8.setCell ⟨w2.heap.size, 2, none⟩ (.slice a ps.length cap)) (some b) ∧ RdF w (w8.setCell ⟨w2.heap.size, 2, none⟩ (.slice a ps.length cap)) b s ∧ OwnP (w8.setCell ⟨w2.heap.size, 2, none⟩ (.slice a ps.length cap)) W7.heap.size (.slice a ps.length cap) ps) :=
                ⟨hc8.grown hg9 (by intro e; injection e with e; omega), grown_new HC8.out.1 hg9 (by omega), HC8.out.2.1.grown hg9 (fun k e => by injection e with e; omega), hown.grown hg9 hw7⟩
              obtain ⟨⟨b0, b1, b2⟩, n0, n1, n2⟩ := res_cells HC8.out.2.2
              obtain ⟨⟨c0, c1, c2⟩, m0, m1, m2⟩ := res_cells hb9
              obtain ⟨⟨r0, r1, r2⟩, f0, f1, f2⟩ := res_cells HC9.out.2.2.1.res
              have HSM : Hid (Small ps) := hsm
              clear hP hc8 hown hb9 hg9
              generalize hW9 : w8.setCell ⟨w2.heap.size, 2, none⟩ (.slice a ps.length cap) = W9 at HC9 c0 c1 c2 m0 m1 m2 r0 r1 r2 f0 f1 f2
              go_wp2
              clear hW9
              obtain ⟨z1, z2⟩ := set_all HC9.out.2.2.1.res (.string t) (.string ⟨#[]⟩) (.slice a ps.length cap)
              obtain ⟨⟨e0, e1, e2⟩, _⟩ := res_cells z1
              exact bodyPost_ret (v := .tuple #[.agg #[.string t, .string ⟨#[]⟩, .slice a ps.length cap], .nilIface]) (by simp [results, Tryz.f53, go_sem, e0, e1, e2]) rfl ⟨.inl ⟨⟨⟨t, ⟨#[]⟩, ps⟩, a, cap, 0, 0⟩, _, HA.out, HSM.out, ht3, Nat.zero_le _, rfl, World.ownsRow.mono (HC9.out.2.2.2.grown z2 (by omega)) (by omega), HC9.out.1.grown z2 (by intro e; injection e with e; omega)⟩, grown_new HC9.out.2.1 z2 (by omega)⟩
            · have HA : Hid (chalL ahead r = .error (en, left)) := by
                show _ = _
                rw [HIN2.out, hP]
                rfl
              obtain ⟨eg, rfl, eg0, eg1, egB, egl⟩ := hat8
              have hb9 := set_two HC8.out.2.2 (.slice none 0 0)
              have hg9 := grown_set w8 w2.heap.size 2 (.slice none 0 0)
              have HC9 : Hid (IsAt (w8.setCell ⟨w2.heap.size, 2, none⟩ (.slice none 0 0)) (.iface 115 (.pointer (some ⟨eg, 0, none⟩))) W7.heap.size en ((s.size - left : Nat) : Int) ∧ w.grownBy (w8.setCell ⟨w2.heap.size, 2, none⟩ (.slice none 0 0)) (some b) ∧ RdF w (w8.setCell ⟨w2.heap.size, 2, none⟩ (.slice none 0 0)) b s) :=
                ⟨IsAt.grown ⟨eg, rfl, eg0, eg1, egB, egl⟩ hg9 (fun k e => by injection e with e; omega), grown_new HC8.out.1 hg9 (by omega), HC8.out.2.1.grown hg9 (fun k e => by injection e with e; omega)⟩
              obtain ⟨⟨b0, b1, b2⟩, n0, n1, n2⟩ := res_cells HC8.out.2.2
              obtain ⟨⟨c0, c1, c2⟩, m0, m1, m2⟩ := res_cells hb9
              obtain ⟨⟨r0, r1, r2⟩, f0, f1, f2⟩ := res_cells HC9.out.2.2.res
              clear hP eg0 eg1 hb9 hg9
              generalize hW9 : w8.setCell ⟨w2.heap.size, 2, none⟩ (.slice none 0 0) = W9 at HC9 c0 c1 c2 m0 m1 m2 r0 r1 r2 f0 f1 f2
              go_wp2
              clear hW9
              obtain ⟨z1, z2⟩ := set_all HC9.out.2.2.res (.string t) (.string ⟨#[]⟩) (.slice none 0 0)
              obtain ⟨⟨e0, e1, e2⟩, _⟩ := res_cells z1
              exact bodyPost_ret (v := .tuple #[.agg #[.string t, .string ⟨#[]⟩, .slice none 0 0], .iface 115 (.pointer (some ⟨eg, 0, none⟩))]) (by simp [results, Tryz.f53, go_sem, e0, e1, e2]) rfl ⟨.inr ⟨en, left, _, _, _, HA.out, rfl, (HC9.out.1.grown z2 (fun k e => by injection e with e; omega)).mono (by omega)⟩, grown_new HC9.out.2.1 z2 (by omega)⟩
        · have HA : Hid (chalL ahead r = .error (3, ((r.dropWhile tokB).dropWhile blankB).length)) := by
            show _ = _
            unfold chalL
            rw [if_neg HN0.out, if_neg HA8.out, if_neg (by rw [hst]; simp), if_pos (by omega)]
          rw [decide_eq_false hbk]
          clear hbk hst
          have hat2 := rd_at b s _ _ HC5.out.1
          obtain ⟨k2, HK2⟩ : ∃ k2, Hid (s.size - ((r.dropWhile tokB).dropWhile blankB).length = k2) := ⟨_, rfl⟩
          rw [HK2.out] at hat2
          go_wp2_with (go_at_call 88; refine hat2.mono ?_; rintro e w1 ⟨rfl, hw1⟩; obtain rfl := hw1.symm; clear hw1 hat2)
          refine (wrong_any 3 k2 _).mono ?_
          rintro e w9 ⟨⟨g, rfl, hg0, hg1, hgB, hgl⟩, hbw⟩
          have HAT : Hid (IsAt w9 (.iface 115 (.pointer (some ⟨g, 0, none⟩))) (w5).heap.size 3 k2) := ⟨g, rfl, hg0, hg1, hgB, hgl⟩
          have HGW : Hid (w.grownBy w9 (some b)) := grown_trans HC5.out.2.1 (grown_below hbw _)
          have HR9 : Hid (w9.heap[w.heap.size + 1]? = some (.cells #[.string ⟨#[]⟩, .string ⟨#[]⟩, .slice none 0 0] 24 (0, 0))) := (RdF.grown HC5.out.2.2.1 (grown_below hbw none) (fun k e => by cases e)).res
          have HLT : Hid (w.heap.size + 1 < (w5).heap.size) := (Array.getElem?_eq_some_iff.1 (RdF.res HC5.out.2.2.1)).1
          clear hg0 hg1 hbw r0 r1 r2 f0 f1 f2 b0 b1 b2 n0 n1 n2 hx0 hx1
          obtain ⟨⟨r0, r1, r2⟩, f0, f1, f2⟩ := res_cells HR9.out
          go_wp2
          obtain ⟨z1, z2⟩ := set_all HR9.out (.string ⟨#[]⟩) (.string ⟨#[]⟩) (.slice none 0 0)
          obtain ⟨⟨e0, e1, e2⟩, _⟩ := res_cells z1
          exact bodyPost_ret (v := .tuple #[.agg #[.string ⟨#[]⟩, .string ⟨#[]⟩, .slice none 0 0], (.iface 115 (.pointer (some ⟨g, 0, none⟩)))]) (by simp [results, Tryz.f53, go_sem, e0, e1, e2]) rfl ⟨.inr ⟨_, _, _, _, _, HA.out, rfl, by rw [HK2.out]; exact (HAT.out.grown z2 (fun k e => by injection e with e; have := HLT.out; omega)).mono (by have := HLT.out; omega)⟩, grown_new HGW.out z2 (by omega)⟩
      · have HA : Hid (chalL ahead r = .ok (⟨t, ⟨#[]⟩, []⟩, (r.dropWhile tokB).dropWhile blankB)) := by
          show _ = _
          unfold chalL
          rw [if_neg HN0.out, if_neg HA8.out, if_pos hst, HT.out]
        go_wp2
        obtain ⟨z1, z2⟩ := set_all HRES.out (.string t) (.string ⟨#[]⟩) (.slice none 0 0)
        obtain ⟨⟨e0, e1, e2⟩, _⟩ := res_cells z1
        exact bodyPost_ret (v := .tuple #[.agg #[.string t, .string ⟨#[]⟩, .slice none 0 0], .nilIface]) (by simp [results, Tryz.f53, go_sem, e0, e1, e2]) rfl ⟨.inl ⟨⟨⟨t, ⟨#[]⟩, []⟩, none, 0, 0, 0⟩, _, HA.out, ⟨by simp, fun p hp => by cases hp⟩, ht3, Nat.zero_le _, rfl, ownP_nil _ _, HC5.out.1.grown z2 (by intro e; injection e with e; omega)⟩, grown_new HC5.out.2.1 z2 (by omega)⟩
end Go.Proofs.YtooaiamfbmjmnaaGreatDoor
