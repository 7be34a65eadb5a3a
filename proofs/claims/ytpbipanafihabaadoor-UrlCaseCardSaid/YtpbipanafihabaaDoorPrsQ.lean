/- What a text is as a URL: over lists of bytes; and the callees of Parse, each answer told ahead. -/
import Derived.Test.YtpbipanafihabaaDoorOrgP
import Derived.Test.YtpbipanafihabaaDoorSnd
import Derived.Test.YtpbipanafihabaaDoorCle
namespace Go.Proofs.YtpbipanafihabaaDoor
open Go.RowKit

/-- What a text is as a URL: an error's number, or scheme, host, port, path and query. -/
def parseL (l : List UInt8) : Int ⊕ (Bool × List UInt8 × Int × List UInt8 × List UInt8) :=
  match schemeL (cutL 63 (cutL 35 l).1).1 with
  | none => .inl 3
  | some (sec, r) => match originL sec (cutL 47 r).1 with
    | none => .inl 3
    | some (h, n) =>
      if sendL (r.drop (cutL 47 r).1.length) && sendL (cutL 63 (cutL 35 l).1).2.1 then
        (if (cleanL (r.drop (cutL 47 r).1.length)).length ≤ 200 then .inr (sec, h, n, cleanL (r.drop (cutL 47 r).1.length), (cutL 63 (cutL 35 l).1).2.1) else .inl 2)
      else .inl 3
theorem parse_scheme {l t a q : List UInt8} {f g : Bool} {x : List UInt8} (h1 : cutL 35 l = (t, x, f)) (h2 : cutL 63 t = (a, q, g)) (h3 : schemeL a = none) : parseL l = .inl 3 := by
  unfold parseL
  rw [h1]
  dsimp only
  rw [h2]
  dsimp only
  rw [h3]
theorem parse_origin {l t a q r hp y : List UInt8} {f g k : Bool} {x : List UInt8} {sec : Bool} (h1 : cutL 35 l = (t, x, f)) (h2 : cutL 63 t = (a, q, g)) (h3 : schemeL a = some (sec, r)) (h4 : cutL 47 r = (hp, y, k)) (h5 : originL sec hp = none) : parseL l = .inl 3 := by
  unfold parseL
  rw [h1]
  dsimp only
  rw [h2]
  dsimp only
  rw [h3]
  dsimp only
  rw [h4]
  dsimp only
  rw [h5]
theorem parse_rest {l t a q r hp y : List UInt8} {f g k : Bool} {x : List UInt8} {sec : Bool} {h : List UInt8} {n : Int} (h1 : cutL 35 l = (t, x, f)) (h2 : cutL 63 t = (a, q, g)) (h3 : schemeL a = some (sec, r)) (h4 : cutL 47 r = (hp, y, k)) (h5 : originL sec hp = some (h, n)) :
    parseL l = if sendL (r.drop hp.length) && sendL q then (if (cleanL (r.drop hp.length)).length ≤ 200 then .inr (sec, h, n, cleanL (r.drop hp.length), q) else .inl 2) else .inl 3 := by
  unfold parseL
  rw [h1]
  dsimp only
  rw [h2]
  dsimp only
  rw [h3]
  dsimp only
  rw [h4]
  dsimp only
  rw [h5]
theorem data_inj {a b : ByteArray} (h : a.data.toList = b.data.toList) : a = b := by
  apply ByteArray.ext
  apply Array.ext'
  exact h
theorem cut_of (s a b : ByteArray) (c : UInt8) (f : Bool) (hs : s.size ≤ 5000) (hc : cutL c s.data.toList = (a.data.toList, b.data.toList, f)) (w : World) :
    Calls Tryd.prog 26 #[.string s, .string ⟨#[c]⟩] w fun e w' => e = .returned (.tuple #[.string a, .string b, .bool f]) ∧ Below w.heap.size w w' := by
  refine (cut_any s c hs w).mono ?_
  rintro e w' ⟨a2, b2, f2, rfl, _, _, H, hb⟩
  have := hc.symm.trans H.out
  simp only [Prod.mk.injEq] at this
  obtain ⟨e1, e2, rfl⟩ := this
  rw [data_inj e1, data_inj e2]
  exact ⟨rfl, hb⟩
theorem scheme_yes (s r : ByteArray) (sec : Bool) (hs : s.size ≤ 5000) (w : World) (h : Schemes w) (hc : schemeL s.data.toList = some (sec, r.data.toList)) :
    Calls Tryd.prog 20 #[.string s] w fun e w' => e = .returned (.tuple #[.agg #[.string (markOf sec), .bool sec, .int .i64 (portI sec)], .string r, .bool true]) ∧ Below w.heap.size w w' := by
  refine (scheme_any s hs w h).mono ?_
  rintro e w' ⟨hb, ⟨sec2, r2, rfl, _, h2⟩ | ⟨_, h2⟩⟩
  · rw [hc] at h2
    simp only [Option.some.injEq, Prod.mk.injEq] at h2
    obtain ⟨rfl, e2⟩ := h2
    rw [data_inj e2]
    exact ⟨rfl, hb⟩
  · rw [hc] at h2
    cases h2
theorem scheme_no (s : ByteArray) (hs : s.size ≤ 5000) (w : World) (h : Schemes w) (hc : schemeL s.data.toList = none) :
    Calls Tryd.prog 20 #[.string s] w fun e w' => e = .returned (.tuple #[.agg #[.string ⟨#[]⟩, .bool false, .int .i64 0], .string ⟨#[]⟩, .bool false]) ∧ Below w.heap.size w w' := by
  refine (scheme_any s hs w h).mono ?_
  rintro e w' ⟨hb, ⟨sec2, r2, rfl, _, h2⟩ | ⟨rfl, h2⟩⟩
  · rw [hc] at h2
    cases h2
  · exact ⟨rfl, hb⟩
theorem originOf_yes (sec : Bool) (mk s x : ByteArray) (n : Int) (hs : s.size ≤ 900) (w : World) (pt : Int) (HP : Hid (portI sec = pt)) (ho : originL sec s.data.toList = some (x.data.toList, n)) :
    Calls Tryd.prog 21 #[.agg #[.string mk, .bool sec, .int .i64 pt], .string s] w fun e w' => e = .returned (.tuple #[.agg #[.bool sec, .string x, .int .i64 n], .nilIface]) ∧ Below w.heap.size w w' := by
  refine (originOf_any sec mk s hs w pt HP).mono ?_
  rintro e w' ⟨hb, ⟨x2, n2, rfl, _, h2⟩ | ⟨_, h2⟩⟩
  · rw [ho] at h2
    simp only [Option.some.injEq, Prod.mk.injEq] at h2
    obtain ⟨e2, rfl⟩ := h2
    rw [data_inj e2]
    exact ⟨rfl, hb⟩
  · rw [ho] at h2
    cases h2
theorem originOf_no (sec : Bool) (mk s : ByteArray) (hs : s.size ≤ 900) (w : World) (pt : Int) (HP : Hid (portI sec = pt)) (ho : originL sec s.data.toList = none) :
    Calls Tryd.prog 21 #[.agg #[.string mk, .bool sec, .int .i64 pt], .string s] w fun e w' => e = .returned (.tuple #[.agg #[.bool false, .string ⟨#[]⟩, .int .i64 0], .iface 24 (.int .i64 3)]) ∧ Below w.heap.size w w' := by
  refine (originOf_any sec mk s hs w pt HP).mono ?_
  rintro e w' ⟨hb, ⟨x2, n2, rfl, _, h2⟩ | ⟨rfl, h2⟩⟩
  · rw [ho] at h2
    cases h2
  · exact ⟨rfl, hb⟩
theorem originL_host {sec : Bool} {l h : List UInt8} {n : Int} (ho : originL sec l = some (h, n)) : h.length ≤ 60 ∧ rightL h n = true := by
  unfold originL at ho
  generalize (if (cutL 58 l).2.2 = true then (numL (cutL 58 l).2.1 : Int) else portI sec) = P at ho
  split at ho
  · rename_i hr
    simp only [Option.some.injEq, Prod.mk.injEq] at ho
    obtain ⟨rfl, rfl⟩ := ho
    refine ⟨?_, hr⟩
    unfold rightL at hr
    rw [Bool.and_eq_true, Bool.and_eq_true] at hr
    exact of_decide_eq_true hr.1.1
  · cases ho
theorem cut_slash (r : ByteArray) : ∃ (E : Nat) (y : List UInt8) (k : Bool), E ≤ r.size ∧ cutL 47 r.data.toList = ((r.extract 0 E).data.toList, y, k) ∧ ((ixOf r.data.toList 47 = -1 ∧ E = r.size) ∨ (ixOf r.data.toList 47 = (E : Int))) := by
  rcases ixOf_first r.data.toList 47 with ⟨hi, hno⟩ | ⟨k, hk, hi, hno, hsp⟩
  · refine ⟨r.size, [], false, Nat.le_refl _, ?_, .inl ⟨hi, rfl⟩⟩
    rw [cutL_none 47 _ hno, upto_data, List.take_of_length_le (by simp)]
  · refine ⟨k, r.data.toList.drop (k + 1), true, by rw [data_len] at hk; omega, ?_, .inr hi⟩
    conv => lhs; rw [hsp]
    rw [cutL_some 47 _ _ hno, upto_data]
structure K5 (w W : World) : Prop where
  bel : Below w.heap.size w W
  siz : w.heap.size < W.heap.size
  sch : Schemes W
  c0 : W.cell? ⟨w.heap.size, 0, none⟩ = some (.bool false)
  c1 : W.cell? ⟨w.heap.size, 1, none⟩ = some (.string ⟨#[]⟩)
  c2 : W.cell? ⟨w.heap.size, 2, none⟩ = some (.int .i64 0)
  c3 : W.cell? ⟨w.heap.size, 3, none⟩ = some (.string ⟨#[]⟩)
  c4 : W.cell? ⟨w.heap.size, 4, none⟩ = some (.string ⟨#[]⟩)
  f0 : ∀ j, W.frozen? ⟨w.heap.size, j, none⟩ = false
theorem K5.step {w W W' : World} (h : K5 w W) (hb : Below W.heap.size W W') : K5 w W' :=
  ⟨h.bel.trans (hb.mono h.bel.size), Nat.lt_of_lt_of_le h.siz hb.size, h.sch.below hb (Nat.le_refl _), (freshC w.heap.size hb 0 h.siz).trans h.c0, (freshC w.heap.size hb 1 h.siz).trans h.c1, (freshC w.heap.size hb 2 h.siz).trans h.c2, (freshC w.heap.size hb 3 h.siz).trans h.c3, (freshC w.heap.size hb 4 h.siz).trans h.c4, fun j => (freshF w.heap.size hb j h.siz).trans (h.f0 j)⟩
theorem k5_new (w : World) (h : Schemes w) : K5 w (w.alloc (.cells #[.bool false, .string ⟨#[]⟩, .int .i64 0, .string ⟨#[]⟩, .string ⟨#[]⟩] 34)) := by
  have hb : Below w.heap.size w (w.alloc (.cells #[.bool false, .string ⟨#[]⟩, .int .i64 0, .string ⟨#[]⟩, .string ⟨#[]⟩] 34)) := (Below.refl _ _).alloc (Nat.le_refl _) _
  exact ⟨hb, by simp, h.below hb (Nat.le_refl _), cells_new _ _ _ 0, cells_new _ _ _ 1, cells_new _ _ _ 2, cells_new _ _ _ 3, cells_new _ _ _ 4, fun j => by simp⟩
/-- Five cells written, one behind the other. -/
abbrev put5 (X : World) (b : Nat) (v0 v1 v2 v3 v4 : Value) : World := ((((X.setCell ⟨b, 0, none⟩ v0).setCell ⟨b, 1, none⟩ v1).setCell ⟨b, 2, none⟩ v2).setCell ⟨b, 3, none⟩ v3).setCell ⟨b, 4, none⟩ v4
theorem put5_cells {X : World} {b : Nat} (v0 v1 v2 v3 v4 : Value) (h : ∀ j, j < 5 → ∃ v, X.cell? ⟨b, j, none⟩ = some v) : (put5 X b v0 v1 v2 v3 v4).cell? ⟨b, 0, none⟩ = some v0 ∧ (put5 X b v0 v1 v2 v3 v4).cell? ⟨b, 1, none⟩ = some v1 ∧ (put5 X b v0 v1 v2 v3 v4).cell? ⟨b, 2, none⟩ = some v2 ∧ (put5 X b v0 v1 v2 v3 v4).cell? ⟨b, 3, none⟩ = some v3 ∧ (put5 X b v0 v1 v2 v3 v4).cell? ⟨b, 4, none⟩ = some v4 := by
  have key : ∀ (Y : World) (i : Nat) (v : Value), (∃ u, Y.cell? ⟨b, i, none⟩ = some u) → (Y.setCell ⟨b, i, none⟩ v).cell? ⟨b, i, none⟩ = some v := fun Y i v ⟨u, hu⟩ => World.cell?_setCell_same _ _ _ hu
  have oth : ∀ (Y : World) (i j : Nat) (v : Value), i ≠ j → (Y.setCell ⟨b, i, none⟩ v).cell? ⟨b, j, none⟩ = Y.cell? ⟨b, j, none⟩ := fun Y i j v hij => World.cell?_setCell_other _ _ _ _ (fun e => hij (by injection e))
  unfold put5
  refine ⟨?_, ?_, ?_, ?_, ?_⟩
  · rw [oth _ 4 0 _ (by decide), oth _ 3 0 _ (by decide), oth _ 2 0 _ (by decide), oth _ 1 0 _ (by decide)]
    exact key _ _ _ (h 0 (by decide))
  · rw [oth _ 4 1 _ (by decide), oth _ 3 1 _ (by decide), oth _ 2 1 _ (by decide)]
    exact key _ _ _ (by rw [oth _ 0 1 _ (by decide)]; exact h 1 (by decide))
  · rw [oth _ 4 2 _ (by decide), oth _ 3 2 _ (by decide)]
    exact key _ _ _ (by rw [oth _ 1 2 _ (by decide), oth _ 0 2 _ (by decide)]; exact h 2 (by decide))
  · rw [oth _ 4 3 _ (by decide)]
    exact key _ _ _ (by rw [oth _ 2 3 _ (by decide), oth _ 1 3 _ (by decide), oth _ 0 3 _ (by decide)]; exact h 3 (by decide))
  · exact key _ _ _ (by rw [oth _ 3 4 _ (by decide), oth _ 2 4 _ (by decide), oth _ 1 4 _ (by decide), oth _ 0 4 _ (by decide)]; exact h 4 (by decide))
theorem put5_below {N b : Nat} {w X : World} (h : Below N w X) (hb : N ≤ b) (v0 v1 v2 v3 v4 : Value) : Below N w (put5 X b v0 v1 v2 v3 v4) :=
  ((((h.setCell (p := ⟨b, 0, none⟩) hb _).setCell (p := ⟨b, 1, none⟩) hb _).setCell (p := ⟨b, 2, none⟩) hb _).setCell (p := ⟨b, 3, none⟩) hb _).setCell (p := ⟨b, 4, none⟩) hb _
theorem K5.has {w W : World} (h : K5 w W) : ∀ j, j < 5 → ∃ v, W.cell? ⟨w.heap.size, j, none⟩ = some v := fun j hj => by
  obtain rfl | rfl | rfl | rfl | rfl : j = 0 ∨ j = 1 ∨ j = 2 ∨ j = 3 ∨ j = 4 := by omega
  · exact ⟨_, h.c0⟩
  · exact ⟨_, h.c1⟩
  · exact ⟨_, h.c2⟩
  · exact ⟨_, h.c3⟩
  · exact ⟨_, h.c4⟩
theorem keepK {w W W' : World} {b : Nat} {v0 v1 v2 : Value} (h : W.cell? ⟨b, 0, none⟩ = some v0 ∧ W.cell? ⟨b, 1, none⟩ = some v1 ∧ W.cell? ⟨b, 2, none⟩ = some v2 ∧ K5 w W) (hb : Below W.heap.size W W') : W'.cell? ⟨b, 0, none⟩ = some v0 ∧ W'.cell? ⟨b, 1, none⟩ = some v1 ∧ W'.cell? ⟨b, 2, none⟩ = some v2 ∧ K5 w W' :=
  ⟨(hb.cell (p := ⟨b, 0, none⟩) (lt_of_cell h.1)).trans h.1, (hb.cell (p := ⟨b, 1, none⟩) (lt_of_cell h.2.1)).trans h.2.1, (hb.cell (p := ⟨b, 2, none⟩) (lt_of_cell h.2.2.1)).trans h.2.2.1, h.2.2.2.step hb⟩
theorem K5.set {w W : World} {B : Nat} (h : K5 w W) (hB : w.heap.size < B) (hg : 0 < B) (j : Nat) (v : Value) : K5 w (W.setCell ⟨B, j, none⟩ v) := by
  have ne : ∀ a i, a ≠ B → (⟨B, j, none⟩ : Addr) ≠ ⟨a, i, none⟩ := fun a i ha e => ha (by injection e with e _; exact e.symm)
  have oc : ∀ a i, a ≠ B → (W.setCell ⟨B, j, none⟩ v).cell? ⟨a, i, none⟩ = W.cell? ⟨a, i, none⟩ := fun a i ha => World.cell?_setCell_other _ _ _ _ (ne a i ha)
  have hs := h.sch
  refine ⟨h.bel.setCell (p := ⟨B, j, none⟩) (by show w.heap.size ≤ B; omega) _, by simp [World.setCell]; exact h.siz, ⟨by simp [World.setCell]; exact hs.lt, ?_, ?_, ?_, ?_, ?_, ?_⟩, ?_, ?_, ?_, ?_, ?_, fun i => by rw [World.frozen?_setCell]; exact h.f0 i⟩
  · rw [oc _ _ (by omega)]; exact hs.c0
  · rw [oc _ _ (by omega)]; exact hs.c1
  · rw [oc _ _ (by omega)]; exact hs.c2
  · rw [oc _ _ (by omega)]; exact hs.c3
  · rw [oc _ _ (by omega)]; exact hs.c4
  · rw [oc _ _ (by omega)]; exact hs.c5
  · rw [oc _ _ (by omega)]; exact h.c0
  · rw [oc _ _ (by omega)]; exact h.c1
  · rw [oc _ _ (by omega)]; exact h.c2
  · rw [oc _ _ (by omega)]; exact h.c3
  · rw [oc _ _ (by omega)]; exact h.c4
theorem keepK3 {w W : World} {b B : Nat} {v0 v1 v2 a c d : Value} (h : W.cell? ⟨b, 0, none⟩ = some v0 ∧ W.cell? ⟨b, 1, none⟩ = some v1 ∧ W.cell? ⟨b, 2, none⟩ = some v2 ∧ K5 w W) (hb : b < B) (hB : w.heap.size < B) (hg : 0 < B) :
    (((W.setCell ⟨B, 0, none⟩ a).setCell ⟨B, 1, none⟩ c).setCell ⟨B, 2, none⟩ d).cell? ⟨b, 0, none⟩ = some v0 ∧ (((W.setCell ⟨B, 0, none⟩ a).setCell ⟨B, 1, none⟩ c).setCell ⟨B, 2, none⟩ d).cell? ⟨b, 1, none⟩ = some v1 ∧ (((W.setCell ⟨B, 0, none⟩ a).setCell ⟨B, 1, none⟩ c).setCell ⟨B, 2, none⟩ d).cell? ⟨b, 2, none⟩ = some v2 ∧ K5 w (((W.setCell ⟨B, 0, none⟩ a).setCell ⟨B, 1, none⟩ c).setCell ⟨B, 2, none⟩ d) := by
  have ne : ∀ j i, (⟨B, j, none⟩ : Addr) ≠ ⟨b, i, none⟩ := fun j i e => by injection e with e _; omega
  refine ⟨?_, ?_, ?_, ((h.2.2.2.set hB hg 0 a).set hB hg 1 c).set hB hg 2 d⟩
  · rw [World.cell?_setCell_other _ _ _ _ (ne _ _), World.cell?_setCell_other _ _ _ _ (ne _ _), World.cell?_setCell_other _ _ _ _ (ne _ _)]; exact h.1
  · rw [World.cell?_setCell_other _ _ _ _ (ne _ _), World.cell?_setCell_other _ _ _ _ (ne _ _), World.cell?_setCell_other _ _ _ _ (ne _ _)]; exact h.2.1
  · rw [World.cell?_setCell_other _ _ _ _ (ne _ _), World.cell?_setCell_other _ _ _ _ (ne _ _), World.cell?_setCell_other _ _ _ _ (ne _ _)]; exact h.2.2.1
end Go.Proofs.YtpbipanafihabaaDoor
