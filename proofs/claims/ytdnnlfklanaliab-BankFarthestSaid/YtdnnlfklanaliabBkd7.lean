/- The fact: a grant that is used. -/
import Derived.Test.YtdnnlfklanaliabHom7
import Derived.Test.YtdnnlfklanaliabFnd7
namespace Go.Proofs.Ytdnnlfklanaliab
open Go.RowKit
set_option linter.unusedVariables false

theorem strs_none7 (w : World) : Strs w none 0 0 0 [] := ⟨rfl, fun h => absurd h (by omega), fun j x hx => by simp at hx⟩
theorem strs_one7 (w : World) (x : ByteArray) : Strs (w.alloc (.cells #[.string x] 9)) (some ⟨w.heap.size, 0, none⟩) 1 w.heap.size 0 [x] := by
  refine ⟨rfl, fun _ => ⟨rfl, by simp⟩, fun j y hx => ?_⟩
  have hj := (List.getElem?_eq_some_iff.1 hx).1
  simp only [List.length_cons, List.length_nil] at hj
  obtain rfl : j = 0 := by omega
  simp only [List.getElem?_cons_zero, Option.some.injEq] at hx
  subst hx
  exact cell_of (i := 0) (heap_alloc_new w _)
theorem bankedG_fit : GrFit bankedG := by
  refine ⟨?_, ?_, ?_, ⟨?_, ?_, ?_, ?_, ?_, ?_⟩, ?_, ?_, ?_⟩
  · decide
  · decide
  · decide
  · decide
  · decide
  · decide
  · decide
  · decide
  · intro x hx; cases hx
  · decide
  · intro x hx
    rw [show bankedG.paths = [⟨#[47, 97, 47]⟩] from rfl, List.mem_singleton] at hx
    rw [hx]
    decide
  · decide
theorem bank_new (w : World) : BankW (w.alloc (.cells #[.slice none 0 0, .slice none 0 0] 54)) w.heap.size w.heap.size (.slice none 0 0) (.slice none 0 0) [] [] :=
  ⟨heap_alloc_new w _, Nat.le_refl _, ownK_nil _ _ _ _, ownK_nil _ _ _ _, fun v hv => (by cases hv), fun v hv => (by cases hv), fun v hv => (by cases hv), by decide, by decide⟩
theorem step_low {B b : Nat} {gv wv gv' wv' : Value} {G : List GrV} {V : List WtV} {w w' : World} (h : BankW w B b gv wv G V) (hB : B ≤ w.heap.size) (hs : BankStep b gv wv w w' gv' wv') : Below B w w' :=
  hs.below h.low (fun x e => (h.gs.lt _ e).1) (fun x e => (h.ws.lt _ e).1) hB
/-- The grant that the fact has used, by its cells. -/
def useCells (d p : Value) : List Value := [.bool true, .string ⟨#[97, 46, 116, 101, 115, 116]⟩, .int .i64 443, .bool false, .string ⟨#[]⟩, .string ⟨#[]⟩, .int .i64 1, .string ⟨#[114]⟩, .string ⟨#[]⟩, .string ⟨#[]⟩, .bool false, .string ⟨#[]⟩, .bool false, d, .int .i64 1, p]
theorem useCells_of (d p : Value) : grCells ⟨moreP bankedG, d, p⟩ = useCells d p := rfl
def zeCells (d p : Value) : List Value := [.bool false, .string ⟨#[]⟩, .int .i64 0, .bool false, .string ⟨#[]⟩, .string ⟨#[]⟩, .int .i64 0, .string ⟨#[]⟩, .string ⟨#[]⟩, .string ⟨#[]⟩, .bool false, .string ⟨#[]⟩, .bool false, d, .int .i64 0, p]
theorem zeCells_of (d p : Value) : grCells ⟨zeroP, d, p⟩ = zeCells d p := rfl
theorem own_slice {w : World} {B : Nat} {v : GrV} (h : GrOwn w B v) : (∃ p n c, v.dv = .slice p n c) ∧ ∃ p n c, v.pv = .slice p n c := by
  obtain ⟨da, dc, dg, hdv, _⟩ := h.dom.strs
  obtain ⟨pa, pc, pg, hpv, _⟩ := h.paths.strs
  exact ⟨⟨_, _, _, hdv⟩, ⟨_, _, _, hpv⟩⟩
set_option maxRecDepth 100000 in
set_option maxHeartbeats 4000000 in
theorem banked_any (w : World) : Calls Try.prog 7 #[] w fun e w' => e = .returned (.bool true) ∧ Below w.heap.size w w' := by
  have HB0 : Hid (Below w.heap.size w (w.alloc (.cells #[.slice none 0 0, .slice none 0 0] 54)) ∧ BankW (w.alloc (.cells #[.slice none 0 0, .slice none 0 0] 54)) w.heap.size w.heap.size (.slice none 0 0) (.slice none 0 0) [] []) := ⟨(Below.refl _ _).alloc (Nat.le_refl _) _, bank_new w⟩
  go_enter Try.func7, Try.ntmps7
  go_wp2_with fail
  refine (home_any _).mono ?_
  rintro e w1 ⟨rfl, hb1⟩
  have HB1 : Hid (Below w.heap.size w (w1.alloc (.cells #[.string ⟨#[47, 97, 47]⟩] 9)) ∧ BankW (w1.alloc (.cells #[.string ⟨#[47, 97, 47]⟩] 9)) w.heap.size w.heap.size (.slice none 0 0) (.slice none 0 0) [] [] ∧ Strs (w1.alloc (.cells #[.string ⟨#[47, 97, 47]⟩] 9)) (some ⟨w1.heap.size, 0, none⟩) 1 w1.heap.size 0 [⟨#[47, 97, 47]⟩]) := by
    have ha : Below w1.heap.size w1 (w1.alloc (.cells #[.string ⟨#[47, 97, 47]⟩] 9)) := (Below.refl _ _).alloc (Nat.le_refl _) _
    have h0 := HB0.out.1.size
    exact ⟨(HB0.out.1.trans (hb1.mono h0)).trans (ha.mono (Nat.le_trans h0 hb1.size)), (HB0.out.2.below hb1).below ha, strs_one7 _ _⟩
  clear hb1
  go_wp2_with fail
  refine (put_at bankedG bankedG_fit none _ 0 0 1 1 0 0 _ 0 _ (strs_none7 _) HB1.out.2.2 w.heap.size w.heap.size _ _ [] [] HB1.out.2.1 HB1.out.1.size).mono ?_
  rintro e w2 ⟨rfl, gv2, G2, H2⟩
  go_wp2_with fail
  refine (home_any _).mono ?_
  rintro e w3 ⟨rfl, hb3⟩
  have HB3 : Hid (Below w.heap.size w w3 ∧ BankW w3 w.heap.size w.heap.size gv2 (.slice none 0 0) G2 []) := by
    have h2 := step_low HB1.out.2.1 HB1.out.1.size H2.out.2.2
    have hb2 : Below w.heap.size w w2 := HB1.out.1.trans h2
    exact ⟨hb2.trans (hb3.mono hb2.size), H2.out.1.below hb3⟩
  have huse := use_any w3 HB3.out.2 HB3.out.1.size homeO false ⟨#[47, 97, 47, 98]⟩
  have hm : G2.map (·.g) = [bankedG] := H2.out.2.1.trans banked_put
  rw [hm, banked_use] at huse
  clear hb3 H2 hm HB1 HB0
  go_wp2_with fail
  refine huse.mono ?_
  rintro e w4 ⟨⟨⟨xg, xd, xp⟩, rfl, hxg, hxo⟩, gv4, G4, H4⟩
  obtain ⟨⟨d1, d2, d3, hxd⟩, ⟨p1, p2, p3, hxp⟩⟩ := own_slice hxo
  simp only [] at hxg hxd hxp
  subst hxg hxd hxp
  rw [useCells_of]
  unfold useCells
  have HB4 : Hid (Below w.heap.size w (w4.alloc (.cells (useCells (.slice d1 d2 d3) (.slice p1 p2 p3)).toArray 36)) ∧ BankW (w4.alloc (.cells (useCells (.slice d1 d2 d3) (.slice p1 p2 p3)).toArray 36)) w.heap.size w.heap.size gv4 (.slice none 0 0) G4 [] ∧ G4.map (·.g) = [moreP bankedG] ∧ (w4.alloc (.cells (useCells (.slice d1 d2 d3) (.slice p1 p2 p3)).toArray 36)).heap[w4.heap.size]? = some (.cells (useCells (.slice d1 d2 d3) (.slice p1 p2 p3)).toArray 36 (0, 0))) := by
    have ha : Below w4.heap.size w4 (w4.alloc (.cells (useCells (.slice d1 d2 d3) (.slice p1 p2 p3)).toArray 36)) := (Below.refl _ _).alloc (Nat.le_refl _) _
    have h4 := step_low HB3.out.2 HB3.out.1.size H4.out.2.2
    have hb4 : Below w.heap.size w w4 := HB3.out.1.trans h4
    exact ⟨hb4.trans (ha.mono hb4.size), H4.out.1.below ha, H4.out.2.1, heap_alloc_new w4 _⟩
  clear huse hxo H4 HB3
  unfold useCells at HB4
  go_wp2_with fail
  refine (home_any _).mono ?_
  rintro e w5 ⟨rfl, hb5⟩
  have HB5 : Hid (Below w.heap.size w w5 ∧ BankW w5 w.heap.size w.heap.size gv4 (.slice none 0 0) G4 [] ∧ w5.heap[w4.heap.size]? = some (.cells (useCells (.slice d1 d2 d3) (.slice p1 p2 p3)).toArray 36 (0, 0))) :=
    ⟨HB4.out.1.trans (hb5.mono HB4.out.1.size), HB4.out.2.1.below hb5, (hb5.block _ (Array.getElem?_eq_some_iff.1 HB4.out.2.2.2).1).trans HB4.out.2.2.2⟩
  have HM : Hid (G4.map (·.g) = [moreP bankedG]) := HB4.out.2.2.1
  have hfind := find_any w5 HB5.out.2.1 homeO false ⟨#[47, 99]⟩
  rw [HM.out, banked_none] at hfind
  clear hb5 HB4
  go_wp2_with fail
  refine hfind.mono ?_
  rintro e w6 ⟨⟨⟨yg, yd, yp⟩, rfl, hyg, hyo⟩, hb6⟩
  obtain ⟨⟨e1, e2, e3, hyd⟩, ⟨q1, q2, q3, hyp⟩⟩ := own_slice hyo
  simp only [toldL] at hyg
  rw [if_pos (by decide)] at hyg
  simp only [] at hyd hyp
  subst hyg hyd hyp
  rw [zeCells_of]
  unfold zeCells
  have HB6 : Hid (Below w.heap.size w (w6.alloc (.cells (zeCells (.slice e1 e2 e3) (.slice q1 q2 q3)).toArray 36)) ∧ BankW (w6.alloc (.cells (zeCells (.slice e1 e2 e3) (.slice q1 q2 q3)).toArray 36)) w.heap.size w.heap.size gv4 (.slice none 0 0) G4 []) := by
    have ha : Below w6.heap.size w6 (w6.alloc (.cells (zeCells (.slice e1 e2 e3) (.slice q1 q2 q3)).toArray 36)) := (Below.refl _ _).alloc (Nat.le_refl _) _
    have hb : Below w.heap.size w w6 := HB5.out.1.trans (hb6.mono HB5.out.1.size)
    exact ⟨hb.trans (ha.mono hb.size), (HB5.out.2.1.below hb6).below ha⟩
  have hblk : (w6.alloc (.cells (zeCells (.slice e1 e2 e3) (.slice q1 q2 q3)).toArray 36)).heap[w4.heap.size]? = some (.cells (useCells (.slice d1 d2 d3) (.slice p1 p2 p3)).toArray 36 (0, 0)) := by
    have h5 := (hb6.block _ (Array.getElem?_eq_some_iff.1 HB5.out.2.2).1).trans HB5.out.2.2
    exact box_alloc h5 _
  unfold zeCells at HB6 hblk
  have c7 := cell_of (i := 7) hblk
  have c14 := cell_of (i := 14) hblk
  simp only [useCells, List.getElem?_toArray, List.getElem?_cons_zero, List.getElem?_cons_succ] at c7 c14
  have hgr := grants_any _ HB6.out.2
  rw [HM.out] at hgr
  clear hfind hyo hb6 hblk HB5
  rw [show errU 0 = .nilIface from rfl, show decide ((0 : Int) ≤ -1) = false from rfl]
  go_wp2_with fail
  refine hgr.mono ?_
  rintro e w7 ⟨⟨val, us, rfl, h1, h2, h3⟩, hb7⟩
  have hl : us.length = 1 := by have := congrArg List.length h2; rwa [List.length_map] at this
  rcases h1.forms with ⟨_, e0⟩ | ⟨g, cap, rfl, _⟩
  · have := congrArg List.length e0
    rw [List.length_map, hl] at this
    cases this
  · rw [List.length_map, hl]
    have HE : Hid (Below w.heap.size w w7) := HB6.out.1.trans (hb7.mono HB6.out.1.size)
    clear h1 h2 h3 hb7 hgr
    go_wp2
    go_ret
    exact ⟨rfl, HE.out⟩
end Go.Proofs.Ytdnnlfklanaliab
