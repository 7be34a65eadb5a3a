/- The two schemes, as the program's table has them; the program's ports. -/
import Derived.Test.YtoblpjknnchlmabGreatDoorBx
import Derived.Test.YtoblpjknnchlmabGreatDoorUr
import Derived.Lib.LaidU8
namespace Go.Proofs.YtoblpjknnchlmabGreatDoor
open Go.RowKit

/-- What the table of schemes holds. -/
structure Schemes (w : World) : Prop where
  lt : 1 < w.heap.size
  c0 : w.cell? ⟨1, 0, none⟩ = some (.string ⟨#[104, 116, 116, 112, 58, 47, 47]⟩)
  c1 : w.cell? ⟨1, 1, none⟩ = some (.bool false)
  c2 : w.cell? ⟨1, 2, none⟩ = some (.int .i64 80)
  c3 : w.cell? ⟨1, 3, none⟩ = some (.string ⟨#[104, 116, 116, 112, 115, 58, 47, 47]⟩)
  c4 : w.cell? ⟨1, 4, none⟩ = some (.bool true)
  c5 : w.cell? ⟨1, 5, none⟩ = some (.int .i64 443)
theorem Schemes.below {w w' : World} (h : Schemes w) {H : Nat} (hb : Below H w w') (hH : w.heap.size ≤ H) : Schemes w' := by
  have hg := Nat.lt_of_lt_of_le h.lt hH
  have hc := fun i => hb.cell (p := ⟨1, i, none⟩) hg
  have hz := hb.size
  exact ⟨by have := h.lt; omega, (hc 0).trans h.c0, (hc 1).trans h.c1, (hc 2).trans h.c2, (hc 3).trans h.c3, (hc 4).trans h.c4, (hc 5).trans h.c5⟩
theorem lt_of_cell {W : World} {g i : Nat} {v : Value} (h : W.cell? ⟨g, i, none⟩ = some v) : g < W.heap.size := by
  rcases Nat.lt_or_ge g W.heap.size with hl | hl
  · exact hl
  · simp [World.cell?, Array.getElem?_eq_none hl] at h
set_option maxRecDepth 100000 in
theorem scheme_cells {H : Type} {enc : TypeId × Value → H} {w : World} {base : Nat} {sp : Nat → Bool} {held : Bool} {fuel : Nat} {cs : List Value} {p : List MemPlace} {m : List UInt8} {b : Bool} {n : Int}
    (h : DataW.trod enc Tryz.prog w base sp held fuel 103 cs = some (.agg [.lit (.string m), .lit (.bool b), .lit (.int .i64 n)], p)) : cs[0]? = some (.string (bs m)) ∧ cs[1]? = some (.bool b) ∧ cs[2]? = some (.int .i64 n) := by
  obtain ⟨xs, k, rfl, hx, hl, hxl, hall⟩ := DataW.trod_struct Tryz.underlying103 h
  have hxs : xs.map (·.1) = [(.lit (.string m) : DataW H), .lit (.bool b), .lit (.int .i64 n)] := by
    have := congrArg Prod.fst hx
    simpa using this.symm
  have k9 : Tryz.prog.cellsOf 9 = 1 := by kernel_rfl
  have k4 : Tryz.prog.cellsOf 4 = 1 := by kernel_rfl
  have k3 : Tryz.prog.cellsOf 3 = 1 := by kernel_rfl
  have h0 : DataW.trod enc Tryz.prog w base sp held k 9 ((cs.drop 0).take (Tryz.prog.cellsOf 9)) = xs[0]? := hall 0 _ rfl
  have h1 : DataW.trod enc Tryz.prog w base sp held k 4 ((cs.drop 1).take (Tryz.prog.cellsOf 4)) = xs[1]? := hall 1 _ rfl
  have h2 : DataW.trod enc Tryz.prog w base sp held k 3 ((cs.drop 2).take (Tryz.prog.cellsOf 3)) = xs[2]? := hall 2 _ rfl
  rw [k9] at h0
  rw [k4] at h1
  rw [k3] at h2
  match xs, hxs with
  | [x0, x1, x2], hxs =>
    simp only [List.map_cons, List.map_nil, List.cons.injEq, and_true] at hxs
    obtain ⟨e0, e1, e2⟩ := hxs
    simp only [List.getElem?_cons_zero, List.getElem?_cons_succ] at h0 h1 h2
    obtain ⟨s, hs, hx0, _⟩ := DataW.trod_string Tryz.underlying9 h0
    obtain ⟨c, hc, hx1⟩ := DataW.trod_bool Tryz.underlying4 h1
    obtain ⟨z, hz, hx2, _⟩ := DataW.trod_int Tryz.underlying3 h2
    rw [hx0] at e0
    rw [hx1] at e1
    rw [hx2] at e2
    simp only [DataW.lit.injEq, Lit.string.injEq, Lit.bool.injEq, Lit.int.injEq, true_and] at e0 e1 e2
    subst e0 e1 e2
    rw [bs_self]
    refine ⟨?_, ?_, ?_⟩
    · have := congrArg (·[0]?) hs
      simpa [List.getElem?_take, List.getElem?_drop] using this
    · have := congrArg (·[0]?) hc
      simpa [List.getElem?_take, List.getElem?_drop] using this
    · have := congrArg (·[0]?) hz
      simpa [List.getElem?_take, List.getElem?_drop] using this
set_option maxRecDepth 100000 in
theorem schemes_laid {W : World} (h : Lib.VarReads Tryz.prog W "gatepost/url.schemes" Rows.laid_gatepost_url_schemes) : Schemes W := by
  obtain ⟨g', t', cs, fuel, p, hg, hty, hvar, hd⟩ := h
  have hn : Tryz.prog.globalNamed "gatepost/url.schemes" = some 1 := by kernel_rfl
  have ht : (Tryz.prog.globals[1]?).map (·.type) = some 124 := by kernel_rfl
  obtain rfl := Option.some.inj (hn.symm.trans hg)
  obtain rfl := Option.some.inj (ht.symm.trans hty)
  have k3 : Tryz.prog.cellsOf 103 = 3 := by kernel_rfl
  obtain ⟨f0, d0, q0, hd0, he0⟩ := Lib.array_elem Tryz.underlying124 hd 0 (by omega)
  obtain ⟨f1, d1, q1, hd1, he1⟩ := Lib.array_elem Tryz.underlying124 hd 1 (by omega)
  simp only [List.getElem?_cons_zero, List.getElem?_cons_succ, Option.some.injEq] at hd0 hd1
  subst hd0 hd1
  clear hd
  obtain ⟨a0, a1, a2⟩ := scheme_cells he0
  obtain ⟨b0, b1, b2⟩ := scheme_cells he1
  clear he0 he1
  rw [k3] at a0 a1 a2 b0 b1 b2
  simp only [List.getElem?_take, List.getElem?_drop] at a0 a1 a2 b0 b1 b2
  have hv := fun i => World.var?_cell hg hvar i
  have c0 : W.cell? ⟨1, 0, none⟩ = some (.string ⟨#[104, 116, 116, 112, 58, 47, 47]⟩) := by rw [hv 0, ← Array.getElem?_toList]; exact a0
  refine ⟨lt_of_cell c0, c0, ?_, ?_, ?_, ?_, ?_⟩
  · rw [hv 1, ← Array.getElem?_toList]; exact a1
  · rw [hv 2, ← Array.getElem?_toList]; exact a2
  · rw [hv 3, ← Array.getElem?_toList]; exact b0
  · rw [hv 4, ← Array.getElem?_toList]; exact b1
  · rw [hv 5, ← Array.getElem?_toList]; exact b2

theorem field_mark (a b c : Value) (W : World) : (Instr.field 103 (.agg #[a, b, c]) 0).run Tryz.prog W = .ok a W := by kernel_rfl
theorem field_secure (a b c : Value) (W : World) : (Instr.field 103 (.agg #[a, b, c]) 1).run Tryz.prog W = .ok b W := by kernel_rfl
theorem field_port (a b c : Value) (W : World) : (Instr.field 103 (.agg #[a, b, c]) 2).run Tryz.prog W = .ok c W := by kernel_rfl
def markOf (sec : Bool) : ByteArray := if sec then ⟨#[104, 116, 116, 112, 115, 58, 47, 47]⟩ else ⟨#[104, 116, 116, 112, 58, 47, 47]⟩
theorem schemeOf_yes (w : World) (h : Schemes w) :
    Calls Tryz.prog 69 #[.bool true] w fun e w' => e = .returned (.agg #[.string ⟨#[104, 116, 116, 112, 115, 58, 47, 47]⟩, .bool true, .int .i64 443]) ∧ Below w.heap.size w w' := by
  obtain ⟨hlt, h0, h1, h2, h3, h4, h5⟩ := h
  go_enter Tryz.func69, Tryz.ntmps69
  go_wp2
  (try simp only [Exit.inBlock, Exit.then])
  refine bodyPost_ret (v := .agg #[.string ⟨#[104, 116, 116, 112, 115, 58, 47, 47]⟩, .bool true, .int .i64 443]) ?_ rfl ⟨rfl, (Below.refl _ _).alloc (Nat.le_refl _) _⟩
  simp [results, Tryz.f69, go_sem]
theorem schemeOf_no (w : World) (h : Schemes w) :
    Calls Tryz.prog 69 #[.bool false] w fun e w' => e = .returned (.agg #[.string ⟨#[104, 116, 116, 112, 58, 47, 47]⟩, .bool false, .int .i64 80]) ∧ Below w.heap.size w w' := by
  obtain ⟨hlt, h0, h1, h2, h3, h4, h5⟩ := h
  go_enter Tryz.func69, Tryz.ntmps69
  go_wp2
  (try simp only [Exit.inBlock, Exit.then])
  refine bodyPost_ret (v := .agg #[.string ⟨#[104, 116, 116, 112, 58, 47, 47]⟩, .bool false, .int .i64 80]) ?_ rfl ⟨rfl, (Below.refl _ _).alloc (Nat.le_refl _) _⟩
  simp [results, Tryz.f69, go_sem]
theorem schemeOf_any (sec : Bool) (w : World) (h : Schemes w) :
    Calls Tryz.prog 69 #[.bool sec] w fun e w' => e = .returned (.agg #[.string (markOf sec), .bool sec, .int .i64 (portI sec)]) ∧ Below w.heap.size w w' := by
  cases sec
  · exact schemeOf_no w h
  · exact schemeOf_yes w h
end Go.Proofs.YtoblpjknnchlmabGreatDoor
