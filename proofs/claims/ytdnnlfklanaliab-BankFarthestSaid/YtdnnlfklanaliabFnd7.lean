/- The grant that counts for a path. -/
import Derived.Test.YtdnnlfklanaliabFth7
import Derived.Test.YtdnnlfklanaliabTld7
import Derived.Deep.RegionHeld3
namespace Go.Proofs.Ytdnnlfklanaliab
open Go.RowKit
set_option linter.unusedVariables false

theorem farGo_range : ∀ (l : List Int) (i : Nat) (s : Int × Int), (farGo l i s).1 = s.1 ∨ ∃ k : Nat, (farGo l i s).1 = k ∧ k < i + l.length
  | [], i, s => .inl rfl
  | r :: t, i, s => by
    show (farGo t (i + 1) _).1 = _ ∨ _
    rcases farGo_range t (i + 1) (if s.2 ≤ r then ((i : Int), r) else s) with h | ⟨k, h1, h2⟩
    · by_cases hc : s.2 ≤ r
      · rw [if_pos hc] at h
        refine .inr ⟨i, ?_, by rw [List.length_cons]; omega⟩
        show (farGo t (i + 1) _).1 = _
        rw [if_pos hc]
        exact h
      · rw [if_neg hc] at h
        refine .inl ?_
        rw [if_neg hc]
        exact h
    · exact .inr ⟨k, h1, by rw [List.length_cons]; omega⟩
theorem farI_range (rs : List Int) : farI rs = -1 ∨ ∃ k : Nat, farI rs = k ∧ k < rs.length := by
  rcases farGo_range rs 0 (-1, 0) with h | ⟨k, h1, h2⟩
  · exact .inl h
  · exact .inr ⟨k, h1, by omega⟩
/-- The number of the grant that counts. -/
def findI (G : List GrP) (o : OrgV) (p : Bool) (path : ByteArray) : Int := farI (G.map (reachI o p path))
theorem findI_range (G : List GrP) (o : OrgV) (p : Bool) (path : ByteArray) : findI G o p path = -1 ∨ ∃ k : Nat, findI G o p path = k ∧ k < G.length := by
  have := farI_range (G.map (reachI o p path))
  rwa [List.length_map] at this
/-- A grant told: what it is, whether it is one. -/
def TldAns (l : List GrP) (i : Int) (B : Nat) (e : Ending) (w' : World) : Prop := ∃ x : GrV, e = .returned (.tuple #[.agg (grCells x).toArray, .bool (decide (0 ≤ i))]) ∧ x.g = toldL l i ∧ GrOwn w' B x
theorem told_all {B b : Nat} {gv wv : Value} {G : List GrV} {V : List WtV} (w : World) (h : BankW w B b gv wv G V) (i : Int) (hi : i = -1 ∨ ∃ k : Nat, i = k ∧ k < (G.map (·.g)).length) :
    Calls Try.prog 32 #[gv, .int .i64 i] w fun e w' => TldAns (G.map (·.g)) i w.heap.size e w' ∧ Below w.heap.size w w' := by
  rcases hi with rfl | ⟨k, rfl, hk⟩
  · refine (told_none gv (-1) (by decide) w).mono ?_
    rintro e w' ⟨rfl, hb⟩
    exact ⟨⟨zeroV, rfl, rfl, zeroV_own _ _⟩, hb⟩
  · rw [List.length_map] at hk
    have hv := List.getElem?_eq_getElem hk
    have hg := h.gs
    rcases hg.forms with ⟨_, e2⟩ | ⟨g, cap, rfl, _, _, _, _⟩
    · have := congrArg List.length e2
      rw [List.length_map, List.length_nil] at this
      omega
    · rw [List.length_map] at hg ⊢
      refine (told_some g _ cap B k G G[k] hv rfl h.glen (h.gf _ (List.getElem_mem hk)) w hg (h.go _ (List.getElem_mem hk))).mono ?_
      rintro e w' ⟨⟨x, rfl, hx, ho⟩, hb⟩
      refine ⟨⟨x, ?_, ?_, ho⟩, hb⟩
      · rw [decide_eq_true (by omega)]
      · unfold toldL
        rw [if_neg (by omega), hx, Int.toNat_natCast, List.getElem?_map, hv]
        rfl
/-- The index that counts, by the program. -/
theorem farthest_any {B b : Nat} {gv wv : Value} {G : List GrV} {V : List WtV} (w : World) (h : BankW w B b gv wv G V) (o : OrgV) (p : Bool) (path : ByteArray) (xa xb xc : Nat) (h3 : Box3 w xa xb xc o p path) :
    Calls Try.prog 33 #[gv, .func (.func 54) #[] #[.pointer (some ⟨xa, 0, none⟩), .pointer (some ⟨xb, 0, none⟩), .pointer (some ⟨xc, 0, none⟩)]] w fun e w' => e = .returned (.int .i64 (findI (G.map (·.g)) o p path)) ∧ Below w.heap.size w w' := by
  have hf := far_any gv B G (fun v => reachI o p path v.g) h.glen w h.gs 54 #[.pointer (some ⟨xa, 0, none⟩), .pointer (some ⟨xb, 0, none⟩), .pointer (some ⟨xc, 0, none⟩)] (enters_at Try.func54 (by kernel_rfl) rfl) (fun W v hv hb => reach_any v B (h.gf v hv) o p path xa xb xc W (h3.below hb) ((h.go v hv).below hb))
  unfold findI
  rw [List.map_map]
  exact hf
set_option maxRecDepth 100000 in
set_option maxHeartbeats 2000000 in
theorem reachFor_any (o : OrgV) (p : Bool) (r : ByteArray) (w : World) :
    Calls Try.prog 34 #[.agg #[.bool o.sec, .string o.host, .int .i64 o.port], .bool p, .string r] w fun e w' => (∃ a b c, e = .returned (.func (.func 54) #[] #[.pointer (some ⟨a, 0, none⟩), .pointer (some ⟨b, 0, none⟩), .pointer (some ⟨c, 0, none⟩)]) ∧ Hid (Box3 w' a b c o p r)) ∧ Below w.heap.size w w' := by
  have hb1 : Below w.heap.size w (((w.alloc (.cells #[.bool o.sec, .string o.host, .int .i64 o.port] 29)).alloc (.cells #[.bool p] 4)).alloc (.cells #[.string r] 9)) := (((Below.refl _ _).alloc (Nat.le_refl _) _).alloc (by simp) _).alloc (by simp; omega) _
  have h1 : Hid (Box3 (((w.alloc (.cells #[.bool o.sec, .string o.host, .int .i64 o.port] 29)).alloc (.cells #[.bool p] 4)).alloc (.cells #[.string r] 9)) w.heap.size (w.heap.size + 1) (w.heap.size + 2) o p r) := by
    have e1 := heap_alloc_new w (.cells #[.bool o.sec, .string o.host, .int .i64 o.port] 29)
    have e2 := heap_alloc_new (w.alloc (.cells #[.bool o.sec, .string o.host, .int .i64 o.port] 29)) (.cells #[.bool p] 4)
    have e3 := heap_alloc_new ((w.alloc (.cells #[.bool o.sec, .string o.host, .int .i64 o.port] 29)).alloc (.cells #[.bool p] 4)) (.cells #[.string r] 9)
    simp only [World.size_alloc] at e2 e3
    refine ⟨?_, ?_, e3⟩
    · rw [heap_alloc_old _ _ (by simp; omega), heap_alloc_old _ _ (by simp)]
      exact e1
    · rw [heap_alloc_old _ _ (by simp)]
      exact e2
  go_enter Try.func34, Try.ntmps34
  go_wp2
  go_ret
  exact ⟨⟨_, _, _, rfl, h1⟩, hb1⟩
/-- What is kept by Find's calls: the bank, the box of the origin, the block of the result. -/
structure FndF (w w1 : World) (B b : Nat) (gv wv : Value) (G : List GrV) (V : List WtV) (o : OrgV) (Z : Array Value) : Prop where
  bel : Below w.heap.size w w1
  bank : BankW w1 B b gv wv G V
  box : w1.heap[w.heap.size]? = some (.cells #[.bool o.sec, .string o.host, .int .i64 o.port] 29 (0, 0))
  res : w1.heap[w.heap.size + 1]? = some (.cells Z 36 (0, 0))
theorem FndF.below {w w1 w2 : World} {B b : Nat} {gv wv : Value} {G : List GrV} {V : List WtV} {o : OrgV} {Z : Array Value} (h : FndF w w1 B b gv wv G V o Z) (hb : Below w1.heap.size w1 w2) : FndF w w2 B b gv wv G V o Z :=
  ⟨h.bel.trans (hb.mono h.bel.size), h.bank.below hb, (hb.block _ (Array.getElem?_eq_some_iff.1 h.box).1).trans h.box, (hb.block _ (Array.getElem?_eq_some_iff.1 h.res).1).trans h.res⟩
theorem FndF.facts {w w1 : World} {B b : Nat} {gv wv : Value} {G : List GrV} {V : List WtV} {o : OrgV} {Z : Array Value} (h : FndF w w1 B b gv wv G V o Z) : w1.cell? ⟨b, 0, none⟩ = some gv ∧ w1.cell? ⟨w.heap.size, 0, none⟩ = some (.bool o.sec) ∧ w1.cell? ⟨w.heap.size, 1, none⟩ = some (.string o.host) ∧ w1.cell? ⟨w.heap.size, 2, none⟩ = some (.int .i64 o.port) :=
  ⟨(cell_of (i := 0) h.bank.blk).trans rfl, (cell_of (i := 0) h.box).trans rfl, (cell_of (i := 1) h.box).trans rfl, (cell_of (i := 2) h.box).trans rfl⟩
theorem fnd_start (w : World) {B b : Nat} {gv wv : Value} {G : List GrV} {V : List WtV} (h : BankW w B b gv wv G V) (o : OrgV) (Z : Array Value) : FndF w ((w.alloc (.cells #[.bool o.sec, .string o.host, .int .i64 o.port] 29)).alloc (.cells Z 36)).drew B b gv wv G V o Z := by
  obtain ⟨h1, h2, h3⟩ := boxes2 w #[.bool o.sec, .string o.host, .int .i64 o.port] Z 29 36
  exact ⟨h1.drew, (h.below h1).below (Below.refl _ _).drew, h2, h3⟩
/-- A whole result stored: what stands there, and what is kept. -/
theorem fnd_store {w w4 : World} {B b : Nat} {gv wv : Value} {G : List GrV} {V : List WtV} {o : OrgV} {Z : Array Value} (h : FndF w w4 B b gv wv G V o Z) (x : List Value) (hz : Z.size = x.length) (h1 : ∀ u ∈ x, u.oneCell' = true) :
    Sem.run Try.prog (storeCells ⟨w.heap.size + 1, 0, none⟩ x 0) w4 = .ok () (w4.setCells (w.heap.size + 1) 0 x) ∧ Hid ((w4.setCells (w.heap.size + 1) 0 x).heap[w.heap.size + 1]? = some (.cells x.toArray 36 (0, 0)) ∧ w4.grownBy (w4.setCells (w.heap.size + 1) 0 x) (some (w.heap.size + 1)) ∧ (w4.setCells (w.heap.size + 1) 0 x).cell? ⟨b, 0, none⟩ = some gv ∧ (w4.setCells (w.heap.size + 1) 0 x).cell? ⟨w.heap.size, 0, none⟩ = some (.bool o.sec) ∧ (w4.setCells (w.heap.size + 1) 0 x).cell? ⟨w.heap.size, 1, none⟩ = some (.string o.host) ∧ (w4.setCells (w.heap.size + 1) 0 x).cell? ⟨w.heap.size, 2, none⟩ = some (.int .i64 o.port)) := by
  have hr := run_storeCells_cells (P := Try.prog) (w.heap.size + 1) 0 x 0 w4 (fun j hj => by
    rw [Nat.add_zero, Nat.zero_add, cell_of h.res, Array.getElem?_eq_getElem (by omega)]
    rfl) (fun j _ => free_of h.res _) h1
  rw [Nat.add_zero] at hr
  obtain ⟨z1, z2⟩ := setAll x h.res hz
  obtain ⟨f0, f1, f2, f3⟩ := h.facts
  have hbne : some b ≠ some (w.heap.size + 1) := fun e => by
    have e2 : b = w.heap.size + 1 := by injection e
    have h1 := h.bank.blk
    rw [e2, h.res] at h1
    injection h1 with h1
    injection h1 with _ h3
    exact absurd h3 (by decide)
  exact ⟨hr, z1, z2, z2.cell f0 hbne, z2.cell f1 (by show some w.heap.size ≠ _; simp), z2.cell f2 (by show some w.heap.size ≠ _; simp), z2.cell f3 (by show some w.heap.size ≠ _; simp)⟩
set_option maxRecDepth 100000 in
set_option maxHeartbeats 4000000 in
theorem find_any {B b : Nat} {gv wv : Value} {G : List GrV} {V : List WtV} (w : World) (h : BankW w B b gv wv G V) (o : OrgV) (p : Bool) (path : ByteArray) :
    Calls Try.prog 12 #[.pointer (some ⟨b, 0, none⟩), .agg #[.bool o.sec, .string o.host, .int .i64 o.port], .bool p, .string path] w fun e w' => TldAns (G.map (·.g)) (findI (G.map (·.g)) o p path) w.heap.size e w' ∧ Below w.heap.size w w' := by
  have H0 : Hid (FndF w ((w.alloc (.cells #[.bool o.sec, .string o.host, .int .i64 o.port] 29)).alloc (.cells #[.bool false, .string ⟨#[]⟩, .int .i64 0, .bool false, .string ⟨#[]⟩, .string ⟨#[]⟩, .int .i64 0, .string ⟨#[]⟩, .string ⟨#[]⟩, .string ⟨#[]⟩, .bool false, .string ⟨#[]⟩, .bool false, .slice none 0 0, .int .i64 0, .slice none 0 0] 36)).drew B b gv wv G V o _) := fnd_start w h o _
  have hQ := H0.out.facts
  obtain ⟨I, HI⟩ : ∃ I, Hid (findI (G.map (·.g)) o p path = I) := ⟨_, rfl⟩
  have HIR : Hid (I = -1 ∨ ∃ k : Nat, I = k ∧ k < (G.map (·.g)).length) := by
    have := findI_range (G.map (·.g)) o p path
    rw [HI.out, show (G.map (·.g)).length = (G.map (·.g)).length from rfl] at this
    exact this
  rw [HI.out]
  clear h
  go_enter Try.func12, Try.ntmps12
  go_wp2_with fail
  go_region_held3 (fun W => W.cell? ⟨b, 0, none⟩ = some gv ∧ W.cell? ⟨w.heap.size, 0, none⟩ = some (.bool o.sec) ∧ W.cell? ⟨w.heap.size, 1, none⟩ = some (.string o.host) ∧ W.cell? ⟨w.heap.size, 2, none⟩ = some (.int .i64 o.port)) (with_reducible assumption) (first
    | (go_at_call 34; refine (reachFor_any o p path _).mono ?_; rintro e w1 ⟨⟨xa, xb, xc, rfl, H3⟩, hb1⟩; have H1 : Hid (FndF w w1 B b gv wv G V o _) := H0.out.below hb1; have hQ1 := H1.out.facts; clear hb1)
    | (go_at_call 33; refine (farthest_any _ H1.out.bank o p path xa xb xc H3.out).mono ?_; rw [HI.out]; rintro e w2 ⟨rfl, hb2⟩; have H2 : Hid (FndF w w2 B b gv wv G V o _) := H1.out.below hb2; have hQ2 := H2.out.facts; clear hb2)
    | (go_at_call 32; refine (told_all _ H2.out.bank I HIR.out).mono ?_; rintro e w4 ⟨⟨x, rfl, hxg, hxo⟩, hb4⟩; have H4 : Hid (FndF w w4 B b gv wv G V o _) := H2.out.below hb4; have HX : Hid (x.g = toldL (G.map (·.g)) I ∧ GrOwn w4 w2.heap.size x) := ⟨hxg, hxo⟩; have hQ4 := H4.out.facts; have hxl := grCells_len x; obtain ⟨hst, HZ⟩ := fnd_store H4.out (grCells x) rfl hxo.one; have hQ5 := HZ.out.2.2; clear hxg hxo hb4))
  go_wp2
  refine bodyPost_ret (v := .tuple #[.agg (grCells x).toArray, .bool (decide (0 ≤ I))]) (res_cell_tmp (vs := grCells x) rfl rfl rfl Try.isAgg36 Try.sizeOf36 (grCells_len x) HZ.out.1) rfl ?_
  exact ⟨⟨x, rfl, HX.out.1, (HX.out.2.other HZ.out.2.1 (Typed.block H4.out.res) (by decide)).mono H2.out.bel.size⟩, H4.out.bel.grown HZ.out.2.1 H4.out.bel.size (fun i hi => by injection hi with hi; omega)⟩
end Go.Proofs.Ytdnnlfklanaliab
