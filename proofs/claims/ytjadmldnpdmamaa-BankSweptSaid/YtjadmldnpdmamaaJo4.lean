/- Texts of one claim, joined: each begins with what it proves. -/
import Derived.Test.YtjadmldnpdmamaaJo3
import Derived.Test.YtjadmldnpdmamaaJo1
import Derived.Test.YtjadmldnpdmamaaJo2
import Derived.Deep.RegionHeld3
import Derived.Shelf.Slices.Equal
/- The grant that counts for a path. -/
namespace Go.Proofs.Ytjadmldnpdmamaa
open Go.RowKit
set_option linter.unusedVariables false

theorem farGo_range : ∀ (l : List Int) (i : Nat) (s : Int × Int), (farGo l i s).1 = s.1 ∨ ∃ k : Nat, (farGo l i s).1 = k ∧ k < i + l.length
  | [], i, s => .inl rfl
  | r :: t, i, s => by
    show (farGo t (i + 1) _).1 = _ ∨ _
    rcases farGo_range t (i + 1) (if s.2 ≤ r then ((i : Int), r) else s) with h | ⟨k, h1, h2⟩
    · by_cases hc : s.2 ≤ r
      · rw [if_pos hc] at h
        refine .inr ⟨i, ?_, by rw [List.length_cons]; omega⟩
        show (farGo t (i + 1) _).1 = _
        rw [if_pos hc]
        exact h
      · rw [if_neg hc] at h
        refine .inl ?_
        rw [if_neg hc]
        exact h
    · exact .inr ⟨k, h1, by rw [List.length_cons]; omega⟩
theorem farI_range (rs : List Int) : farI rs = -1 ∨ ∃ k : Nat, farI rs = k ∧ k < rs.length := by
  rcases farGo_range rs 0 (-1, 0) with h | ⟨k, h1, h2⟩
  · exact .inl h
  · exact .inr ⟨k, h1, by omega⟩
/-- The number of the grant that counts. -/
def findI (G : List GrP) (o : OrgV) (p : Bool) (path : ByteArray) : Int := farI (G.map (reachI o p path))
theorem findI_range (G : List GrP) (o : OrgV) (p : Bool) (path : ByteArray) : findI G o p path = -1 ∨ ∃ k : Nat, findI G o p path = k ∧ k < G.length := by
  have := farI_range (G.map (reachI o p path))
  rwa [List.length_map] at this
/-- A grant told: what it is, whether it is one. -/
def TldAns (l : List GrP) (i : Int) (B : Nat) (e : Ending) (w' : World) : Prop := ∃ x : GrV, e = .returned (.tuple #[.agg (grCells x).toArray, .bool (decide (0 ≤ i))]) ∧ x.g = toldL l i ∧ GrOwn w' B x
theorem told_all {B b : Nat} {gv wv : Value} {G : List GrV} {V : List WtV} (w : World) (h : BankW w B b gv wv G V) (i : Int) (hi : i = -1 ∨ ∃ k : Nat, i = k ∧ k < (G.map (·.g)).length) :
    Calls Try.prog 44 #[gv, .int .i64 i] w fun e w' => TldAns (G.map (·.g)) i w.heap.size e w' ∧ Below w.heap.size w w' := by
  rcases hi with rfl | ⟨k, rfl, hk⟩
  · refine (told_none gv (-1) (by decide) w).mono ?_
    rintro e w' ⟨rfl, hb⟩
    exact ⟨⟨zeroV, rfl, rfl, zeroV_own _ _⟩, hb⟩
  · rw [List.length_map] at hk
    have hv := List.getElem?_eq_getElem hk
    have hg := h.gs
    rcases hg.forms with ⟨_, e2⟩ | ⟨g, cap, rfl, _, _, _, _⟩
    · have := congrArg List.length e2
      rw [List.length_map, List.length_nil] at this
      omega
    · rw [List.length_map] at hg ⊢
      refine (told_some g _ cap B k G G[k] hv rfl h.glen (h.gf _ (List.getElem_mem hk)) w hg (h.go _ (List.getElem_mem hk))).mono ?_
      rintro e w' ⟨⟨x, rfl, hx, ho⟩, hb⟩
      refine ⟨⟨x, ?_, ?_, ho⟩, hb⟩
      · rw [decide_eq_true (by omega)]
      · unfold toldL
        rw [if_neg (by omega), hx, Int.toNat_natCast, List.getElem?_map, hv]
        rfl
/-- The index that counts, by the program. -/
theorem farthest_any {B b : Nat} {gv wv : Value} {G : List GrV} {V : List WtV} (w : World) (h : BankW w B b gv wv G V) (o : OrgV) (p : Bool) (path : ByteArray) (xa xb xc : Nat) (h3 : Box3 w xa xb xc o p path) :
    Calls Try.prog 45 #[gv, .func (.func 63) #[] #[.pointer (some ⟨xa, 0, none⟩), .pointer (some ⟨xb, 0, none⟩), .pointer (some ⟨xc, 0, none⟩)]] w fun e w' => e = .returned (.int .i64 (findI (G.map (·.g)) o p path)) ∧ Below w.heap.size w w' := by
  have hf := far_any gv B G (fun v => reachI o p path v.g) h.glen w h.gs 63 #[.pointer (some ⟨xa, 0, none⟩), .pointer (some ⟨xb, 0, none⟩), .pointer (some ⟨xc, 0, none⟩)] (enters_at Try.func63 (by kernel_rfl) rfl) (fun W v hv hb => reach_any v B (h.gf v hv) o p path xa xb xc W (h3.below hb) ((h.go v hv).below hb))
  unfold findI
  rw [List.map_map]
  exact hf
set_option maxRecDepth 100000 in
set_option maxHeartbeats 2000000 in
theorem reachFor_any (o : OrgV) (p : Bool) (r : ByteArray) (w : World) :
    Calls Try.prog 46 #[.agg #[.bool o.sec, .string o.host, .int .i64 o.port], .bool p, .string r] w fun e w' => (∃ a b c, e = .returned (.func (.func 63) #[] #[.pointer (some ⟨a, 0, none⟩), .pointer (some ⟨b, 0, none⟩), .pointer (some ⟨c, 0, none⟩)]) ∧ Hid (Box3 w' a b c o p r)) ∧ Below w.heap.size w w' := by
  have hb1 : Below w.heap.size w (((w.alloc (.cells #[.bool o.sec, .string o.host, .int .i64 o.port] 24)).alloc (.cells #[.bool p] 4)).alloc (.cells #[.string r] 9)) := (((Below.refl _ _).alloc (Nat.le_refl _) _).alloc (by simp) _).alloc (by simp; omega) _
  have h1 : Hid (Box3 (((w.alloc (.cells #[.bool o.sec, .string o.host, .int .i64 o.port] 24)).alloc (.cells #[.bool p] 4)).alloc (.cells #[.string r] 9)) w.heap.size (w.heap.size + 1) (w.heap.size + 2) o p r) := by
    have e1 := heap_alloc_new w (.cells #[.bool o.sec, .string o.host, .int .i64 o.port] 24)
    have e2 := heap_alloc_new (w.alloc (.cells #[.bool o.sec, .string o.host, .int .i64 o.port] 24)) (.cells #[.bool p] 4)
    have e3 := heap_alloc_new ((w.alloc (.cells #[.bool o.sec, .string o.host, .int .i64 o.port] 24)).alloc (.cells #[.bool p] 4)) (.cells #[.string r] 9)
    simp only [World.size_alloc] at e2 e3
    refine ⟨?_, ?_, e3⟩
    · rw [heap_alloc_old _ _ (by simp; omega), heap_alloc_old _ _ (by simp)]
      exact e1
    · rw [heap_alloc_old _ _ (by simp)]
      exact e2
  go_enter Try.func46, Try.ntmps46
  go_wp2
  go_ret
  exact ⟨⟨_, _, _, rfl, h1⟩, hb1⟩
/-- What is kept by Find's calls: the bank, the box of the origin, the block of the result. -/
structure FndF (w w1 : World) (B b : Nat) (gv wv : Value) (G : List GrV) (V : List WtV) (o : OrgV) (Z : Array Value) : Prop where
  bel : Below w.heap.size w w1
  bank : BankW w1 B b gv wv G V
  box : w1.heap[w.heap.size]? = some (.cells #[.bool o.sec, .string o.host, .int .i64 o.port] 24 (0, 0))
  res : w1.heap[w.heap.size + 1]? = some (.cells Z 36 (0, 0))
theorem FndF.below {w w1 w2 : World} {B b : Nat} {gv wv : Value} {G : List GrV} {V : List WtV} {o : OrgV} {Z : Array Value} (h : FndF w w1 B b gv wv G V o Z) (hb : Below w1.heap.size w1 w2) : FndF w w2 B b gv wv G V o Z :=
  ⟨h.bel.trans (hb.mono h.bel.size), h.bank.below hb, (hb.block _ (Array.getElem?_eq_some_iff.1 h.box).1).trans h.box, (hb.block _ (Array.getElem?_eq_some_iff.1 h.res).1).trans h.res⟩
theorem FndF.facts {w w1 : World} {B b : Nat} {gv wv : Value} {G : List GrV} {V : List WtV} {o : OrgV} {Z : Array Value} (h : FndF w w1 B b gv wv G V o Z) : w1.cell? ⟨b, 0, none⟩ = some gv ∧ w1.cell? ⟨w.heap.size, 0, none⟩ = some (.bool o.sec) ∧ w1.cell? ⟨w.heap.size, 1, none⟩ = some (.string o.host) ∧ w1.cell? ⟨w.heap.size, 2, none⟩ = some (.int .i64 o.port) :=
  ⟨(cell_of (i := 0) h.bank.blk).trans rfl, (cell_of (i := 0) h.box).trans rfl, (cell_of (i := 1) h.box).trans rfl, (cell_of (i := 2) h.box).trans rfl⟩
theorem fnd_start (w : World) {B b : Nat} {gv wv : Value} {G : List GrV} {V : List WtV} (h : BankW w B b gv wv G V) (o : OrgV) (Z : Array Value) : FndF w ((w.alloc (.cells #[.bool o.sec, .string o.host, .int .i64 o.port] 24)).alloc (.cells Z 36)).drew B b gv wv G V o Z := by
  obtain ⟨h1, h2, h3⟩ := boxes2 w #[.bool o.sec, .string o.host, .int .i64 o.port] Z 24 36
  exact ⟨h1.drew, (h.below h1).below (Below.refl _ _).drew, h2, h3⟩
/-- A whole result stored: what stands there, and what is kept. -/
theorem fnd_store {w w4 : World} {B b : Nat} {gv wv : Value} {G : List GrV} {V : List WtV} {o : OrgV} {Z : Array Value} (h : FndF w w4 B b gv wv G V o Z) (x : List Value) (hz : Z.size = x.length) (h1 : ∀ u ∈ x, u.oneCell' = true) :
    Sem.run Try.prog (storeCells ⟨w.heap.size + 1, 0, none⟩ x 0) w4 = .ok () (w4.setCells (w.heap.size + 1) 0 x) ∧ Hid ((w4.setCells (w.heap.size + 1) 0 x).heap[w.heap.size + 1]? = some (.cells x.toArray 36 (0, 0)) ∧ w4.grownBy (w4.setCells (w.heap.size + 1) 0 x) (some (w.heap.size + 1)) ∧ (w4.setCells (w.heap.size + 1) 0 x).cell? ⟨b, 0, none⟩ = some gv ∧ (w4.setCells (w.heap.size + 1) 0 x).cell? ⟨w.heap.size, 0, none⟩ = some (.bool o.sec) ∧ (w4.setCells (w.heap.size + 1) 0 x).cell? ⟨w.heap.size, 1, none⟩ = some (.string o.host) ∧ (w4.setCells (w.heap.size + 1) 0 x).cell? ⟨w.heap.size, 2, none⟩ = some (.int .i64 o.port)) := by
  have hr := run_storeCells_cells (P := Try.prog) (w.heap.size + 1) 0 x 0 w4 (fun j hj => by
    rw [Nat.add_zero, Nat.zero_add, cell_of h.res, Array.getElem?_eq_getElem (by omega)]
    rfl) (fun j _ => free_of h.res _) h1
  rw [Nat.add_zero] at hr
  obtain ⟨z1, z2⟩ := setAll x h.res hz
  obtain ⟨f0, f1, f2, f3⟩ := h.facts
  have hbne : some b ≠ some (w.heap.size + 1) := fun e => by
    have e2 : b = w.heap.size + 1 := by injection e
    have h1 := h.bank.blk
    rw [e2, h.res] at h1
    injection h1 with h1
    injection h1 with _ h3
    exact absurd h3 (by decide)
  exact ⟨hr, z1, z2, z2.cell f0 hbne, z2.cell f1 (by show some w.heap.size ≠ _; simp), z2.cell f2 (by show some w.heap.size ≠ _; simp), z2.cell f3 (by show some w.heap.size ≠ _; simp)⟩
set_option maxRecDepth 100000 in
set_option maxHeartbeats 4000000 in
theorem find_any {B b : Nat} {gv wv : Value} {G : List GrV} {V : List WtV} (w : World) (h : BankW w B b gv wv G V) (o : OrgV) (p : Bool) (path : ByteArray) :
    Calls Try.prog 15 #[.pointer (some ⟨b, 0, none⟩), .agg #[.bool o.sec, .string o.host, .int .i64 o.port], .bool p, .string path] w fun e w' => TldAns (G.map (·.g)) (findI (G.map (·.g)) o p path) w.heap.size e w' ∧ Below w.heap.size w w' := by
  have H0 : Hid (FndF w ((w.alloc (.cells #[.bool o.sec, .string o.host, .int .i64 o.port] 24)).alloc (.cells #[.bool false, .string ⟨#[]⟩, .int .i64 0, .bool false, .string ⟨#[]⟩, .string ⟨#[]⟩, .int .i64 0, .string ⟨#[]⟩, .string ⟨#[]⟩, .string ⟨#[]⟩, .bool false, .string ⟨#[]⟩, .bool false, .slice none 0 0, .int .i64 0, .slice none 0 0] 36)).drew B b gv wv G V o _) := fnd_start w h o _
  have hQ := H0.out.facts
  obtain ⟨I, HI⟩ : ∃ I, Hid (findI (G.map (·.g)) o p path = I) := ⟨_, rfl⟩
  have HIR : Hid (I = -1 ∨ ∃ k : Nat, I = k ∧ k < (G.map (·.g)).length) := by
    have := findI_range (G.map (·.g)) o p path
    rw [HI.out, show (G.map (·.g)).length = (G.map (·.g)).length from rfl] at this
    exact this
  rw [HI.out]
  clear h
  go_enter Try.func15, Try.ntmps15
  go_wp2_with fail
  go_region_held3 (fun W => W.cell? ⟨b, 0, none⟩ = some gv ∧ W.cell? ⟨w.heap.size, 0, none⟩ = some (.bool o.sec) ∧ W.cell? ⟨w.heap.size, 1, none⟩ = some (.string o.host) ∧ W.cell? ⟨w.heap.size, 2, none⟩ = some (.int .i64 o.port)) (with_reducible assumption) (first
    | (go_at_call 46; refine (reachFor_any o p path _).mono ?_; rintro e w1 ⟨⟨xa, xb, xc, rfl, H3⟩, hb1⟩; have H1 : Hid (FndF w w1 B b gv wv G V o _) := H0.out.below hb1; have hQ1 := H1.out.facts; clear hb1)
    | (go_at_call 45; refine (farthest_any _ H1.out.bank o p path xa xb xc H3.out).mono ?_; rw [HI.out]; rintro e w2 ⟨rfl, hb2⟩; have H2 : Hid (FndF w w2 B b gv wv G V o _) := H1.out.below hb2; have hQ2 := H2.out.facts; clear hb2)
    | (go_at_call 44; refine (told_all _ H2.out.bank I HIR.out).mono ?_; rintro e w4 ⟨⟨x, rfl, hxg, hxo⟩, hb4⟩; have H4 : Hid (FndF w w4 B b gv wv G V o _) := H2.out.below hb4; have HX : Hid (x.g = toldL (G.map (·.g)) I ∧ GrOwn w4 w2.heap.size x) := ⟨hxg, hxo⟩; have hQ4 := H4.out.facts; have hxl := grCells_len x; obtain ⟨hst, HZ⟩ := fnd_store H4.out (grCells x) rfl hxo.one; have hQ5 := HZ.out.2.2; clear hxg hxo hb4))
  go_wp2
  refine bodyPost_ret (v := .tuple #[.agg (grCells x).toArray, .bool (decide (0 ≤ I))]) (res_cell_tmp (vs := grCells x) rfl rfl rfl Try.isAgg36 Try.sizeOf36 (grCells_len x) HZ.out.1) rfl ?_
  exact ⟨⟨x, rfl, HX.out.1, (HX.out.2.other HZ.out.2.1 (Typed.block H4.out.res) (by decide)).mono H2.out.bel.size⟩, H4.out.bel.grown HZ.out.2.1 H4.out.bel.size (fun i hi => by injection hi with hi; omega)⟩
end Go.Proofs.Ytjadmldnpdmamaa

/- A bank's grants, cloned. -/
namespace Go.Proofs.Ytjadmldnpdmamaa
open Go.RowKit
set_option linter.unusedVariables false

theorem freshG_any (v : GrV) (B : Nat) (hfit : GrFit v.g) (w : World) (h : GrOwn w B v) :
    Calls Try.prog 40 #[.agg (grCells v).toArray] w fun e w' => (∃ u : GrV, e = .returned (.agg (grCells u).toArray) ∧ u.g = v.g ∧ GrOwn w' w.heap.size u) ∧ Below w.heap.size w w' := by
  obtain ⟨da, dc, dg, hdv, hds⟩ := h.dom.strs
  obtain ⟨pa, pc, pg, hpv, hps⟩ := h.paths.strs
  have hc := freshG_at v.g hfit da pa _ dc _ pc dg 0 pg 0 w hds hps
  rw [← hdv, ← hpv] at hc
  refine hc.mono ?_
  rintro e w' ⟨⟨a, u, rfl, h1, h2⟩, hb⟩
  exact ⟨⟨⟨v.g, a, u⟩, rfl, rfl, ⟨h1, h2⟩⟩, hb⟩
theorem stays_own (B : Nat) : Stays 36 (fun W (u : GrV) => GrOwn W B u) := fun W W' row u hg ht h => h.other hg ht (by decide)
set_option maxHeartbeats 2000000 in
theorem ech_none (w : World) (F : Value) : Calls Try.prog 39 #[.slice none 0 0, F] w fun e w' => e = .returned (.slice none 0 0) ∧ w' = w := by
  go_enter Try.func39, Try.ntmps39
  go_wp2
  refine wp_loop_rounds 1 ?_
  rw [rounds_succ]
  go_wp2
  go_ret
  exact ⟨rfl, rfl⟩
theorem infoE : (Try.prog.info? 36).map (fun i => (i.zero, i.size, i.bytes)) = some (some (.agg #[.bool false, .string ⟨#[]⟩, .int .i64 0, .bool false, .string ⟨#[]⟩, .string ⟨#[]⟩, .int .i64 0, .string ⟨#[]⟩, .string ⟨#[]⟩, .string ⟨#[]⟩, .bool false, .string ⟨#[]⟩, .bool false, .slice none 0 0, .int .i64 0, .slice none 0 0]), 16, 216) := by kernel_rfl
/-- Grants handed out. -/
def GrtAns (l : List GrP) (B : Nat) (e : Ending) (w' : World) : Prop := ∃ (val : Value) (us : List GrV), e = .returned val ∧ OwnK 16 36 w' B val (us.map grCells) ∧ us.map (·.g) = l ∧ ∀ u ∈ us, GrOwn w' B u
theorem each_any (gv : Value) (B : Nat) (G : List GrV) (hl : G.length ≤ 1000) (w : World) (hown : OwnK 16 36 w B gv (G.map grCells)) (hgo : ∀ v ∈ G, GrOwn w B v) (hgf : ∀ v ∈ G, GrFit v.g) :
    Calls Try.prog 39 #[gv, .func (.func 40) #[] #[]] w fun e w' => GrtAns (G.map (·.g)) w.heap.size e w' ∧ Below w.heap.size w w' := by
  rcases hown.forms with ⟨rfl, e2⟩ | ⟨g, cap, rfl, _, _, _, _⟩
  · obtain rfl : G = [] := List.map_eq_nil_iff.1 e2
    refine (ech_none w _).mono ?_
    rintro e w' ⟨rfl, rfl⟩
    exact ⟨⟨_, [], rfl, ownK_nil _ _ _ _, rfl, fun u hu => (by cases hu)⟩, Below.refl _ _⟩
  · rw [List.length_map] at hown ⊢
    obtain ⟨i0, hi0, hz0, hz1, hz2⟩ := info_parts infoE
    refine (echG_of Try.prog Try.func39 (by kernel_rfl) Try.underlying22 Try.isAgg22 Try.sizeOf22 Try.underlying3 Try.isAgg3 Try.sizeOf3 Try.zeroValue3 Try.underlying4 Try.isAgg4 Try.sizeOf4 16 (by omega) (by omega) Try.isAgg36 Try.sizeOf36 _ Try.zeroValue36 rfl (by decide) i0 hi0 hz1 hz0 216 hz2 (by omega) grCells (fun v : GrV => v.g) grCells_len (fun W (u : GrV) => GrOwn W w.heap.size u) (stays_own _) (fun W u hu => hu.one) g _ cap B G rfl hl w hown 40 (enters_at Try.func40 (by kernel_rfl) rfl) (fun W v hv hb => ?_)).mono ?_
    · refine (freshG_any v B (hgf v hv) W ((hgo v hv).below hb)).mono ?_
      rintro e w' ⟨⟨u, rfl, hu, ho⟩, hb2⟩
      exact ⟨⟨u, rfl, hu, ho.mono hb.size⟩, hb2⟩
    · rintro e w' ⟨⟨val, us, rfl, h1, h2, h3⟩, hb⟩
      exact ⟨⟨val, us, rfl, h1, h2, h3⟩, hb⟩
set_option maxHeartbeats 2000000 in
theorem grants_any {B b : Nat} {gv wv : Value} {G : List GrV} {V : List WtV} (w : World) (h : BankW w B b gv wv G V) :
    Calls Try.prog 13 #[.pointer (some ⟨b, 0, none⟩)] w fun e w' => GrtAns (G.map (·.g)) w.heap.size e w' ∧ Below w.heap.size w w' := by
  have hc := cell_of (i := 0) h.blk
  simp only [List.getElem?_toArray, List.getElem?_cons_zero] at hc
  have he := each_any gv B G (by have := h.glen; omega) w h.gs h.go h.gf
  have HL : Hid (BankW w B b gv wv G V) := h
  clear h
  go_enter Try.func13, Try.ntmps13
  go_wp2_with fail
  refine he.mono ?_
  rintro e w1 ⟨⟨val, us, rfl, h1, h2, h3⟩, hb⟩
  go_wp2
  go_ret
  exact ⟨⟨val, us, rfl, h1, h2, h3⟩, hb⟩
end Go.Proofs.Ytjadmldnpdmamaa

/- A grant is used. -/
namespace Go.Proofs.Ytjadmldnpdmamaa
open Go.RowKit
set_option linter.unusedVariables false

def maxCnt : Int := 4294967295
/-- One more use. -/
def moreP (g : GrP) : GrP := { g with count := g.count + 1 }
/-- A bank's grants behind a use, the grant, and the error's number. -/
def useL (l : List GrP) (i : Int) : List GrP × GrP × Nat :=
  if i < 0 then (l, zeroP, 8)
  else if maxCnt ≤ ((l[i.toNat]?).getD zeroP).count then (l.eraseIdx i.toNat, zeroP, 12)
  else (l.eraseIdx i.toNat ++ [moreP ((l[i.toNat]?).getD zeroP)], moreP ((l[i.toNat]?).getD zeroP), 0)
/-- An error's number as a value; 0: none. -/
def errU (k : Nat) : Value := if k = 0 then .nilIface else .iface 93 (.int .i64 (k : Int))
/-- What Use answers, and leaves. -/
def UseAns (w : World) (B b : Nat) (gv wv : Value) (V : List WtV) (r : List GrP × GrP × Nat) (e : Ending) (w' : World) : Prop :=
  (∃ x : GrV, e = .returned (.tuple #[.agg (grCells x).toArray, errU r.2.2]) ∧ x.g = r.2.1 ∧ GrOwn w' w.heap.size x) ∧ ∃ gv' G', Hid (BankW w' B b gv' wv G' V ∧ G'.map (·.g) = r.1 ∧ BankStep b gv wv w w' gv' wv)
/-- A block of a grant that is no row of the bank's may be written. -/
theorem bank_off {w w' : World} {B b R : Nat} {gv wv : Value} {G : List GrV} {V : List WtV} {Z : Array Value} (h : BankW w B b gv wv G V) (hR : w.heap[R]? = some (.cells Z 36 (0, 0))) (hne : gv.ownBlock ≠ some R) (hg : w.grownBy w' (some R)) : BankW w' B b gv wv G V :=
  have t := Typed.block hR
  ⟨block_other h.blk hg t (by decide), h.low, h.gs.kept hg (.inr hne), h.ws.other hg t (by decide), fun v hv => (h.go v hv).other hg t (by decide), fun v hv => OwnS.other (h.wo v hv) hg t (by decide), h.gf, h.glen, h.vlen⟩
theorem step_off {w w1 w' : World} {b R : Nat} {gv wv gv' wv' : Value} (h : BankStep b gv wv w w1 gv' wv') (hg : w1.grownBy w' (some R)) (hR : w.heap.size ≤ R) : BankStep b gv wv w w' gv' wv' :=
  ⟨hg.os.trans h.os, hg.tape.trans h.tape, hg.output.trans h.output, Nat.le_trans h.size hg.size, fun x hx h1 h2 h3 => by
    obtain ⟨e1, e2, e3⟩ := h.keep x hx h1 h2 h3
    exact ⟨(hg.block x (Nat.lt_of_lt_of_le hx h.size) (fun e => by injection e with e; omega)).trans e1, e2, e3⟩⟩
theorem res_store {w4 : World} {R : Nat} {Z : Array Value} {t : TypeId} (h : w4.heap[R]? = some (.cells Z t (0, 0))) (x : List Value) (hz : Z.size = x.length) (h1 : ∀ u ∈ x, u.oneCell' = true) :
    Sem.run Try.prog (storeCells ⟨R, 0, none⟩ x 0) w4 = .ok () (w4.setCells R 0 x) ∧ Hid ((w4.setCells R 0 x).heap[R]? = some (.cells x.toArray t (0, 0)) ∧ w4.grownBy (w4.setCells R 0 x) (some R)) := by
  have hr := run_storeCells_cells (P := Try.prog) R 0 x 0 w4 (fun j hj => by
    rw [Nat.add_zero, Nat.zero_add, cell_of h, Array.getElem?_eq_getElem (by omega)]
    rfl) (fun j _ => free_of h _) h1
  rw [Nat.add_zero] at hr
  exact ⟨hr, setAll x h hz⟩
theorem use_one {s p se st : Bool} {h us pw r no op qo : ByteArray} {n sc c : Int} {da pa : Option Addr} {dn dc pn pc : Nat} : ∀ u ∈ [Value.bool s, .string h, .int .i64 n, .bool p, .string us, .string pw, .int .i64 sc, .string r, .string no, .string op, .bool se, .string qo, .bool st, .slice da dn dc, .int .i64 c, .slice pa pn pc], u.oneCell' = true := by
  intro u hu
  simp only [List.mem_cons, List.not_mem_nil, or_false] at hu
  rcases hu with rfl | rfl | rfl | rfl | rfl | rfl | rfl | rfl | rfl | rfl | rfl | rfl | rfl | rfl | rfl | rfl <;> rfl
/-- Behind a call that answers nothing. -/
theorem use_end {w w1 w' : World} {B b R : Nat} {gv wv gv' : Value} {G' : List GrV} {V : List WtV} {Z : Array Value} {r : List GrP × GrP × Nat} {x : GrV} (h : BankW w1 B b gv' wv G' V) (hs : BankStep b gv wv w w1 gv' wv) (hR : w1.heap[R]? = some (.cells Z 36 (0, 0))) (hne : gv'.ownBlock ≠ some R) (hRl : w.heap.size ≤ R) (hg : w1.grownBy w' (some R)) (hr : G'.map (·.g) = r.1) (hx : x.g = r.2.1) (hxo : GrOwn w1 w.heap.size x) :
    UseAns w B b gv wv V r (.returned (.tuple #[.agg (grCells x).toArray, errU r.2.2])) w' :=
  ⟨⟨x, rfl, hx, hxo.other hg (Typed.block hR) (by decide)⟩, gv', G', ⟨bank_off h hR hne hg, hr, step_off hs hg hRl⟩⟩
theorem erase_take {α : Type} (l : List α) (k : Nat) : l.take k ++ l.drop (k + 1) = l.eraseIdx k := (List.eraseIdx_eq_take_drop_succ l k).symm
/-- The row without the grant that is used. -/
theorem use_del {w w2 w3 : World} {B b g n cap k : Nat} {wv : Value} {G : List GrV} {V : List WtV} {v : GrV} (h : BankW w B b (.slice (some ⟨g, 0, none⟩) n cap) wv G V) (h2 : BankW w2 B b (.slice (some ⟨g, 0, none⟩) n cap) wv G V) (hb2 : Below w.heap.size w w2) (hn : G.length = n) (hv : G[k]? = some v) (hb : Below w2.heap.size w2 w3) (hB : B ≤ w.heap.size) :
    Calls Try.prog 59 #[.slice (some ⟨g, 0, none⟩) n cap, .int .i64 (k : Int), .int .i64 ((k : Int) + 1)] w3 fun e w4 => ∃ m, e = .returned (.slice (some ⟨g, 0, none⟩) m cap) ∧ Hid (w3.grownBy w4 (some g) ∧ BankW (w4.setCell ⟨b, 0, none⟩ (.slice (some ⟨g, 0, none⟩) m cap)) B b (.slice (some ⟨g, 0, none⟩) m cap) wv (G.eraseIdx k) V ∧ BankStep b (.slice (some ⟨g, 0, none⟩) n cap) wv w (w4.setCell ⟨b, 0, none⟩ (.slice (some ⟨g, 0, none⟩) m cap)) (.slice (some ⟨g, 0, none⟩) m cap) wv ∧ w4.heap[b]? = some (.cells #[.slice (some ⟨g, 0, none⟩) n cap, wv] 52 (0, 0))) := by
  have hk : k < n := by rw [← hn]; exact (List.getElem?_eq_some_iff.1 hv).1
  have hcap : cap ≤ 9223372036854775807 := by
    rcases h2.gs.forms with ⟨e, _⟩ | ⟨g', cap', e, _, _, _, hm⟩
    · cases e
    · injection e with _ _ e3
      rw [e3]
      unfold maxLen at hm
      omega
  have h3 := h2.below hb
  have hd := dltG_any g n cap B (G.map grCells) (by rw [List.length_map]; exact hn) hcap w3 h3.gs k (k + 1) (by omega) (by omega)
  rw [show ((k + 1 : Nat) : Int) = (k : Int) + 1 by push_cast; rfl] at hd
  refine hd.mono ?_
  rintro e w4 ⟨rfl, H⟩
  obtain ⟨hown, hg⟩ := H.out
  have e1 : (G.map grCells).take k ++ (G.map grCells).drop (k + 1) = (G.eraseIdx k).map grCells := by rw [← List.map_take, ← List.map_drop, ← List.map_append, erase_take]
  rw [e1] at hown
  have hb3 : Below w.heap.size w w3 := hb2.trans (hb.mono hb2.size)
  obtain ⟨h5, h6⟩ := bank_grants h hb3 hg hown (fun j hj => .inl hj) (fun x hx => by
    have := List.mem_of_mem_eraseIdx hx
    exact ⟨.inl this, h.gf x this⟩) (Nat.le_trans (List.length_eraseIdx_le _ _) h.glen)
  exact ⟨_, rfl, ⟨hg, h5, h6, block_other h3.blk hg h3.gs.typed (by decide)⟩⟩
set_option maxRecDepth 100000 in
set_option maxHeartbeats 8000000 in
theorem use_any {B b : Nat} {gv wv : Value} {G : List GrV} {V : List WtV} (w : World) (h : BankW w B b gv wv G V) (hB : B ≤ w.heap.size) (o : OrgV) (p : Bool) (path : ByteArray) :
    Calls Try.prog 32 #[.pointer (some ⟨b, 0, none⟩), .agg #[.bool o.sec, .string o.host, .int .i64 o.port], .bool p, .string path] w fun e w' => UseAns w B b gv wv V (useL (G.map (·.g)) (findI (G.map (·.g)) o p path)) e w' := by
  have H0 : Hid (FndF w ((w.alloc (.cells #[.bool o.sec, .string o.host, .int .i64 o.port] 24)).alloc (.cells #[.bool false, .string ⟨#[]⟩, .int .i64 0, .bool false, .string ⟨#[]⟩, .string ⟨#[]⟩, .int .i64 0, .string ⟨#[]⟩, .string ⟨#[]⟩, .string ⟨#[]⟩, .bool false, .string ⟨#[]⟩, .bool false, .slice none 0 0, .int .i64 0, .slice none 0 0] 36)).drew B b gv wv G V o _) := fnd_start w h o _
  have HK : Hid (BankW w B b gv wv G V ∧ B ≤ w.heap.size) := ⟨h, hB⟩
  have hQ := H0.out.facts
  obtain ⟨I, HI⟩ : ∃ I, Hid (findI (G.map (·.g)) o p path = I) := ⟨_, rfl⟩
  have HIR : Hid (I = -1 ∨ ∃ k : Nat, I = k ∧ k < G.length) := by
    have := findI_range (G.map (·.g)) o p path
    rw [HI.out, List.length_map] at this
    exact this
  rw [HI.out]
  clear h hB
  go_enter Try.func32, Try.ntmps32
  go_wp2_with fail
  go_region_held3 (fun W => W.cell? ⟨b, 0, none⟩ = some gv ∧ W.cell? ⟨w.heap.size, 0, none⟩ = some (.bool o.sec) ∧ W.cell? ⟨w.heap.size, 1, none⟩ = some (.string o.host) ∧ W.cell? ⟨w.heap.size, 2, none⟩ = some (.int .i64 o.port)) (with_reducible assumption) (first
    | (go_at_call 46; refine (reachFor_any o p path _).mono ?_; rintro e w1 ⟨⟨xa, xb, xc, rfl, H3⟩, hb1⟩; have H1 : Hid (FndF w w1 B b gv wv G V o _) := H0.out.below hb1; have hQ1 := H1.out.facts; clear hb1)
    | (go_at_call 45; refine (farthest_any _ H1.out.bank o p path xa xb xc H3.out).mono ?_; rw [HI.out]; rintro e w2 ⟨rfl, hb2⟩; have H2 : Hid (FndF w w2 B b gv wv G V o _) := H1.out.below hb2; have hQ2 := H2.out.facts; clear hb2))
  clear hQ hQ1 hQ2 H3 H1 H0
  rcases HIR.out with hI | ⟨k, hI, hkG⟩
  · subst hI
    have hres := H2.out.res
    have d0 : w2.cell? ⟨w.heap.size + 1, 0, none⟩ = some (.bool false) := cell_of hres
    have d1 : w2.cell? ⟨w.heap.size + 1, 1, none⟩ = some (.string ⟨#[]⟩) := cell_of hres
    have d2 : w2.cell? ⟨w.heap.size + 1, 2, none⟩ = some (.int .i64 0) := cell_of hres
    have d3 : w2.cell? ⟨w.heap.size + 1, 3, none⟩ = some (.bool false) := cell_of hres
    have d4 : w2.cell? ⟨w.heap.size + 1, 4, none⟩ = some (.string ⟨#[]⟩) := cell_of hres
    have d5 : w2.cell? ⟨w.heap.size + 1, 5, none⟩ = some (.string ⟨#[]⟩) := cell_of hres
    have d6 : w2.cell? ⟨w.heap.size + 1, 6, none⟩ = some (.int .i64 0) := cell_of hres
    have d7 : w2.cell? ⟨w.heap.size + 1, 7, none⟩ = some (.string ⟨#[]⟩) := cell_of hres
    have d8 : w2.cell? ⟨w.heap.size + 1, 8, none⟩ = some (.string ⟨#[]⟩) := cell_of hres
    have d9 : w2.cell? ⟨w.heap.size + 1, 9, none⟩ = some (.string ⟨#[]⟩) := cell_of hres
    have d10 : w2.cell? ⟨w.heap.size + 1, 10, none⟩ = some (.bool false) := cell_of hres
    have d11 : w2.cell? ⟨w.heap.size + 1, 11, none⟩ = some (.string ⟨#[]⟩) := cell_of hres
    have d12 : w2.cell? ⟨w.heap.size + 1, 12, none⟩ = some (.bool false) := cell_of hres
    have d13 : w2.cell? ⟨w.heap.size + 1, 13, none⟩ = some (.slice none 0 0) := cell_of hres
    have d14 : w2.cell? ⟨w.heap.size + 1, 14, none⟩ = some (.int .i64 0) := cell_of hres
    have d15 : w2.cell? ⟨w.heap.size + 1, 15, none⟩ = some (.slice none 0 0) := cell_of hres
    have fr := free_of hres
    clear hres
    go_wp2
    have hR := H2.out.res
    obtain ⟨z1, z2⟩ := setAll [.bool false, .string ⟨#[]⟩, .int .i64 0, .bool false, .string ⟨#[]⟩, .string ⟨#[]⟩, .int .i64 0, .string ⟨#[]⟩, .string ⟨#[]⟩, .string ⟨#[]⟩, .bool false, .string ⟨#[]⟩, .bool false, .slice none 0 0, .int .i64 0, .slice none 0 0] hR rfl
    simp only [World.setCells, Nat.reduceAdd] at z1 z2
    clear d0 d1 d2 d3 d4 d5 d6 d7 d8 d9 d10 d11 d12 d13 d14 d15 fr
    have hne : gv.ownBlock ≠ some (w.heap.size + 1) := fun e => by
      have := (HK.out.1.gs.lt _ e).2
      omega
    exact bodyPost_ret (v := .tuple #[.agg (grCells zeroV).toArray, errU 8]) (res_cell_tmp (vs := grCells zeroV) rfl rfl rfl Try.isAgg36 Try.sizeOf36 rfl z1) rfl (use_end (r := useL (G.map (·.g)) (-1)) (x := zeroV) H2.out.bank (BankStep.of_below H2.out.bel) hR hne (by omega) z2 rfl rfl (zeroV_own _ _))
  · subst hI
    obtain ⟨v, hv⟩ : ∃ v, G[k]? = some v := ⟨G[k], List.getElem?_eq_getElem hkG⟩
    have HV : Hid (G[k]? = some v ∧ k < G.length) := ⟨hv, hkG⟩
    obtain ⟨n, HN⟩ : ∃ n, Hid (G.length = n) := ⟨_, rfl⟩
    obtain ⟨g, cap, hgv, hgl⟩ : ∃ g cap, gv = .slice (some ⟨g, 0, none⟩) n cap ∧ g < w.heap.size := by
      rcases HK.out.1.gs.forms with ⟨_, e2⟩ | ⟨g, cap, e, _, h1, _, _⟩
      · have := congrArg List.length e2
        rw [List.length_map, List.length_nil] at this
        omega
      · rw [List.length_map] at e
        exact ⟨g, cap, by rw [e, HN.out], h1⟩
    subst hgv
    have hvo := H2.out.bank.go v (List.mem_of_getElem? hv)
    obtain ⟨da, dc, dg, hdv, hds⟩ := hvo.dom.strs
    obtain ⟨pa, pc, pg, hpv, hps⟩ := hvo.paths.strs
    obtain ⟨dn, HDN⟩ : ∃ dn, Hid (v.g.ask.dom.length = dn) := ⟨_, rfl⟩
    obtain ⟨pn, HPN⟩ : ∃ pn, Hid (v.g.paths.length = pn) := ⟨_, rfl⟩
    rw [HDN.out] at hdv hds
    rw [HPN.out] at hpv hps
    obtain ⟨c0, c1, c2, c3, c4, c5, c6, c7, c8, c9, c10, c11, c12, c13, c14, c15⟩ := row16 H2.out.bank.gs hv hdv hpv
    have HVV : Hid (v.dv = .slice da dn dc ∧ v.pv = .slice pa pn pc ∧ Strs w2 da dn dg 0 v.g.ask.dom ∧ Strs w2 pa pn pg 0 v.g.paths) := ⟨hdv, hpv, hds, hps⟩
    have hkn : (k : Int) < (n : Int) := by have := HN.out; omega
    have hcb : w2.cell? ⟨b, 0, none⟩ = some (.slice (some ⟨g, 0, none⟩) n cap) := by first | exact H2.out.facts.1 | (rw [← HN.out]; exact H2.out.facts.1)
    have HB2 : Hid (Below w2.heap.size w2 (w2.alloc (.cells #[.bool v.g.org.sec, .string v.g.org.host, .int .i64 v.g.org.port, .bool v.g.proxy, .string v.g.user, .string v.g.pass, .int .i64 v.g.ask.sch, .string v.g.ask.realm, .string v.g.ask.nonce, .string v.g.ask.opq, .bool v.g.ask.sess, .string v.g.ask.qop, .bool v.g.ask.stale, .slice da dn dc, .int .i64 v.g.count, .slice pa pn pc] 36)) ∧ (w2.alloc (.cells #[.bool v.g.org.sec, .string v.g.org.host, .int .i64 v.g.org.port, .bool v.g.proxy, .string v.g.user, .string v.g.pass, .int .i64 v.g.ask.sch, .string v.g.ask.realm, .string v.g.ask.nonce, .string v.g.ask.opq, .bool v.g.ask.sess, .string v.g.ask.qop, .bool v.g.ask.stale, .slice da dn dc, .int .i64 v.g.count, .slice pa pn pc] 36)).heap[w2.heap.size]? = some (.cells #[.bool v.g.org.sec, .string v.g.org.host, .int .i64 v.g.org.port, .bool v.g.proxy, .string v.g.user, .string v.g.pass, .int .i64 v.g.ask.sch, .string v.g.ask.realm, .string v.g.ask.nonce, .string v.g.ask.opq, .bool v.g.ask.sess, .string v.g.ask.qop, .bool v.g.ask.stale, .slice da dn dc, .int .i64 v.g.count, .slice pa pn pc] 36 (0, 0))) := ⟨(Below.refl _ _).alloc (Nat.le_refl _) _, heap_alloc_new w2 _⟩
    have hcb2 : (w2.alloc (.cells #[.bool v.g.org.sec, .string v.g.org.host, .int .i64 v.g.org.port, .bool v.g.proxy, .string v.g.user, .string v.g.pass, .int .i64 v.g.ask.sch, .string v.g.ask.realm, .string v.g.ask.nonce, .string v.g.ask.opq, .bool v.g.ask.sess, .string v.g.ask.qop, .bool v.g.ask.stale, .slice da dn dc, .int .i64 v.g.count, .slice pa pn pc] 36)).cell? ⟨b, 0, none⟩ = some (.slice (some ⟨g, 0, none⟩) n cap) := (HB2.out.1.cell (p := ⟨b, 0, none⟩) (Array.getElem?_eq_some_iff.1 H2.out.bank.blk).1).trans hcb
    have hn8 : (n : Int) ≤ 8 := by have := HN.out; have := HK.out.1.glen; omega
    have hdel := use_del HK.out.1 H2.out.bank H2.out.bel HN.out HV.out.1 HB2.out.1 HK.out.2
    clear hvo hds hps hdv hpv hv hkG
    go_wp2_with fail
    refine hdel.mono ?_
    rintro e w3 ⟨m3, rfl, H3⟩
    clear hdel hcb hcb2 c0 c1 c2 c3 c4 c5 c6 c7 c8 c9 c10 c11 c12 c13 c14 c15
    have HVO : Hid (GrOwn w3 B v) := ((H2.out.bank.go v (List.mem_of_getElem? HV.out.1)).below HB2.out.1).other H3.out.1 (H2.out.bank.below HB2.out.1).gs.typed (by decide)
    have hGl : w2.heap.size < (w2.alloc (.cells #[.bool v.g.org.sec, .string v.g.org.host, .int .i64 v.g.org.port, .bool v.g.proxy, .string v.g.user, .string v.g.pass, .int .i64 v.g.ask.sch, .string v.g.ask.realm, .string v.g.ask.nonce, .string v.g.ask.opq, .bool v.g.ask.sess, .string v.g.ask.qop, .bool v.g.ask.stale, .slice da dn dc, .int .i64 v.g.count, .slice pa pn pc] 36)).heap.size := by simp
    have hg3 : w3.heap[w2.heap.size]? = some (.cells #[.bool v.g.org.sec, .string v.g.org.host, .int .i64 v.g.org.port, .bool v.g.proxy, .string v.g.user, .string v.g.pass, .int .i64 v.g.ask.sch, .string v.g.ask.realm, .string v.g.ask.nonce, .string v.g.ask.opq, .bool v.g.ask.sess, .string v.g.ask.qop, .bool v.g.ask.stale, .slice da dn dc, .int .i64 v.g.count, .slice pa pn pc] 36 (0, 0)) := (H3.out.1.block _ hGl (fun e => by injection e with e; have := H2.out.bel.size; omega)).trans HB2.out.2
    have hr2 := H2.out.res
    have hr3 : w3.heap[w.heap.size + 1]? = some (.cells #[.bool false, .string ⟨#[]⟩, .int .i64 0, .bool false, .string ⟨#[]⟩, .string ⟨#[]⟩, .int .i64 0, .string ⟨#[]⟩, .string ⟨#[]⟩, .string ⟨#[]⟩, .bool false, .string ⟨#[]⟩, .bool false, .slice none 0 0, .int .i64 0, .slice none 0 0] 36 (0, 0)) := (H3.out.1.block _ (Nat.lt_of_lt_of_le (Array.getElem?_eq_some_iff.1 hr2).1 HB2.out.1.size) (fun e => by injection e with e; omega)).trans ((HB2.out.1.block _ (Array.getElem?_eq_some_iff.1 hr2).1).trans hr2)
    have hb3 := H3.out.2.2.2
    have hbG : ¬ b = w2.heap.size := fun e => by
      rw [e, hg3] at hb3
      injection hb3 with hb3
      injection hb3 with _ h3
      exact absurd h3 (by decide)
    have hbR : ¬ b = w.heap.size + 1 := fun e => by
      rw [e, hr3] at hb3
      injection hb3 with hb3
      injection hb3 with _ h3
      exact absurd h3 (by decide)
    have hGR : w.heap.size + 1 < w2.heap.size := (Array.getElem?_eq_some_iff.1 hr2).1
    have hc3 := cell_of (i := 0) hb3
    have f3 := free_of hb3
    have n14 : w3.cell? ⟨w2.heap.size, 14, none⟩ = some (.int .i64 v.g.count) := cell_of hg3
    simp only [List.getElem?_toArray, List.getElem?_cons_zero] at hc3
    have HS : Hid (w3.heap[w2.heap.size]? = some (.cells #[.bool v.g.org.sec, .string v.g.org.host, .int .i64 v.g.org.port, .bool v.g.proxy, .string v.g.user, .string v.g.pass, .int .i64 v.g.ask.sch, .string v.g.ask.realm, .string v.g.ask.nonce, .string v.g.ask.opq, .bool v.g.ask.sess, .string v.g.ask.qop, .bool v.g.ask.stale, .slice da dn dc, .int .i64 v.g.count, .slice pa pn pc] 36 (0, 0)) ∧ w3.heap[w.heap.size + 1]? = some (.cells #[.bool false, .string ⟨#[]⟩, .int .i64 0, .bool false, .string ⟨#[]⟩, .string ⟨#[]⟩, .int .i64 0, .string ⟨#[]⟩, .string ⟨#[]⟩, .string ⟨#[]⟩, .bool false, .string ⟨#[]⟩, .bool false, .slice none 0 0, .int .i64 0, .slice none 0 0] 36 (0, 0)) ∧ w3.heap[b]? = some (.cells #[.slice (some ⟨g, 0, none⟩) n cap, wv] 52 (0, 0))) := ⟨hg3, hr3, hb3⟩
    obtain ⟨cnt, HCN⟩ : ∃ c, Hid (v.g.count = c) := ⟨_, rfl⟩
    rw [HCN.out] at n14
    have HU : Hid ((G.map (·.g))[k]? = some v.g) := by show _ = _; rw [List.getElem?_map, HV.out.1]; rfl
    have hneR : (Value.slice (some ⟨g, 0, none⟩) m3 cap).ownBlock ≠ some (w.heap.size + 1) := fun e => by
      have e2 : g = w.heap.size + 1 := by simpa [Value.ownBlock] using e
      omega
    have hneG : (Value.slice (some ⟨g, 0, none⟩) m3 cap).ownBlock ≠ some w2.heap.size := fun e => by
      have e2 : g = w2.heap.size := by simpa [Value.ownBlock] using e
      omega
    have HNE : Hid ((Value.slice (some ⟨g, 0, none⟩) m3 cap).ownBlock ≠ some (w.heap.size + 1) ∧ (Value.slice (some ⟨g, 0, none⟩) m3 cap).ownBlock ≠ some w2.heap.size) := ⟨hneR, hneG⟩
    clear hneR hneG
    by_cases hfull : 4294967295 ≤ cnt
    · have d0 : w3.cell? ⟨w.heap.size + 1, 0, none⟩ = some (.bool false) := cell_of hr3
      have d1 : w3.cell? ⟨w.heap.size + 1, 1, none⟩ = some (.string ⟨#[]⟩) := cell_of hr3
      have d2 : w3.cell? ⟨w.heap.size + 1, 2, none⟩ = some (.int .i64 0) := cell_of hr3
      have d3 : w3.cell? ⟨w.heap.size + 1, 3, none⟩ = some (.bool false) := cell_of hr3
      have d4 : w3.cell? ⟨w.heap.size + 1, 4, none⟩ = some (.string ⟨#[]⟩) := cell_of hr3
      have d5 : w3.cell? ⟨w.heap.size + 1, 5, none⟩ = some (.string ⟨#[]⟩) := cell_of hr3
      have d6 : w3.cell? ⟨w.heap.size + 1, 6, none⟩ = some (.int .i64 0) := cell_of hr3
      have d7 : w3.cell? ⟨w.heap.size + 1, 7, none⟩ = some (.string ⟨#[]⟩) := cell_of hr3
      have d8 : w3.cell? ⟨w.heap.size + 1, 8, none⟩ = some (.string ⟨#[]⟩) := cell_of hr3
      have d9 : w3.cell? ⟨w.heap.size + 1, 9, none⟩ = some (.string ⟨#[]⟩) := cell_of hr3
      have d10 : w3.cell? ⟨w.heap.size + 1, 10, none⟩ = some (.bool false) := cell_of hr3
      have d11 : w3.cell? ⟨w.heap.size + 1, 11, none⟩ = some (.string ⟨#[]⟩) := cell_of hr3
      have d12 : w3.cell? ⟨w.heap.size + 1, 12, none⟩ = some (.bool false) := cell_of hr3
      have d13 : w3.cell? ⟨w.heap.size + 1, 13, none⟩ = some (.slice none 0 0) := cell_of hr3
      have d14 : w3.cell? ⟨w.heap.size + 1, 14, none⟩ = some (.int .i64 0) := cell_of hr3
      have d15 : w3.cell? ⟨w.heap.size + 1, 15, none⟩ = some (.slice none 0 0) := cell_of hr3
      have fr := free_of hr3
      clear hg3 hr2 hr3 hb3
      go_wp2
      have HU2 : Hid (useL (G.map (·.g)) k = ((G.map (·.g)).eraseIdx k, zeroP, 12)) := by
        show _ = _
        unfold useL maxCnt
        rw [if_neg (by omega), Int.toNat_natCast, HU.out]
        have h1 : (4294967295 : Int) ≤ ((some v.g).getD zeroP).count := by show _ ≤ v.g.count; rw [HCN.out]; exact hfull
        rw [if_pos h1]
      have hR4 := (Below.heap_setCell w3 ⟨b, 0, none⟩ (.slice (some ⟨g, 0, none⟩) m3 cap) (w.heap.size + 1) (fun e => hbR e.symm)).trans HS.out.2.1
      obtain ⟨z1, z2⟩ := setAll [.bool false, .string ⟨#[]⟩, .int .i64 0, .bool false, .string ⟨#[]⟩, .string ⟨#[]⟩, .int .i64 0, .string ⟨#[]⟩, .string ⟨#[]⟩, .string ⟨#[]⟩, .bool false, .string ⟨#[]⟩, .bool false, .slice none 0 0, .int .i64 0, .slice none 0 0] hR4 rfl
      simp only [World.setCells, Nat.reduceAdd] at z1 z2
      refine bodyPost_ret (v := .tuple #[.agg (grCells zeroV).toArray, errU 12]) (res_cell_tmp (vs := grCells zeroV) rfl rfl rfl Try.isAgg36 Try.sizeOf36 rfl z1) rfl ?_
      rw [HU2.out]
      exact use_end (r := ((G.map (·.g)).eraseIdx k, zeroP, 12)) (x := zeroV) H3.out.2.1 H3.out.2.2.1 hR4 HNE.out.1 (by omega) z2 (by rw [List.eraseIdx_eq_take_drop_succ, List.eraseIdx_eq_take_drop_succ, List.map_append, List.map_take, List.map_drop]) rfl (zeroV_own _ _)
    · have HU2 : Hid (useL (G.map (·.g)) k = ((G.map (·.g)).eraseIdx k ++ [moreP v.g], moreP v.g, 0)) := by
        show _ = _
        unfold useL maxCnt
        rw [if_neg (by omega), Int.toNat_natCast, HU.out]
        have h1 : ¬ (4294967295 : Int) ≤ ((some v.g).getD zeroP).count := by show ¬ _ ≤ v.g.count; rw [HCN.out]; exact hfull
        rw [if_neg h1]
        rfl
      have hcl : -9223372036854775808 ≤ cnt := by rw [← HCN.out]; exact (HK.out.1.gf v (List.mem_of_getElem? HV.out.1)).2.2.2.2.2.2
      have hg4 := (Below.heap_setCell w3 ⟨b, 0, none⟩ (.slice (some ⟨g, 0, none⟩) m3 cap) w2.heap.size (fun e => hbG e.symm)).trans HS.out.1
      have hr4 := (Below.heap_setCell w3 ⟨b, 0, none⟩ (.slice (some ⟨g, 0, none⟩) m3 cap) (w.heap.size + 1) (fun e => hbR e.symm)).trans HS.out.2.1
      have hg5 := heap_setCell_same (w3.setCell ⟨b, 0, none⟩ (.slice (some ⟨g, 0, none⟩) m3 cap)) w2.heap.size 14 _ _ (.int .i64 (cnt + 1)) hg4
      have hr5 := (Below.heap_setCell (w3.setCell ⟨b, 0, none⟩ (.slice (some ⟨g, 0, none⟩) m3 cap)) ⟨w2.heap.size, 14, none⟩ (.int .i64 (cnt + 1)) (w.heap.size + 1) (by show w.heap.size + 1 ≠ w2.heap.size; omega)).trans hr4
      have g45 : (w3.setCell ⟨b, 0, none⟩ (.slice (some ⟨g, 0, none⟩) m3 cap)).grownBy ((w3.setCell ⟨b, 0, none⟩ (.slice (some ⟨g, 0, none⟩) m3 cap)).setCell ⟨w2.heap.size, 14, none⟩ (.int .i64 (cnt + 1))) (some w2.heap.size) := grown_setCells _ w2.heap.size 14 [.int .i64 (cnt + 1)]
      have ho4 := (HVO.out.other (show w3.grownBy (w3.setCell ⟨b, 0, none⟩ (.slice (some ⟨g, 0, none⟩) m3 cap)) (some b) from grown_setCells w3 b 0 [.slice (some ⟨g, 0, none⟩) m3 cap]) (Typed.block HS.out.2.2) (by decide)).other g45 (Typed.block hg4) (by decide)
      have H5 : Hid (BankW ((w3.setCell ⟨b, 0, none⟩ (.slice (some ⟨g, 0, none⟩) m3 cap)).setCell ⟨w2.heap.size, 14, none⟩ (.int .i64 (cnt + 1))) B b (.slice (some ⟨g, 0, none⟩) m3 cap) wv (G.eraseIdx k) V ∧ BankStep b (.slice (some ⟨g, 0, none⟩) n cap) wv w ((w3.setCell ⟨b, 0, none⟩ (.slice (some ⟨g, 0, none⟩) m3 cap)).setCell ⟨w2.heap.size, 14, none⟩ (.int .i64 (cnt + 1))) (.slice (some ⟨g, 0, none⟩) m3 cap) wv ∧ ((w3.setCell ⟨b, 0, none⟩ (.slice (some ⟨g, 0, none⟩) m3 cap)).setCell ⟨w2.heap.size, 14, none⟩ (.int .i64 (cnt + 1))).heap[w2.heap.size]? = some (.cells #[.bool v.g.org.sec, .string v.g.org.host, .int .i64 v.g.org.port, .bool v.g.proxy, .string v.g.user, .string v.g.pass, .int .i64 v.g.ask.sch, .string v.g.ask.realm, .string v.g.ask.nonce, .string v.g.ask.opq, .bool v.g.ask.sess, .string v.g.ask.qop, .bool v.g.ask.stale, .slice da dn dc, .int .i64 (cnt + 1), .slice pa pn pc] 36 (0, 0)) ∧ ((w3.setCell ⟨b, 0, none⟩ (.slice (some ⟨g, 0, none⟩) m3 cap)).setCell ⟨w2.heap.size, 14, none⟩ (.int .i64 (cnt + 1))).heap[w.heap.size + 1]? = some (.cells #[.bool false, .string ⟨#[]⟩, .int .i64 0, .bool false, .string ⟨#[]⟩, .string ⟨#[]⟩, .int .i64 0, .string ⟨#[]⟩, .string ⟨#[]⟩, .string ⟨#[]⟩, .bool false, .string ⟨#[]⟩, .bool false, .slice none 0 0, .int .i64 0, .slice none 0 0] 36 (0, 0)) ∧ GrOwn (((w3.setCell ⟨b, 0, none⟩ (.slice (some ⟨g, 0, none⟩) m3 cap)).setCell ⟨w2.heap.size, 14, none⟩ (.int .i64 (cnt + 1)))) B v) := ⟨bank_off H3.out.2.1 hg4 HNE.out.2 g45, step_off H3.out.2.2.1 g45 (by omega), hg5, hr5, ho4⟩
      have fg4 := free_of hg4
      clear hg4 hr4 hg5 hr5 g45 ho4 hg3 hr2 hr3 hb3
      go_wp2_with fail
      generalize ((w3.setCell ⟨b, 0, none⟩ (.slice (some ⟨g, 0, none⟩) m3 cap)).setCell ⟨w2.heap.size, 14, none⟩ (.int .i64 (cnt + 1))) = W5 at H5 ⊢
      obtain ⟨i0, hi0, hz0, hz1, hz2⟩ := info_parts infoE
      have hm3 : (G.eraseIdx k).length = m3 := by
        rcases H5.out.1.gs.forms with ⟨e, _⟩ | ⟨g', cap', e, _, _, _, _⟩
        · cases e
        · injection e with _ e2 _
          rw [List.length_map] at e2
          exact e2.symm
      have HM3 : Hid ((G.eraseIdx k).length = m3 ∧ m3 ≤ 8) := ⟨hm3, by rw [← hm3]; exact H5.out.1.glen⟩
      have hbA : Below W5.heap.size W5 (W5.alloc (.cells #[.bool v.g.org.sec, .string v.g.org.host, .int .i64 v.g.org.port, .bool v.g.proxy, .string v.g.user, .string v.g.pass, .int .i64 v.g.ask.sch, .string v.g.ask.realm, .string v.g.ask.nonce, .string v.g.ask.opq, .bool v.g.ask.sess, .string v.g.ask.qop, .bool v.g.ask.stale, .slice da dn dc, .int .i64 (cnt + 1), .slice pa pn pc] 36)).drew := ((Below.refl _ _).alloc (Nat.le_refl _) _).drew
      have hrow := (H5.out.1.gs.below hbA).row
      rw [List.length_map, hm3] at hrow
      have HR : Hid (World.ownsRow (W5.alloc (.cells #[.bool v.g.org.sec, .string v.g.org.host, .int .i64 v.g.org.port, .bool v.g.proxy, .string v.g.user, .string v.g.pass, .int .i64 v.g.ask.sch, .string v.g.ask.realm, .string v.g.ask.nonce, .string v.g.ask.opq, .bool v.g.ask.sess, .string v.g.ask.qop, .bool v.g.ask.stale, .slice da dn dc, .int .i64 (cnt + 1), .slice pa pn pc] 36)).drew B 36 16 (.slice (some ⟨g, 0, none⟩) m3 cap) m3 ((G.eraseIdx k).map grCells).flatten ∧ Below W5.heap.size W5 (W5.alloc (.cells #[.bool v.g.org.sec, .string v.g.org.host, .int .i64 v.g.org.port, .bool v.g.proxy, .string v.g.user, .string v.g.pass, .int .i64 v.g.ask.sch, .string v.g.ask.realm, .string v.g.ask.nonce, .string v.g.ask.opq, .bool v.g.ask.sess, .string v.g.ask.qop, .bool v.g.ask.stale, .slice da dn dc, .int .i64 (cnt + 1), .slice pa pn pc] 36)).drew) := ⟨hrow, hbA⟩
      have q0 : W5.drew.cell? ⟨b, 0, none⟩ = some (.slice (some ⟨g, 0, none⟩) m3 cap) := cell_of (w := W5) (i := 0) H5.out.1.blk
      have q1 : ((W5.alloc (.cells #[.bool v.g.org.sec, .string v.g.org.host, .int .i64 v.g.org.port, .bool v.g.proxy, .string v.g.user, .string v.g.pass, .int .i64 v.g.ask.sch, .string v.g.ask.realm, .string v.g.ask.nonce, .string v.g.ask.opq, .bool v.g.ask.sess, .string v.g.ask.qop, .bool v.g.ask.stale, .slice da dn dc, .int .i64 (cnt + 1), .slice pa pn pc] 36)).drew).cell? ⟨b, 0, none⟩ = some (.slice (some ⟨g, 0, none⟩) m3 cap) := (hbA.cell (p := ⟨b, 0, none⟩) (Array.getElem?_eq_some_iff.1 H5.out.1.blk).1).trans q0
      have e0 : W5.drew.cell? ⟨w2.heap.size, 0, none⟩ = some (.bool v.g.org.sec) := cell_of (w := W5) H5.out.2.2.1
      have e1 : W5.drew.cell? ⟨w2.heap.size, 1, none⟩ = some (.string v.g.org.host) := cell_of (w := W5) H5.out.2.2.1
      have e2 : W5.drew.cell? ⟨w2.heap.size, 2, none⟩ = some (.int .i64 v.g.org.port) := cell_of (w := W5) H5.out.2.2.1
      have e3 : W5.drew.cell? ⟨w2.heap.size, 3, none⟩ = some (.bool v.g.proxy) := cell_of (w := W5) H5.out.2.2.1
      have e4 : W5.drew.cell? ⟨w2.heap.size, 4, none⟩ = some (.string v.g.user) := cell_of (w := W5) H5.out.2.2.1
      have e5 : W5.drew.cell? ⟨w2.heap.size, 5, none⟩ = some (.string v.g.pass) := cell_of (w := W5) H5.out.2.2.1
      have e6 : W5.drew.cell? ⟨w2.heap.size, 6, none⟩ = some (.int .i64 v.g.ask.sch) := cell_of (w := W5) H5.out.2.2.1
      have e7 : W5.drew.cell? ⟨w2.heap.size, 7, none⟩ = some (.string v.g.ask.realm) := cell_of (w := W5) H5.out.2.2.1
      have e8 : W5.drew.cell? ⟨w2.heap.size, 8, none⟩ = some (.string v.g.ask.nonce) := cell_of (w := W5) H5.out.2.2.1
      have e9 : W5.drew.cell? ⟨w2.heap.size, 9, none⟩ = some (.string v.g.ask.opq) := cell_of (w := W5) H5.out.2.2.1
      have e10 : W5.drew.cell? ⟨w2.heap.size, 10, none⟩ = some (.bool v.g.ask.sess) := cell_of (w := W5) H5.out.2.2.1
      have e11 : W5.drew.cell? ⟨w2.heap.size, 11, none⟩ = some (.string v.g.ask.qop) := cell_of (w := W5) H5.out.2.2.1
      have e12 : W5.drew.cell? ⟨w2.heap.size, 12, none⟩ = some (.bool v.g.ask.stale) := cell_of (w := W5) H5.out.2.2.1
      have e13 : W5.drew.cell? ⟨w2.heap.size, 13, none⟩ = some (.slice da dn dc) := cell_of (w := W5) H5.out.2.2.1
      have e14 : W5.drew.cell? ⟨w2.heap.size, 14, none⟩ = some (.int .i64 (cnt + 1)) := cell_of (w := W5) H5.out.2.2.1
      have e15 : W5.drew.cell? ⟨w2.heap.size, 15, none⟩ = some (.slice pa pn pc) := cell_of (w := W5) H5.out.2.2.1
      clear hm3 hbA hrow
      go_region_law (refine step_append_lies ((W5.alloc (.cells #[.bool v.g.org.sec, .string v.g.org.host, .int .i64 v.g.org.port, .bool v.g.proxy, .string v.g.user, .string v.g.pass, .int .i64 v.g.ask.sch, .string v.g.ask.realm, .string v.g.ask.nonce, .string v.g.ask.opq, .bool v.g.ask.sess, .string v.g.ask.qop, .bool v.g.ask.stale, .slice da dn dc, .int .i64 (cnt + 1), .slice pa pn pc] 36)).drew) rfl (.tmp 56) (.tmp 58) 22 rfl B 36 i0 (.agg #[.bool false, .string ⟨#[]⟩, .int .i64 0, .bool false, .string ⟨#[]⟩, .string ⟨#[]⟩, .int .i64 0, .string ⟨#[]⟩, .string ⟨#[]⟩, .string ⟨#[]⟩, .bool false, .string ⟨#[]⟩, .bool false, .slice none 0 0, .int .i64 0, .slice none 0 0]) 16 216 Try.underlying22 hi0 hz0 hz1 hz2 rfl ?_ (.slice (some ⟨g, 0, none⟩) m3 cap) m3 ((G.eraseIdx k).map grCells).flatten ?_ HR.out.1 ⟨W5.heap.size, 0, none⟩ 1 1 [.bool v.g.org.sec, .string v.g.org.host, .int .i64 v.g.org.port, .bool v.g.proxy, .string v.g.user, .string v.g.pass, .int .i64 v.g.ask.sch, .string v.g.ask.realm, .string v.g.ask.nonce, .string v.g.ask.opq, .bool v.g.ask.sess, .string v.g.ask.qop, .bool v.g.ask.stale, .slice da dn dc, .int .i64 (cnt + 1), .slice pa pn pc] ?_ ?_ ?_ ?_ ?_ ?_ ?_ ?_ (W5.heap.size + 1) ?_ ?_; (· omega); (· rfl); (· rfl); (· rfl); (· exact World.news_of_block (cs := #[.bool v.g.org.sec, .string v.g.org.host, .int .i64 v.g.org.port, .bool v.g.proxy, .string v.g.user, .string v.g.pass, .int .i64 v.g.ask.sch, .string v.g.ask.realm, .string v.g.ask.nonce, .string v.g.ask.opq, .bool v.g.ask.sess, .string v.g.ask.qop, .bool v.g.ask.stale, .slice da dn dc, .int .i64 (cnt + 1), .slice pa pn pc]) (t := 36) (fr := (0, 0)) (heap_alloc_new W5 _)); (· exact use_one); (· omega); (· unfold maxLen; have := HM3.out.2; omega); (· have := HM3.out.2; omega); (· have := HR.out.2.size; have := HK.out.2; have := H5.out.2.1.size; omega); (· simp); intro g6 cap6 w6 hown6 hg6 hat6 hlt6; have HF6 := HM3; have b6 : w6.heap[b]? = some (.cells #[(.slice (some ⟨g, 0, none⟩) m3 cap), wv] 52 (0, 0)) := block_other ((HR.out.2.block b (Array.getElem?_eq_some_iff.1 H5.out.1.blk).1).trans H5.out.1.blk) hg6 (H5.out.1.gs.below HR.out.2).typed (by decide); have q6 := cell_of (i := 0) b6; have f6 := free_of b6)
      all_goals as_aux_lemma =>
        have hO6 := (H5.out.1.gs.below HR.out.2).appended (by rw [List.length_map]; exact HM3.out.1) (y := [.bool v.g.org.sec, .string v.g.org.host, .int .i64 v.g.org.port, .bool v.g.proxy, .string v.g.user, .string v.g.pass, .int .i64 v.g.ask.sch, .string v.g.ask.realm, .string v.g.ask.nonce, .string v.g.ask.opq, .bool v.g.ask.sess, .string v.g.ask.qop, .bool v.g.ask.stale, .slice da dn dc, .int .i64 (cnt + 1), .slice pa pn pc]) rfl use_one hown6
        have hL1 : grCells ⟨moreP v.g, v.dv, v.pv⟩ = [.bool v.g.org.sec, .string v.g.org.host, .int .i64 v.g.org.port, .bool v.g.proxy, .string v.g.user, .string v.g.pass, .int .i64 v.g.ask.sch, .string v.g.ask.realm, .string v.g.ask.nonce, .string v.g.ask.opq, .bool v.g.ask.sess, .string v.g.ask.qop, .bool v.g.ask.stale, .slice da dn dc, .int .i64 (cnt + 1), .slice pa pn pc] := by
          unfold grCells moreP
          rw [show v.dv = _ from HVV.out.1, show v.pv = _ from HVV.out.2.1]
          simp only []
          rw [HCN.out]
        rw [← hL1, show [grCells ⟨moreP v.g, v.dv, v.pv⟩] = [(⟨moreP v.g, v.dv, v.pv⟩ : GrV)].map grCells from rfl, ← List.map_append] at hO6
        have hvfit := HK.out.1.gf v (List.mem_of_getElem? HV.out.1)
        have hfit : GrFit (moreP v.g) := ⟨hvfit.1, hvfit.2.1, hvfit.2.2.1, hvfit.2.2.2.1, hvfit.2.2.2.2.1, hvfit.2.2.2.2.2.1, by show _ ≤ v.g.count + 1; have := hvfit.2.2.2.2.2.2; omega⟩
        have hlen : (G.eraseIdx k).length + 1 ≤ 8 := by
          rw [List.length_eraseIdx, if_pos HV.out.2]
          have := HK.out.1.glen
          have := HV.out.2
          omega
        obtain ⟨hW7, hS7⟩ := bank_grants H5.out.1 HR.out.2 hg6 hO6 (fun j hj => by
          have e : g6 = j := by simpa [Value.ownBlock] using hj
          subst e
          rcases hat6 with h | h
          · exact .inl h
          · refine .inr ?_
            rw [h]
            simp) (fun x hx => by
          rcases List.mem_append.1 hx with hx | hx
          · exact ⟨.inl hx, H5.out.1.gf x hx⟩
          · rw [List.mem_singleton.1 hx]
            exact ⟨.inr ⟨(H5.out.2.2.2.2.below HR.out.2).dom, (H5.out.2.2.2.2.below HR.out.2).paths⟩, hfit⟩) (by rw [List.length_append, List.length_singleton]; exact hlen)
        have t6 := (H5.out.1.gs.below HR.out.2).typed
        have hGb6 : w6.heap[w2.heap.size]? = some (.cells #[.bool v.g.org.sec, .string v.g.org.host, .int .i64 v.g.org.port, .bool v.g.proxy, .string v.g.user, .string v.g.pass, .int .i64 v.g.ask.sch, .string v.g.ask.realm, .string v.g.ask.nonce, .string v.g.ask.opq, .bool v.g.ask.sess, .string v.g.ask.qop, .bool v.g.ask.stale, .slice da dn dc, .int .i64 (cnt + 1), .slice pa pn pc] 36 (0, 0)) := (hg6.block _ (Nat.lt_of_lt_of_le (Array.getElem?_eq_some_iff.1 H5.out.2.2.1).1 HR.out.2.size) (fun e => HNE.out.2 e.symm)).trans ((HR.out.2.block _ (Array.getElem?_eq_some_iff.1 H5.out.2.2.1).1).trans H5.out.2.2.1)
        have hR6 : w6.heap[w.heap.size + 1]? = some (.cells #[.bool false, .string ⟨#[]⟩, .int .i64 0, .bool false, .string ⟨#[]⟩, .string ⟨#[]⟩, .int .i64 0, .string ⟨#[]⟩, .string ⟨#[]⟩, .string ⟨#[]⟩, .bool false, .string ⟨#[]⟩, .bool false, .slice none 0 0, .int .i64 0, .slice none 0 0] 36 (0, 0)) := (hg6.block _ (Nat.lt_of_lt_of_le (Array.getElem?_eq_some_iff.1 H5.out.2.2.2.1).1 HR.out.2.size) (fun e => HNE.out.1 e.symm)).trans ((HR.out.2.block _ (Array.getElem?_eq_some_iff.1 H5.out.2.2.2.1).1).trans H5.out.2.2.2.1)
        have hR7 := (Below.heap_setCell w6 ⟨b, 0, none⟩ (.slice (some ⟨g6, 0, none⟩) (m3 + 1) cap6) (w.heap.size + 1) (fun e => hbR e.symm)).trans hR6
        have hGb7 := (Below.heap_setCell w6 ⟨b, 0, none⟩ (.slice (some ⟨g6, 0, none⟩) (m3 + 1) cap6) w2.heap.size (fun e => hbG e.symm)).trans hGb6
        have hne6 : (Value.slice (some ⟨g6, 0, none⟩) (m3 + 1) cap6).ownBlock ≠ some (w.heap.size + 1) := fun e => by
          have e2 : g6 = w.heap.size + 1 := by simpa [Value.ownBlock] using e
          rcases hat6 with h | h
          · rw [e2] at h; exact HNE.out.1 h
          · have := (Array.getElem?_eq_some_iff.1 H5.out.2.2.2.1).1
            omega
        have H7 : Hid (BankW (w6.setCell ⟨b, 0, none⟩ (.slice (some ⟨g6, 0, none⟩) (m3 + 1) cap6)) B b (.slice (some ⟨g6, 0, none⟩) (m3 + 1) cap6) wv (G.eraseIdx k ++ [⟨moreP v.g, v.dv, v.pv⟩]) V ∧ BankStep b (.slice (some ⟨g, 0, none⟩) n cap) wv w (w6.setCell ⟨b, 0, none⟩ (.slice (some ⟨g6, 0, none⟩) (m3 + 1) cap6)) (.slice (some ⟨g6, 0, none⟩) (m3 + 1) cap6) wv ∧ (w6.setCell ⟨b, 0, none⟩ (.slice (some ⟨g6, 0, none⟩) (m3 + 1) cap6)).heap[w.heap.size + 1]? = some (.cells #[.bool false, .string ⟨#[]⟩, .int .i64 0, .bool false, .string ⟨#[]⟩, .string ⟨#[]⟩, .int .i64 0, .string ⟨#[]⟩, .string ⟨#[]⟩, .string ⟨#[]⟩, .bool false, .string ⟨#[]⟩, .bool false, .slice none 0 0, .int .i64 0, .slice none 0 0] 36 (0, 0)) ∧ (Value.slice (some ⟨g6, 0, none⟩) (m3 + 1) cap6).ownBlock ≠ some (w.heap.size + 1)) := ⟨hW7, H5.out.2.1.trans hS7, hR7, hne6⟩
        have hfr := freshG_any ⟨moreP v.g, v.dv, v.pv⟩ B hfit _ (hW7.go _ (List.mem_append_right _ (List.mem_singleton.2 rfl)))
        rw [hL1] at hfr
        have x0 : (w6.setCell ⟨b, 0, none⟩ (.slice (some ⟨g6, 0, none⟩) (m3 + 1) cap6)).cell? ⟨w2.heap.size, 0, none⟩ = some (.bool v.g.org.sec) := cell_of hGb7
        have x1 : (w6.setCell ⟨b, 0, none⟩ (.slice (some ⟨g6, 0, none⟩) (m3 + 1) cap6)).cell? ⟨w2.heap.size, 1, none⟩ = some (.string v.g.org.host) := cell_of hGb7
        have x2 : (w6.setCell ⟨b, 0, none⟩ (.slice (some ⟨g6, 0, none⟩) (m3 + 1) cap6)).cell? ⟨w2.heap.size, 2, none⟩ = some (.int .i64 v.g.org.port) := cell_of hGb7
        have x3 : (w6.setCell ⟨b, 0, none⟩ (.slice (some ⟨g6, 0, none⟩) (m3 + 1) cap6)).cell? ⟨w2.heap.size, 3, none⟩ = some (.bool v.g.proxy) := cell_of hGb7
        have x4 : (w6.setCell ⟨b, 0, none⟩ (.slice (some ⟨g6, 0, none⟩) (m3 + 1) cap6)).cell? ⟨w2.heap.size, 4, none⟩ = some (.string v.g.user) := cell_of hGb7
        have x5 : (w6.setCell ⟨b, 0, none⟩ (.slice (some ⟨g6, 0, none⟩) (m3 + 1) cap6)).cell? ⟨w2.heap.size, 5, none⟩ = some (.string v.g.pass) := cell_of hGb7
        have x6 : (w6.setCell ⟨b, 0, none⟩ (.slice (some ⟨g6, 0, none⟩) (m3 + 1) cap6)).cell? ⟨w2.heap.size, 6, none⟩ = some (.int .i64 v.g.ask.sch) := cell_of hGb7
        have x7 : (w6.setCell ⟨b, 0, none⟩ (.slice (some ⟨g6, 0, none⟩) (m3 + 1) cap6)).cell? ⟨w2.heap.size, 7, none⟩ = some (.string v.g.ask.realm) := cell_of hGb7
        have x8 : (w6.setCell ⟨b, 0, none⟩ (.slice (some ⟨g6, 0, none⟩) (m3 + 1) cap6)).cell? ⟨w2.heap.size, 8, none⟩ = some (.string v.g.ask.nonce) := cell_of hGb7
        have x9 : (w6.setCell ⟨b, 0, none⟩ (.slice (some ⟨g6, 0, none⟩) (m3 + 1) cap6)).cell? ⟨w2.heap.size, 9, none⟩ = some (.string v.g.ask.opq) := cell_of hGb7
        have x10 : (w6.setCell ⟨b, 0, none⟩ (.slice (some ⟨g6, 0, none⟩) (m3 + 1) cap6)).cell? ⟨w2.heap.size, 10, none⟩ = some (.bool v.g.ask.sess) := cell_of hGb7
        have x11 : (w6.setCell ⟨b, 0, none⟩ (.slice (some ⟨g6, 0, none⟩) (m3 + 1) cap6)).cell? ⟨w2.heap.size, 11, none⟩ = some (.string v.g.ask.qop) := cell_of hGb7
        have x12 : (w6.setCell ⟨b, 0, none⟩ (.slice (some ⟨g6, 0, none⟩) (m3 + 1) cap6)).cell? ⟨w2.heap.size, 12, none⟩ = some (.bool v.g.ask.stale) := cell_of hGb7
        have x13 : (w6.setCell ⟨b, 0, none⟩ (.slice (some ⟨g6, 0, none⟩) (m3 + 1) cap6)).cell? ⟨w2.heap.size, 13, none⟩ = some (.slice da dn dc) := cell_of hGb7
        have x14 : (w6.setCell ⟨b, 0, none⟩ (.slice (some ⟨g6, 0, none⟩) (m3 + 1) cap6)).cell? ⟨w2.heap.size, 14, none⟩ = some (.int .i64 (cnt + 1)) := cell_of hGb7
        have x15 : (w6.setCell ⟨b, 0, none⟩ (.slice (some ⟨g6, 0, none⟩) (m3 + 1) cap6)).cell? ⟨w2.heap.size, 15, none⟩ = some (.slice pa pn pc) := cell_of hGb7
        have hHB : Hid (∀ W8, Below (w6.setCell ⟨b, 0, none⟩ (.slice (some ⟨g6, 0, none⟩) (m3 + 1) cap6)).heap.size (w6.setCell ⟨b, 0, none⟩ (.slice (some ⟨g6, 0, none⟩) (m3 + 1) cap6)) W8 → BankW W8 B b (.slice (some ⟨g6, 0, none⟩) (m3 + 1) cap6) wv (G.eraseIdx k ++ [⟨moreP v.g, v.dv, v.pv⟩]) V ∧ BankStep b (.slice (some ⟨g, 0, none⟩) n cap) wv w W8 (.slice (some ⟨g6, 0, none⟩) (m3 + 1) cap6) wv ∧ W8.heap[w.heap.size + 1]? = some (.cells #[.bool false, .string ⟨#[]⟩, .int .i64 0, .bool false, .string ⟨#[]⟩, .string ⟨#[]⟩, .int .i64 0, .string ⟨#[]⟩, .string ⟨#[]⟩, .string ⟨#[]⟩, .bool false, .string ⟨#[]⟩, .bool false, .slice none 0 0, .int .i64 0, .slice none 0 0] 36 (0, 0))) := fun W8 hb8 => ⟨hW7.below hb8, (H5.out.2.1.trans hS7).trans (BankStep.of_below hb8), (hb8.block _ (Array.getElem?_eq_some_iff.1 hR7).1).trans hR7⟩
        have hsz7 : w.heap.size ≤ (w6.setCell ⟨b, 0, none⟩ (.slice (some ⟨g6, 0, none⟩) (m3 + 1) cap6)).heap.size := H7.out.2.1.size
        clear hO6 hL1 hvfit hlen hW7 hS7 t6 hGb6 hR6 hR7 hGb7 hne6 hown6 hg6 hat6 hlt6 b6 q6 f6 e0 e1 e2 e3 e4 e5 e6 e7 e8 e9 e10 e11 e12 e13 e14 e15 q0 q1 hfit
        generalize w6.setCell ⟨b, 0, none⟩ (.slice (some ⟨g6, 0, none⟩) (m3 + 1) cap6) = W7 at hfr hHB hsz7 x0 x1 x2 x3 x4 x5 x6 x7 x8 x9 x10 x11 x12 x13 x14 x15 H7 ⊢
        go_wp2_with fail
        refine hfr.mono ?_
        rintro e w8 ⟨⟨x, rfl, hxg, hxo⟩, hb8⟩
        have H8 := hHB.out w8 hb8
        have HX : Hid (x.g = moreP v.g ∧ GrOwn w8 W7.heap.size x ∧ BankW w8 B b (.slice (some ⟨g6, 0, none⟩) (m3 + 1) cap6) wv (G.eraseIdx k ++ [⟨moreP v.g, v.dv, v.pv⟩]) V ∧ BankStep b (.slice (some ⟨g, 0, none⟩) n cap) wv w w8 (.slice (some ⟨g6, 0, none⟩) (m3 + 1) cap6) wv ∧ w8.heap[w.heap.size + 1]? = some (.cells #[.bool false, .string ⟨#[]⟩, .int .i64 0, .bool false, .string ⟨#[]⟩, .string ⟨#[]⟩, .int .i64 0, .string ⟨#[]⟩, .string ⟨#[]⟩, .string ⟨#[]⟩, .bool false, .string ⟨#[]⟩, .bool false, .slice none 0 0, .int .i64 0, .slice none 0 0] 36 (0, 0))) := ⟨hxg, hxo, H8.1, H8.2.1, H8.2.2⟩
        have hxl := grCells_len x
        obtain ⟨hst, HZ⟩ := res_store H8.2.2 (grCells x) rfl hxo.one
        clear hxg hxo hb8 H8 hfr hHB x0 x1 x2 x3 x4 x5 x6 x7 x8 x9 x10 x11 x12 x13 x14 x15
        go_wp2
        refine bodyPost_ret (v := .tuple #[.agg (grCells x).toArray, errU 0]) (res_cell_tmp (vs := grCells x) rfl rfl rfl Try.isAgg36 Try.sizeOf36 (grCells_len x) HZ.out.1) rfl ?_
        rw [HU2.out]
        exact use_end (r := ((G.map (·.g)).eraseIdx k ++ [moreP v.g], moreP v.g, 0)) (x := x) HX.out.2.2.1 HX.out.2.2.2.1 HX.out.2.2.2.2 H7.out.2.2.2 (by omega) HZ.out.2 (by rw [List.map_append, List.eraseIdx_eq_take_drop_succ, List.eraseIdx_eq_take_drop_succ, List.map_append, List.map_take, List.map_drop]; rfl) HX.out.1 (HX.out.2.1.mono hsz7)
end Go.Proofs.Ytjadmldnpdmamaa

/- gatepostkeep.home; the facts of banked. -/
namespace Go.Proofs.Ytjadmldnpdmamaa
open Go.RowKit
set_option linter.unusedVariables false

/-- 'a.test'. -/
def homeO : OrgV := ⟨true, ⟨#[97, 46, 116, 101, 115, 116]⟩, 443⟩
set_option maxRecDepth 100000 in
set_option maxHeartbeats 2000000 in
theorem home_any (w : World) : Calls Try.prog 31 #[] w fun e w' => e = .returned (.agg #[.bool homeO.sec, .string homeO.host, .int .i64 homeO.port]) ∧ Below w.heap.size w w' := by
  go_enter Try.func31, Try.ntmps31
  go_wp2
  exact bodyPost_ret (v := .agg #[.bool true, .string ⟨#[97, 46, 116, 101, 115, 116]⟩, .int .i64 443]) (res_cell rfl rfl Try.isAgg24 Try.sizeOf24 (vs := [.bool true, .string ⟨#[97, 46, 116, 101, 115, 116]⟩, .int .i64 443]) rfl (heap_alloc_new w _)) rfl ⟨rfl, (Below.refl _ _).alloc (Nat.le_refl _) _⟩
/-- The grant that the fact puts. -/
def bankedG : GrP := ⟨homeO, false, ⟨#[]⟩, ⟨#[]⟩, ⟨1, ⟨#[114]⟩, ⟨#[]⟩, ⟨#[]⟩, false, ⟨#[]⟩, false, []⟩, 0, [⟨#[47, 97, 47]⟩]⟩
theorem banked_put : putL [] bankedG = [bankedG] := rfl
theorem banked_at : findI [bankedG] homeO false ⟨#[47, 97, 47, 98]⟩ = 0 := by decide +kernel
theorem banked_use : useL [bankedG] (findI [bankedG] homeO false ⟨#[47, 97, 47, 98]⟩) = ([moreP bankedG], moreP bankedG, 0) := by
  rw [banked_at]
  rfl
theorem banked_none : findI [moreP bankedG] homeO false ⟨#[47, 99]⟩ = -1 := by decide +kernel
end Go.Proofs.Ytjadmldnpdmamaa

/- The fact: a grant that is used. -/
namespace Go.Proofs.Ytjadmldnpdmamaa
open Go.RowKit
set_option linter.unusedVariables false

theorem strs_none7 (w : World) : Strs w none 0 0 0 [] := ⟨rfl, fun h => absurd h (by omega), fun j x hx => by simp at hx⟩
theorem strs_one7 (w : World) (x : ByteArray) : Strs (w.alloc (.cells #[.string x] 9)) (some ⟨w.heap.size, 0, none⟩) 1 w.heap.size 0 [x] := by
  refine ⟨rfl, fun _ => ⟨rfl, by simp⟩, fun j y hx => ?_⟩
  have hj := (List.getElem?_eq_some_iff.1 hx).1
  simp only [List.length_cons, List.length_nil] at hj
  obtain rfl : j = 0 := by omega
  simp only [List.getElem?_cons_zero, Option.some.injEq] at hx
  subst hx
  exact cell_of (i := 0) (heap_alloc_new w _)
theorem bankedG_fit : GrFit bankedG := by
  refine ⟨?_, ?_, ?_, ⟨?_, ?_, ?_, ?_, ?_, ?_⟩, ?_, ?_, ?_⟩
  · decide
  · decide
  · decide
  · decide
  · decide
  · decide
  · decide
  · decide
  · intro x hx; cases hx
  · decide
  · intro x hx
    rw [show bankedG.paths = [⟨#[47, 97, 47]⟩] from rfl, List.mem_singleton] at hx
    rw [hx]
    decide
  · decide
theorem bank_new (w : World) : BankW (w.alloc (.cells #[.slice none 0 0, .slice none 0 0] 52)) w.heap.size w.heap.size (.slice none 0 0) (.slice none 0 0) [] [] :=
  ⟨heap_alloc_new w _, Nat.le_refl _, ownK_nil _ _ _ _, ownK_nil _ _ _ _, fun v hv => (by cases hv), fun v hv => (by cases hv), fun v hv => (by cases hv), by decide, by decide⟩
theorem step_low {B b : Nat} {gv wv gv' wv' : Value} {G : List GrV} {V : List WtV} {w w' : World} (h : BankW w B b gv wv G V) (hB : B ≤ w.heap.size) (hs : BankStep b gv wv w w' gv' wv') : Below B w w' :=
  hs.below h.low (fun x e => (h.gs.lt _ e).1) (fun x e => (h.ws.lt _ e).1) hB
/-- The grant that the fact has used, by its cells. -/
def useCells (d p : Value) : List Value := [.bool true, .string ⟨#[97, 46, 116, 101, 115, 116]⟩, .int .i64 443, .bool false, .string ⟨#[]⟩, .string ⟨#[]⟩, .int .i64 1, .string ⟨#[114]⟩, .string ⟨#[]⟩, .string ⟨#[]⟩, .bool false, .string ⟨#[]⟩, .bool false, d, .int .i64 1, p]
theorem useCells_of (d p : Value) : grCells ⟨moreP bankedG, d, p⟩ = useCells d p := rfl
def zeCells (d p : Value) : List Value := [.bool false, .string ⟨#[]⟩, .int .i64 0, .bool false, .string ⟨#[]⟩, .string ⟨#[]⟩, .int .i64 0, .string ⟨#[]⟩, .string ⟨#[]⟩, .string ⟨#[]⟩, .bool false, .string ⟨#[]⟩, .bool false, d, .int .i64 0, p]
theorem zeCells_of (d p : Value) : grCells ⟨zeroP, d, p⟩ = zeCells d p := rfl
theorem own_slice {w : World} {B : Nat} {v : GrV} (h : GrOwn w B v) : (∃ p n c, v.dv = .slice p n c) ∧ ∃ p n c, v.pv = .slice p n c := by
  obtain ⟨da, dc, dg, hdv, _⟩ := h.dom.strs
  obtain ⟨pa, pc, pg, hpv, _⟩ := h.paths.strs
  exact ⟨⟨_, _, _, hdv⟩, ⟨_, _, _, hpv⟩⟩
set_option maxRecDepth 100000 in
set_option maxHeartbeats 4000000 in
theorem banked_any (w : World) : Calls Try.prog 9 #[] w fun e w' => e = .returned (.bool true) ∧ Below w.heap.size w w' := by
  have HB0 : Hid (Below w.heap.size w (w.alloc (.cells #[.slice none 0 0, .slice none 0 0] 52)) ∧ BankW (w.alloc (.cells #[.slice none 0 0, .slice none 0 0] 52)) w.heap.size w.heap.size (.slice none 0 0) (.slice none 0 0) [] []) := ⟨(Below.refl _ _).alloc (Nat.le_refl _) _, bank_new w⟩
  go_enter Try.func9, Try.ntmps9
  go_wp2_with fail
  refine (home_any _).mono ?_
  rintro e w1 ⟨rfl, hb1⟩
  have HB1 : Hid (Below w.heap.size w (w1.alloc (.cells #[.string ⟨#[47, 97, 47]⟩] 9)) ∧ BankW (w1.alloc (.cells #[.string ⟨#[47, 97, 47]⟩] 9)) w.heap.size w.heap.size (.slice none 0 0) (.slice none 0 0) [] [] ∧ Strs (w1.alloc (.cells #[.string ⟨#[47, 97, 47]⟩] 9)) (some ⟨w1.heap.size, 0, none⟩) 1 w1.heap.size 0 [⟨#[47, 97, 47]⟩]) := by
    have ha : Below w1.heap.size w1 (w1.alloc (.cells #[.string ⟨#[47, 97, 47]⟩] 9)) := (Below.refl _ _).alloc (Nat.le_refl _) _
    have h0 := HB0.out.1.size
    exact ⟨(HB0.out.1.trans (hb1.mono h0)).trans (ha.mono (Nat.le_trans h0 hb1.size)), (HB0.out.2.below hb1).below ha, strs_one7 _ _⟩
  clear hb1
  go_wp2_with fail
  refine (put_at bankedG bankedG_fit none _ 0 0 1 1 0 0 _ 0 _ (strs_none7 _) HB1.out.2.2 w.heap.size w.heap.size _ _ [] [] HB1.out.2.1 HB1.out.1.size).mono ?_
  rintro e w2 ⟨rfl, gv2, G2, H2⟩
  go_wp2_with fail
  refine (home_any _).mono ?_
  rintro e w3 ⟨rfl, hb3⟩
  have HB3 : Hid (Below w.heap.size w w3 ∧ BankW w3 w.heap.size w.heap.size gv2 (.slice none 0 0) G2 []) := by
    have h2 := step_low HB1.out.2.1 HB1.out.1.size H2.out.2.2
    have hb2 : Below w.heap.size w w2 := HB1.out.1.trans h2
    exact ⟨hb2.trans (hb3.mono hb2.size), H2.out.1.below hb3⟩
  have huse := use_any w3 HB3.out.2 HB3.out.1.size homeO false ⟨#[47, 97, 47, 98]⟩
  have hm : G2.map (·.g) = [bankedG] := H2.out.2.1.trans banked_put
  rw [hm, banked_use] at huse
  clear hb3 H2 hm HB1 HB0
  go_wp2_with fail
  refine huse.mono ?_
  rintro e w4 ⟨⟨⟨xg, xd, xp⟩, rfl, hxg, hxo⟩, gv4, G4, H4⟩
  obtain ⟨⟨d1, d2, d3, hxd⟩, ⟨p1, p2, p3, hxp⟩⟩ := own_slice hxo
  simp only [] at hxg hxd hxp
  subst hxg hxd hxp
  rw [useCells_of]
  unfold useCells
  have HB4 : Hid (Below w.heap.size w (w4.alloc (.cells (useCells (.slice d1 d2 d3) (.slice p1 p2 p3)).toArray 36)) ∧ BankW (w4.alloc (.cells (useCells (.slice d1 d2 d3) (.slice p1 p2 p3)).toArray 36)) w.heap.size w.heap.size gv4 (.slice none 0 0) G4 [] ∧ G4.map (·.g) = [moreP bankedG] ∧ (w4.alloc (.cells (useCells (.slice d1 d2 d3) (.slice p1 p2 p3)).toArray 36)).heap[w4.heap.size]? = some (.cells (useCells (.slice d1 d2 d3) (.slice p1 p2 p3)).toArray 36 (0, 0))) := by
    have ha : Below w4.heap.size w4 (w4.alloc (.cells (useCells (.slice d1 d2 d3) (.slice p1 p2 p3)).toArray 36)) := (Below.refl _ _).alloc (Nat.le_refl _) _
    have h4 := step_low HB3.out.2 HB3.out.1.size H4.out.2.2
    have hb4 : Below w.heap.size w w4 := HB3.out.1.trans h4
    exact ⟨hb4.trans (ha.mono hb4.size), H4.out.1.below ha, H4.out.2.1, heap_alloc_new w4 _⟩
  clear huse hxo H4 HB3
  unfold useCells at HB4
  go_wp2_with fail
  refine (home_any _).mono ?_
  rintro e w5 ⟨rfl, hb5⟩
  have HB5 : Hid (Below w.heap.size w w5 ∧ BankW w5 w.heap.size w.heap.size gv4 (.slice none 0 0) G4 [] ∧ w5.heap[w4.heap.size]? = some (.cells (useCells (.slice d1 d2 d3) (.slice p1 p2 p3)).toArray 36 (0, 0))) :=
    ⟨HB4.out.1.trans (hb5.mono HB4.out.1.size), HB4.out.2.1.below hb5, (hb5.block _ (Array.getElem?_eq_some_iff.1 HB4.out.2.2.2).1).trans HB4.out.2.2.2⟩
  have HM : Hid (G4.map (·.g) = [moreP bankedG]) := HB4.out.2.2.1
  have hfind := find_any w5 HB5.out.2.1 homeO false ⟨#[47, 99]⟩
  rw [HM.out, banked_none] at hfind
  clear hb5 HB4
  go_wp2_with fail
  refine hfind.mono ?_
  rintro e w6 ⟨⟨⟨yg, yd, yp⟩, rfl, hyg, hyo⟩, hb6⟩
  obtain ⟨⟨e1, e2, e3, hyd⟩, ⟨q1, q2, q3, hyp⟩⟩ := own_slice hyo
  simp only [toldL] at hyg
  rw [if_pos (by decide)] at hyg
  simp only [] at hyd hyp
  subst hyg hyd hyp
  rw [zeCells_of]
  unfold zeCells
  have HB6 : Hid (Below w.heap.size w (w6.alloc (.cells (zeCells (.slice e1 e2 e3) (.slice q1 q2 q3)).toArray 36)) ∧ BankW (w6.alloc (.cells (zeCells (.slice e1 e2 e3) (.slice q1 q2 q3)).toArray 36)) w.heap.size w.heap.size gv4 (.slice none 0 0) G4 []) := by
    have ha : Below w6.heap.size w6 (w6.alloc (.cells (zeCells (.slice e1 e2 e3) (.slice q1 q2 q3)).toArray 36)) := (Below.refl _ _).alloc (Nat.le_refl _) _
    have hb : Below w.heap.size w w6 := HB5.out.1.trans (hb6.mono HB5.out.1.size)
    exact ⟨hb.trans (ha.mono hb.size), (HB5.out.2.1.below hb6).below ha⟩
  have hblk : (w6.alloc (.cells (zeCells (.slice e1 e2 e3) (.slice q1 q2 q3)).toArray 36)).heap[w4.heap.size]? = some (.cells (useCells (.slice d1 d2 d3) (.slice p1 p2 p3)).toArray 36 (0, 0)) := by
    have h5 := (hb6.block _ (Array.getElem?_eq_some_iff.1 HB5.out.2.2).1).trans HB5.out.2.2
    exact box_alloc h5 _
  unfold zeCells at HB6 hblk
  have c7 := cell_of (i := 7) hblk
  have c14 := cell_of (i := 14) hblk
  simp only [useCells, List.getElem?_toArray, List.getElem?_cons_zero, List.getElem?_cons_succ] at c7 c14
  have hgr := grants_any _ HB6.out.2
  rw [HM.out] at hgr
  clear hfind hyo hb6 hblk HB5
  rw [show errU 0 = .nilIface from rfl, show decide ((0 : Int) ≤ -1) = false from rfl]
  go_wp2_with fail
  refine hgr.mono ?_
  rintro e w7 ⟨⟨val, us, rfl, h1, h2, h3⟩, hb7⟩
  have hl : us.length = 1 := by have := congrArg List.length h2; rwa [List.length_map] at this
  rcases h1.forms with ⟨_, e0⟩ | ⟨g, cap, rfl, _⟩
  · have := congrArg List.length e0
    rw [List.length_map, hl] at this
    cases this
  · rw [List.length_map, hl]
    have HE : Hid (Below w.heap.size w w7) := HB6.out.1.trans (hb7.mono HB6.out.1.size)
    clear h1 h2 h3 hb7 hgr
    go_wp2
    go_ret
    exact ⟨rfl, HE.out⟩
end Go.Proofs.Ytjadmldnpdmamaa

/- gatepostkeep.filled: a bank into which grants were put, one behind the other. -/
namespace Go.Proofs.Ytjadmldnpdmamaa
open Go.RowKit
set_option linter.unusedVariables false

/-- The grants that a bank has, into which these were put. -/
def putAll (l : List GrP) : List GrP := l.foldl putL []
theorem putAll_snoc (l : List GrP) (g : GrP) : putAll (l ++ [g]) = putL (putAll l) g := by
  unfold putAll
  rw [List.foldl_append]
  rfl
theorem fit_of {g : GrP} (h : GrZ g) (h1 : g.ask.dom.length ≤ 6) (h2 : g.paths.length ≤ 6) : GrFit g := by
  obtain ⟨a1, a2, a3, a4, a5, a6, a7, a8, a9, a10⟩ := h
  exact ⟨a1, a2, a3, ⟨a4, a5, a6, a7, by omega, a8⟩, by omega, a9, a10⟩
set_option maxRecDepth 100000 in
set_option maxHeartbeats 4000000 in
theorem filled_any (a0 : Option Addr) (len cap b off : Nat) (gs : List GrA) (hz : ∀ v ∈ gs, GrZ v.g) (hs : ∀ v ∈ gs, shortB v) (hn : len ≤ 30) (w : World) (h : Grs w a0 len b off gs) :
    Calls Try.prog 11 #[.slice a0 len cap] w fun e w' => e = .returned (.pointer (some ⟨w.heap.size, 0, none⟩)) ∧ Hid ((∃ gv G, BankW w' w.heap.size w.heap.size gv (.slice none 0 0) G [] ∧ G.map (·.g) = putAll (gs.map (·.g))) ∧ Below w.heap.size w w') := by
  have HS : Hid (Grs w a0 len b off gs) := h
  have HZ : Hid ((∀ v ∈ gs, GrZ v.g) ∧ ∀ v ∈ gs, shortB v) := ⟨hz, hs⟩
  have HL : Hid (gs.length = len) := h.len_eq
  have HB0 : Hid (Below w.heap.size w (w.alloc (.cells #[.slice none 0 0, .slice none 0 0] 52)) ∧ BankW (w.alloc (.cells #[.slice none 0 0, .slice none 0 0] 52)) w.heap.size w.heap.size (.slice none 0 0) (.slice none 0 0) [] []) := ⟨(Below.refl _ _).alloc (Nat.le_refl _) _, bank_new w⟩
  clear h hz hs
  go_enter Try.func11, Try.ntmps11
  go_wp2
  go_loopw [4] (fun i wr => ∃ k : Nat, k ≤ len ∧ i = .int .i64 k ∧ Hid ((∃ gv G, BankW wr w.heap.size w.heap.size gv (.slice none 0 0) G [] ∧ G.map (·.g) = putAll ((gs.take k).map (·.g))) ∧ Below w.heap.size w wr)) (fun i _ => len - (intOf i).toNat)
  case atStart => exact ⟨0, Nat.zero_le _, rfl, ⟨_, [], HB0.out.2, rfl⟩, HB0.out.1⟩
  case round =>
    obtain ⟨k, hk, rfl, HI⟩ := hrel
    by_cases hlt : k < len
    · have hkL : (k : Int) < (len : Int) := by omega
      obtain ⟨v, hv⟩ : ∃ v, gs[k]? = some v := ⟨gs[k]'(by have := HL.out; omega), List.getElem?_eq_getElem _⟩
      have hvm : v ∈ gs := List.mem_of_getElem? hv
      obtain ⟨ha0, _⟩ := HS.out.lies (by omega)
      subst ha0
      have hW := HS.out.below HI.out.2
      obtain ⟨c0, c1, c2, c3, c4, c5, c6, c7, c8, c9, c10, c11, c12, c13, c14, c15⟩ := hW.all hv
      obtain ⟨⟨gv, G, hB, hG⟩, hbel⟩ := HI.out
      have hsh := HZ.out.2 v hvm
      have hcall := put_at v.g (fit_of (HZ.out.1 v hvm) hsh.1 hsh.2) v.da v.pa v.g.ask.dom.length v.dc v.g.paths.length v.pc v.db v.doff v.pb v.poff wr (hW.dom v hvm) (hW.paths v hvm) w.heap.size w.heap.size gv (.slice none 0 0) G [] hB hbel.size
      have HST : Hid (putAll ((gs.take (k + 1)).map (·.g)) = putL (putAll ((gs.take k).map (·.g))) v.g) := by
        show _ = _
        obtain ⟨hk1, e1⟩ := List.getElem?_eq_some_iff.1 hv
        rw [List.take_succ_eq_append_getElem hk1, List.map_append, e1]
        exact putAll_snoc _ _
      have HBK : Hid (BankW wr w.heap.size w.heap.size gv (.slice none 0 0) G [] ∧ G.map (·.g) = putAll ((gs.take k).map (·.g)) ∧ Below w.heap.size w wr) := ⟨hB, hG, hbel⟩
      clear hB hG hbel HI hsh
      obtain ⟨⟨⟨os, oh, op⟩, px, us, pw, ⟨sc, re, no, oq, se, qo, st, dm⟩, ct, pt⟩, da, dc, db, doff, pa, pc, pb, poff⟩ := v
      simp only at hcall c0 c1 c2 c3 c4 c5 c6 c7 c8 c9 c10 c11 c12 c13 c14 c15
      clear hv hvm hW
      go_wp2_with fail
      refine hcall.mono ?_
      rintro e w1 ⟨rfl, gv', G', H'⟩
      have HR : Hid ((∃ gv G, BankW w1 w.heap.size w.heap.size gv (.slice none 0 0) G [] ∧ G.map (·.g) = putAll ((gs.take (k + 1)).map (·.g))) ∧ Below w.heap.size w w1) := by
        refine ⟨⟨gv', G', H'.out.1, by rw [H'.out.2.1, HST.out, HBK.out.2.1]⟩, ?_⟩
        exact HBK.out.2.2.trans (step_low HBK.out.1 HBK.out.2.2.size H'.out.2.2)
      clear H' hcall c0 c1 c2 c3 c4 c5 c6 c7 c8 c9 c10 c11 c12 c13 c14 c15
      go_wp2
      go_roundw
      case rel => exact ⟨k + 1, by omega, by go_num, HR.out⟩
      case measure => simp [intOf]; omega
    · have hkL : ¬ (k : Int) < (len : Int) := by omega
      have HE : Hid ((∃ gv G, BankW wr w.heap.size w.heap.size gv (.slice none 0 0) G [] ∧ G.map (·.g) = putAll (gs.map (·.g))) ∧ Below w.heap.size w wr) := by
        have := HI.out
        rw [List.take_of_length_le (by have := HL.out; omega)] at this
        exact this
      go_wp2
      go_ret
      exact ⟨rfl, HE.out⟩
end Go.Proofs.Ytjadmldnpdmamaa

/- The library's contracts that are leant on, laid at this program's numbers. -/
namespace Go.Proofs.Ytjadmldnpdmamaa
open Go.Shelf Go.RowKit
def lays193_ren : Go.Shelf.Ren := ⟨fun | 193 => 50 | n => n, fun | 31 => 32 | 9 => 9 | 4 => 4 | 3 => 3 | 0 => 0 | n => n, fun | n => n⟩
theorem lays193 : Go.Proofs.Lays.n193 Try.prog lays193_ren := {
  mixed := by kernel_rfl
  f193 := Try.func50.trans (congrArg some (by kernel_rfl))
  t0 := Try.underlying0
  a0 := Try.isAgg0
  z0 := Try.sizeOf0
  v0 := Try.zeroValue0
  t3 := Try.underlying3
  a3 := Try.isAgg3
  z3 := Try.sizeOf3
  v3 := Try.zeroValue3
  t4 := Try.underlying4
  a4 := Try.isAgg4
  z4 := Try.sizeOf4
  v4 := Try.zeroValue4
  t9 := Try.underlying9
  a9 := Try.isAgg9
  z9 := Try.sizeOf9
  v9 := Try.zeroValue9
  t31 := Try.underlying32
  a31 := Try.isAgg32
  z31 := Try.sizeOf32
  v31 := Try.zeroValue32 }
end Go.Proofs.Ytjadmldnpdmamaa

/- Two rows of the same texts are equal, by the library's own function. -/
namespace Go.Proofs.Ytjadmldnpdmamaa
open Go.RowKit Go.Shelf

theorem equal_same (a1 a2 : Option Addr) (n c b1 o1 d b2 o2 : Nat) (xs : List ByteArray) (w : World) (hn : n ≤ 1000000) (h1 : Strs w a1 n b1 o1 xs) (h2 : Strs w a2 n b2 o2 xs) :
    Calls Try.prog 50 #[.slice a1 n c, .slice a2 n d] w fun e w' => e = .returned (.bool true) ∧ ∃ q, w' = w.drewN q := by
  by_cases h0 : n = 0
  · subst h0
    refine (Any.slices_Equal_string_empty lays193 a1 a2 c 0 d w (by omega)).mono ?_
    rintro e w' ⟨rfl, rfl⟩
    exact ⟨rfl, 0, rfl⟩
  · obtain ⟨rfl, _⟩ := h1.lies (by omega)
    obtain ⟨rfl, _⟩ := h2.lies (by omega)
    have hl := h1.len_eq
    have hc : ∀ (b o : Nat), (∀ (j : Nat) (x : ByteArray), xs[j]? = some x → w.cell? ⟨b, o + j, none⟩ = some (.string x)) → ∀ j, j < xs.length → w.cell? ⟨b, o + j, none⟩ = some (.string (xs.getD j ByteArray.empty)) := by
      intro b o h j hj
      have : xs[j]? = some xs[j] := List.getElem?_eq_getElem hj
      rw [h j _ this]
      simp [List.getD, this]
    refine (Any.slices_Equal_string lays193 b1 o1 n c b2 o2 n d xs xs w (by omega) (by omega) (by omega) (by omega) (hc b1 o1 h1.cells) (hc b2 o2 h2.cells)).mono ?_
    rintro e w' ⟨rfl, hq⟩
    exact ⟨by simp, hq⟩
end Go.Proofs.Ytjadmldnpdmamaa

/- A world that has drawn an order is the same. -/
namespace Go.Proofs.Ytjadmldnpdmamaa
open Go.RowKit

theorem drewN_at {B : Nat} {a w : World} (h : Below B a w) (n : Nat) : Below B a (w.drewN n) := h.trans ⟨rfl, rfl, rfl, Nat.le_refl _, fun _ _ => rfl⟩
end Go.Proofs.Ytjadmldnpdmamaa

/- sameAsk of what is the same. -/
namespace Go.Proofs.Ytjadmldnpdmamaa
open Go.RowKit
set_option linter.unusedVariables false

set_option maxRecDepth 100000 in
set_option maxHeartbeats 4000000 in
theorem sameAsk_yes (a : AskP) (p q : Option Addr) (n c d pb po qb qo : Nat) (w : World) (hp : Strs w p n pb po a.dom) (hq : Strs w q n qb qo a.dom) (hl : a.dom.length ≤ 1000) :
    Calls Try.prog 21 #[.agg #[.int .i64 a.sch, .string a.realm, .string a.nonce, .string a.opq, .bool a.sess, .string a.qop, .bool a.stale, .slice p n c], .agg #[.int .i64 a.sch, .string a.realm, .string a.nonce, .string a.opq, .bool a.sess, .string a.qop, .bool a.stale, .slice q n d]] w fun e w' => e = .returned (.bool true) ∧ Below w.heap.size w w' := by
  have HB : Hid (_ ∧ _ ∧ _) := boxes2 w #[.int .i64 a.sch, .string a.realm, .string a.nonce, .string a.opq, .bool a.sess, .string a.qop, .bool a.stale, .slice p n c] #[.int .i64 a.sch, .string a.realm, .string a.nonce, .string a.opq, .bool a.sess, .string a.qop, .bool a.stale, .slice q n d] 34 34
  have HS : Hid (_ ∧ _ ∧ _) := ⟨hp, hq, hl⟩
  have c0 := cell_of (i := 0) HB.out.2.1
  have c1 := cell_of (i := 1) HB.out.2.1
  have c2 := cell_of (i := 2) HB.out.2.1
  have c3 := cell_of (i := 3) HB.out.2.1
  have c4 := cell_of (i := 4) HB.out.2.1
  have c5 := cell_of (i := 5) HB.out.2.1
  have c6 := cell_of (i := 6) HB.out.2.1
  have c7 := cell_of (i := 7) HB.out.2.1
  have d0 := cell_of (i := 0) HB.out.2.2
  have d1 := cell_of (i := 1) HB.out.2.2
  have d2 := cell_of (i := 2) HB.out.2.2
  have d3 := cell_of (i := 3) HB.out.2.2
  have d4 := cell_of (i := 4) HB.out.2.2
  have d5 := cell_of (i := 5) HB.out.2.2
  have d6 := cell_of (i := 6) HB.out.2.2
  have d7 := cell_of (i := 7) HB.out.2.2
  simp only [List.getElem?_toArray, List.getElem?_cons_zero, List.getElem?_cons_succ] at c0 c1 c2 c3 c4 c5 c6 c7 d0 d1 d2 d3 d4 d5 d6 d7
  clear hp hq hl
  go_enter Try.func21, Try.ntmps21
  have hn : n ≤ 1000000 := by have := HS.out.1.len_eq; have := HS.out.2.2; omega
  have heq := equal_same p q n c pb po d qb qo a.dom _ hn (HS.out.1.below HB.out.1) (HS.out.2.1.below HB.out.1)
  go_wp2_with fail
  refine heq.mono ?_
  rintro e w1 ⟨rfl, z, rfl⟩
  have HZ : Hid (Below w.heap.size w (((w.alloc (.cells #[.int .i64 a.sch, .string a.realm, .string a.nonce, .string a.opq, .bool a.sess, .string a.qop, .bool a.stale, .slice p n c] 34)).alloc (.cells #[.int .i64 a.sch, .string a.realm, .string a.nonce, .string a.opq, .bool a.sess, .string a.qop, .bool a.stale, .slice q n d] 34)).drewN z)) := drewN_at HB.out.1 z
  clear heq c0 c1 c2 c3 c4 c5 c6 c7 d0 d1 d2 d3 d4 d5 d6 d7
  go_wp2
  go_ret
  exact ⟨rfl, HZ.out⟩
end Go.Proofs.Ytjadmldnpdmamaa

/- sameGrant of what is the same. -/
namespace Go.Proofs.Ytjadmldnpdmamaa
open Go.RowKit
set_option linter.unusedVariables false

theorem eqCred (u p : ByteArray) (w : World) : (Op.equalIn 10000 31 (.agg #[.string u, .string p]) (.agg #[.string u, .string p])).run Try.prog w = .ok true w := by
  have u9 := Try.underlying9
  have hS : Try.prog.underlying 31 = some (.struct (Try.prog.fieldsOf 31)) := by kernel_rfl
  have hp : Try.prog.stoodInHeld 31 = false := by kernel_rfl
  rw [show (10000 : Nat) = 9999 + 1 from rfl, run_equalIn_agg w 9999 31 _ _ hS hp]
  simp only [Program.fieldsOf, Try.underlying31]
  go_simp
theorem orgB_self (o : OrgV) : orgB o o = true := by unfold orgB; simp
set_option maxRecDepth 100000 in
set_option maxHeartbeats 8000000 in
theorem sameGrant_yes (g : GrP) (dp dq pp pq : Option Addr) (n c d pb po qb qo m c' d' rb ro sb so : Nat) (w : World) (hp : Strs w dp n pb po g.ask.dom) (hq : Strs w dq n qb qo g.ask.dom) (hp2 : Strs w pp m rb ro g.paths) (hq2 : Strs w pq m sb so g.paths) (hl : g.ask.dom.length ≤ 1000 ∧ g.paths.length ≤ 1000) :
    Calls Try.prog 20 #[.agg #[.bool g.org.sec, .string g.org.host, .int .i64 g.org.port, .bool g.proxy, .string g.user, .string g.pass, .int .i64 g.ask.sch, .string g.ask.realm, .string g.ask.nonce, .string g.ask.opq, .bool g.ask.sess, .string g.ask.qop, .bool g.ask.stale, .slice dp n c, .int .i64 g.count, .slice pp m c'], .agg #[.bool g.org.sec, .string g.org.host, .int .i64 g.org.port, .bool g.proxy, .string g.user, .string g.pass, .int .i64 g.ask.sch, .string g.ask.realm, .string g.ask.nonce, .string g.ask.opq, .bool g.ask.sess, .string g.ask.qop, .bool g.ask.stale, .slice dq n d, .int .i64 g.count, .slice pq m d']] w fun e w' => e = .returned (.bool true) ∧ Below w.heap.size w w' := by
  have HB : Hid (_ ∧ _ ∧ _) := boxes2 w #[.bool g.org.sec, .string g.org.host, .int .i64 g.org.port, .bool g.proxy, .string g.user, .string g.pass, .int .i64 g.ask.sch, .string g.ask.realm, .string g.ask.nonce, .string g.ask.opq, .bool g.ask.sess, .string g.ask.qop, .bool g.ask.stale, .slice dp n c, .int .i64 g.count, .slice pp m c'] #[.bool g.org.sec, .string g.org.host, .int .i64 g.org.port, .bool g.proxy, .string g.user, .string g.pass, .int .i64 g.ask.sch, .string g.ask.realm, .string g.ask.nonce, .string g.ask.opq, .bool g.ask.sess, .string g.ask.qop, .bool g.ask.stale, .slice dq n d, .int .i64 g.count, .slice pq m d'] 36 36
  have HS : Hid (Strs w dp n pb po g.ask.dom ∧ Strs w dq n qb qo g.ask.dom ∧ Strs w pp m rb ro g.paths ∧ Strs w pq m sb so g.paths ∧ g.ask.dom.length ≤ 1000 ∧ g.paths.length ≤ 1000) := ⟨hp, hq, hp2, hq2, hl⟩
  have c0 := cell_of (i := 0) HB.out.2.1
  have d0 := cell_of (i := 0) HB.out.2.2
  have c1 := cell_of (i := 1) HB.out.2.1
  have d1 := cell_of (i := 1) HB.out.2.2
  have c2 := cell_of (i := 2) HB.out.2.1
  have d2 := cell_of (i := 2) HB.out.2.2
  have c3 := cell_of (i := 3) HB.out.2.1
  have d3 := cell_of (i := 3) HB.out.2.2
  have c4 := cell_of (i := 4) HB.out.2.1
  have d4 := cell_of (i := 4) HB.out.2.2
  have c5 := cell_of (i := 5) HB.out.2.1
  have d5 := cell_of (i := 5) HB.out.2.2
  have c6 := cell_of (i := 6) HB.out.2.1
  have d6 := cell_of (i := 6) HB.out.2.2
  have c7 := cell_of (i := 7) HB.out.2.1
  have d7 := cell_of (i := 7) HB.out.2.2
  have c8 := cell_of (i := 8) HB.out.2.1
  have d8 := cell_of (i := 8) HB.out.2.2
  have c9 := cell_of (i := 9) HB.out.2.1
  have d9 := cell_of (i := 9) HB.out.2.2
  have c10 := cell_of (i := 10) HB.out.2.1
  have d10 := cell_of (i := 10) HB.out.2.2
  have c11 := cell_of (i := 11) HB.out.2.1
  have d11 := cell_of (i := 11) HB.out.2.2
  have c12 := cell_of (i := 12) HB.out.2.1
  have d12 := cell_of (i := 12) HB.out.2.2
  have c13 := cell_of (i := 13) HB.out.2.1
  have d13 := cell_of (i := 13) HB.out.2.2
  have c14 := cell_of (i := 14) HB.out.2.1
  have d14 := cell_of (i := 14) HB.out.2.2
  have c15 := cell_of (i := 15) HB.out.2.1
  have d15 := cell_of (i := 15) HB.out.2.2
  simp only [List.getElem?_toArray, List.getElem?_cons_zero, List.getElem?_cons_succ] at c0 d0 c1 d1 c2 d2 c3 d3 c4 d4 c5 d5 c6 d6 c7 d7 c8 d8 c9 d9 c10 d10 c11 d11 c12 d12 c13 d13 c14 d14 c15 d15
  clear hp hq hp2 hq2 hl
  have e1 := eqOrg g.org g.org true (orgB_self _)
  have e2 := eqCred g.user g.pass
  have hask := sameAsk_yes g.ask dp dq n c d pb po qb qo _ (HS.out.1.below HB.out.1) (HS.out.2.1.below HB.out.1) HS.out.2.2.2.2.1
  go_enter Try.func20, Try.ntmps20
  go_wp2_with fail
  refine hask.mono ?_
  rintro e w1 ⟨rfl, hb1⟩
  have HB1 : Hid (Below w.heap.size w w1 ∧ w1.heap[w.heap.size]? = some (.cells #[.bool g.org.sec, .string g.org.host, .int .i64 g.org.port, .bool g.proxy, .string g.user, .string g.pass, .int .i64 g.ask.sch, .string g.ask.realm, .string g.ask.nonce, .string g.ask.opq, .bool g.ask.sess, .string g.ask.qop, .bool g.ask.stale, .slice dp n c, .int .i64 g.count, .slice pp m c'] 36 (0, 0)) ∧ w1.heap[w.heap.size + 1]? = some (.cells #[.bool g.org.sec, .string g.org.host, .int .i64 g.org.port, .bool g.proxy, .string g.user, .string g.pass, .int .i64 g.ask.sch, .string g.ask.realm, .string g.ask.nonce, .string g.ask.opq, .bool g.ask.sess, .string g.ask.qop, .bool g.ask.stale, .slice dq n d, .int .i64 g.count, .slice pq m d'] 36 (0, 0))) :=
    ⟨HB.out.1.trans (hb1.mono HB.out.1.size), (hb1.block _ (Array.getElem?_eq_some_iff.1 HB.out.2.1).1).trans HB.out.2.1, (hb1.block _ (Array.getElem?_eq_some_iff.1 HB.out.2.2).1).trans HB.out.2.2⟩
  clear hask hb1 HB c0 d0 c1 d1 c2 d2 c3 d3 c4 d4 c5 d5 c6 d6 c7 d7 c8 d8 c9 d9 c10 d10 c11 d11 c12 d12 c13 d13 c14 d14 c15 d15
  have c14 := cell_of (i := 14) HB1.out.2.1
  have c15 := cell_of (i := 15) HB1.out.2.1
  have d14 := cell_of (i := 14) HB1.out.2.2
  have d15 := cell_of (i := 15) HB1.out.2.2
  simp only [List.getElem?_toArray, List.getElem?_cons_zero, List.getElem?_cons_succ] at c14 c15 d14 d15
  have hm : m ≤ 1000000 := by have := HS.out.2.2.1.len_eq; have := HS.out.2.2.2.2.2; omega
  have heq := equal_same pp pq m c' rb ro d' sb so g.paths w1 hm (HS.out.2.2.1.below HB1.out.1) (HS.out.2.2.2.1.below HB1.out.1)
  go_wp2_with fail
  refine heq.mono ?_
  rintro e w2 ⟨rfl, z, rfl⟩
  have HZ : Hid (Below w.heap.size w (w1.drewN z)) := drewN_at HB1.out.1 z
  clear heq c14 c15 d14 d15
  go_wp2
  go_ret
  exact ⟨rfl, HZ.out⟩
end Go.Proofs.Ytjadmldnpdmamaa

/- slices.EqualFunc of two rows of grants of which each two are the same. -/
namespace Go.Proofs.Ytjadmldnpdmamaa
open Go.RowKit
set_option linter.unusedVariables false

set_option maxRecDepth 100000 in
set_option maxHeartbeats 4000000 in
theorem eqf_of (P : Program) (hf : P.funcs[19]? = some Try.f19)
    (tS : P.underlying 22 = some (TypeDesc.slice 36)) (aS : ∀ w, (isAgg 22).run P w = .ok false w) (zS : ∀ w, (Go.sizeOf 22).run P w = .ok 1 w)
    (t3 : P.underlying 3 = some (TypeDesc.int IntKind.i64)) (a3 : ∀ w, (isAgg 3).run P w = .ok false w) (z3 : ∀ w, (Go.sizeOf 3).run P w = .ok 1 w) (v3 : ∀ w, (zeroValue 3).run P w = .ok (Value.int IntKind.i64 0) w)
    (t4 : P.underlying 4 = some TypeDesc.bool) (a4 : ∀ w, (isAgg 4).run P w = .ok false w) (z4 : ∀ w, (Go.sizeOf 4).run P w = .ok 1 w)
    (k : Nat) (hk0 : 0 < k) (aE : ∀ w, (isAgg 36).run P w = .ok true w) (zE : ∀ w, (Go.sizeOf 36).run P w = .ok k w) (zc : Array Value) (vE : ∀ w, (zeroValue 36).run P w = .ok (.agg zc) w) (hzc : zc.size = k)
    (g n cap B : Nat) (xs ys : List (List Value)) (hn : xs.length = n) (hn2 : ys.length = n) (hbig : n ≤ 1000) (w : World) (hown : OwnK k 36 w B (.slice (some ⟨g, 0, none⟩) n cap) xs)
    (g2 cap2 B2 : Nat) (hown2 : OwnK k 36 w B2 (.slice (some ⟨g2, 0, none⟩) n cap2) ys)
    (fn : Nat) (eg : ∀ args w, (callFunc fn args).run P w = .ok (.enter fn args) w)
    (hm : ∀ W (j : Nat) x y, xs[j]? = some x → ys[j]? = some y → Below w.heap.size w W → Calls P fn #[.agg x.toArray, .agg y.toArray] W fun e w' => e = .returned (.bool true) ∧ Below W.heap.size W w') :
    Calls P 19 #[.slice (some ⟨g, 0, none⟩) n cap, .slice (some ⟨g2, 0, none⟩) n cap2, .func (.func fn) #[] #[]] w fun e w' => e = .returned (.bool true) ∧ Below w.heap.size w w' := by
  have HO : Hid (OwnK k 36 w B (.slice (some ⟨g, 0, none⟩) n cap) xs ∧ OwnK k 36 w B2 (.slice (some ⟨g2, 0, none⟩) n cap2) ys) := ⟨hown, hown2⟩
  have HN : Hid (xs.length = n ∧ ys.length = n) := ⟨hn, hn2⟩
  have HM : Hid (∀ W (j : Nat) x y, xs[j]? = some x → ys[j]? = some y → Below w.heap.size w W → Calls P fn #[.agg x.toArray, .agg y.toArray] W fun e w' => e = .returned (.bool true) ∧ Below W.heap.size W w') := hm
  have HZ : Hid (zc.size = k) := hzc
  clear hown hown2 hn hn2 hm hzc
  go_enter hf, Try.ntmps19
  go_wp2
  go_loopw [17] (fun i wr => ∃ kk : Nat, kk ≤ n ∧ i = .int .i64 kk ∧ Hid (Below w.heap.size w wr)) (fun i _ => n - (intOf i).toNat)
  case atStart => exact ⟨0, Nat.zero_le _, rfl, Below.refl _ _⟩
  case round =>
    obtain ⟨kk, hkk, rfl, HI⟩ := hrel
    by_cases hlt : kk < n
    · have hltz : (kk : Int) < (n : Int) := by omega
      obtain ⟨x, hx⟩ : ∃ x, xs[kk]? = some x := ⟨xs[kk]'(by have := HN.out; omega), List.getElem?_eq_getElem _⟩
      obtain ⟨y, hy⟩ : ∃ y, ys[kk]? = some y := ⟨ys[kk]'(by have := HN.out; omega), List.getElem?_eq_getElem _⟩
      have hxl : x.length = k := HO.out.1.len x (List.mem_of_getElem? hx)
      have hyl : y.length = k := HO.out.2.len y (List.mem_of_getElem? hy)
      have hx1 : ∀ u ∈ x, u.oneCell' = true := HO.out.1.one x (List.mem_of_getElem? hx)
      have hy1 : ∀ u ∈ y, u.oneCell' = true := HO.out.2.one y (List.mem_of_getElem? hy)
      have l1 := (HO.out.1.below HI.out).load P hx
      have hb1 : Below wr.heap.size wr (wr.alloc (.cells x.toArray 36)) := (Below.refl _ _).alloc (Nat.le_refl _) _
      have s1 := run_boxed P wr zc 36 x (by rw [HZ.out, hxl]) hx1
      have HB1 : Hid (Below w.heap.size w (wr.alloc (.cells x.toArray 36))) := HI.out.trans (hb1.mono HI.out.size)
      have l2 := (HO.out.2.below HB1.out).load P hy
      have hb2 : Below (wr.alloc (.cells x.toArray 36)).heap.size (wr.alloc (.cells x.toArray 36)) ((wr.alloc (.cells x.toArray 36)).alloc (.cells y.toArray 36)) := (Below.refl _ _).alloc (Nat.le_refl _) _
      have s2 := run_boxed P (wr.alloc (.cells x.toArray 36)) zc 36 y (by rw [HZ.out, hyl]) hy1
      have l3 := run_unboxed P (w := wr.alloc (.cells x.toArray 36)) (w' := (wr.alloc (.cells x.toArray 36)).alloc (.cells y.toArray 36)) (b := wr.heap.size) hxl (heap_alloc_new wr _) hb2
      have l4 := run_unboxed P (w := (wr.alloc (.cells x.toArray 36)).alloc (.cells y.toArray 36)) (w' := (wr.alloc (.cells x.toArray 36)).alloc (.cells y.toArray 36)) (b := (wr.alloc (.cells x.toArray 36)).heap.size) hyl (heap_alloc_new _ _) (Below.refl _ _)
      have HB2 : Hid (Below w.heap.size w ((wr.alloc (.cells x.toArray 36)).alloc (.cells y.toArray 36))) := HB1.out.trans (hb2.mono HB1.out.size)
      have hcall := HM.out _ kk x y hx hy HB2.out
      have hxa : x.toArray.size = k := by simp [hxl]
      have hya : y.toArray.size = k := by simp [hyl]
      clear hx hy hb1 hb2 hx1 hy1
      generalize hWX : wr.alloc (.cells x.toArray 36) = WX at s1 l2 l3 l4 s2 HB1 HB2 hcall
      generalize hWY : WX.alloc (.cells y.toArray 36) = WY at s2 l3 l4 HB2 hcall
      go_wp2_with (go_at_fn fn; refine hcall.mono ?_; rintro e w2 ⟨rfl, hb3⟩)
      go_roundw
      case rel => exact ⟨kk + 1, by omega, by go_num, HB2.out.trans (hb3.mono HB2.out.size)⟩
      case measure => simp [intOf]; omega
    · have hltz : ¬ (kk : Int) < (n : Int) := by omega
      go_wp2
      go_ret
      exact ⟨rfl, HI.out⟩
set_option maxHeartbeats 2000000 in
theorem eqf_zero (w : World) (p q : Option Addr) (c d : Nat) (F : Value) : Calls Try.prog 19 #[.slice p 0 c, .slice q 0 d, F] w fun e w' => e = .returned (.bool true) ∧ w' = w := by
  go_enter Try.func19, Try.ntmps19
  go_wp2
  refine wp_loop_rounds 1 ?_
  rw [rounds_succ]
  go_wp2
  go_ret
  exact ⟨rfl, rfl⟩
/-- Two rows of the same grants are equal, each two by sameGrant. -/
theorem eqf_same (v1 v2 : Value) (us vs : List GrV) (B B2 : Nat) (w : World) (h1 : OwnK 16 36 w B v1 (us.map grCells)) (h2 : OwnK 16 36 w B2 v2 (vs.map grCells)) (hs : us.map (·.g) = vs.map (·.g)) (ho1 : ∀ u ∈ us, GrOwn w B u) (ho2 : ∀ v ∈ vs, GrOwn w B2 v)
    (hd : ∀ v ∈ vs, v.g.ask.dom.length ≤ 1000 ∧ v.g.paths.length ≤ 1000) (hl : vs.length ≤ 1000) :
    Calls Try.prog 19 #[v1, v2, .func (.func 20) #[] #[]] w fun e w' => e = .returned (.bool true) ∧ Below w.heap.size w w' := by
  have hlen : us.length = vs.length := by have := congrArg List.length hs; rwa [List.length_map, List.length_map] at this
  rcases h1.forms with ⟨e1, e2⟩ | ⟨g, cap, e1, _, _, _, _⟩
  · subst e1
    have hu : us = [] := List.map_eq_nil_iff.1 e2
    have hv : vs.length = 0 := by rw [← hlen, hu]; rfl
    rcases h2.forms with ⟨f1, _⟩ | ⟨g2, cap2, f1, _, _, _, _⟩
    · subst f1
      refine (eqf_zero w _ _ _ _ _).mono ?_
      rintro e w' ⟨rfl, rfl⟩
      exact ⟨rfl, Below.refl _ _⟩
    · rw [List.length_map, hv] at f1
      subst f1
      refine (eqf_zero w _ _ _ _ _).mono ?_
      rintro e w' ⟨rfl, rfl⟩
      exact ⟨rfl, Below.refl _ _⟩
  · rcases h2.forms with ⟨f1, f2⟩ | ⟨g2, cap2, f1, _, _, _, _⟩
    · subst f1
      have hv : vs = [] := List.map_eq_nil_iff.1 f2
      rw [List.length_map, hlen, hv] at e1
      subst e1
      refine (eqf_zero w _ _ _ _ _).mono ?_
      rintro e w' ⟨rfl, rfl⟩
      exact ⟨rfl, Below.refl _ _⟩
    · rw [List.length_map, hlen] at e1
      rw [List.length_map] at f1
      subst e1 f1
      refine eqf_of Try.prog Try.func19 Try.underlying22 Try.isAgg22 Try.sizeOf22 Try.underlying3 Try.isAgg3 Try.sizeOf3 Try.zeroValue3 Try.underlying4 Try.isAgg4 Try.sizeOf4 16 (by omega) Try.isAgg36 Try.sizeOf36 _ Try.zeroValue36 rfl g _ cap B _ _ (by rw [List.length_map, hlen]) (by rw [List.length_map]) hl w h1 g2 cap2 B2 h2 20 (enters_at Try.func20 (by kernel_rfl) rfl) (fun W j x y hx hy hb => ?_)
      rw [List.getElem?_map] at hx hy
      obtain ⟨u, hu, rfl⟩ := Option.map_eq_some_iff.1 hx
      obtain ⟨v, hv, rfl⟩ := Option.map_eq_some_iff.1 hy
      have hg : u.g = v.g := by
        have := congrArg (fun l : List GrP => l[j]?) hs
        simp only [List.getElem?_map, hu, hv, Option.map_some, Option.some.injEq] at this
        exact this
      obtain ⟨da, dc, dg, hdv, hds⟩ := ((ho1 u (List.mem_of_getElem? hu)).below hb).dom.strs
      obtain ⟨pa, pc, pg, hpv, hps⟩ := ((ho1 u (List.mem_of_getElem? hu)).below hb).paths.strs
      obtain ⟨ea, ec, eg, hev, hes⟩ := ((ho2 v (List.mem_of_getElem? hv)).below hb).dom.strs
      obtain ⟨qa, qc, qg, hqv, hqs⟩ := ((ho2 v (List.mem_of_getElem? hv)).below hb).paths.strs
      rw [hg] at hdv hds hpv hps
      have hc := sameGrant_yes v.g da ea pa qa _ dc ec dg 0 eg 0 _ pc qc pg 0 qg 0 W hds hes hps hqs (hd v (List.mem_of_getElem? hv))
      rw [← hdv, ← hev, ← hpv, ← hqv] at hc
      unfold grCells
      rw [hg]
      exact hc
end Go.Proofs.Ytjadmldnpdmamaa

/- Rows of a call's own that hold the same grants. -/
namespace Go.Proofs.Ytjadmldnpdmamaa
open Go.RowKit
set_option linter.unusedVariables false

theorem fit_small {g : GrP} (h : GrFit g) : g.ask.dom.length ≤ 1000 ∧ g.paths.length ≤ 1000 := ⟨h.2.2.2.1.2.2.2.2.1, h.2.2.2.2.1⟩
/-- Rows of a call's own that hold the same grants. -/
structure RowG (w : World) (B : Nat) (v : Value) (us : List GrV) (l : List GrP) : Prop where
  own : OwnK 16 36 w B v (us.map grCells)
  is : us.map (·.g) = l
  each : ∀ u ∈ us, GrOwn w B u
theorem RowG.below {w w' : World} {B : Nat} {v : Value} {us : List GrV} {l : List GrP} (h : RowG w B v us l) (hb : Below w.heap.size w w') : RowG w' B v us l := ⟨h.own.below hb, h.is, fun u hu => (h.each u hu).below hb⟩
theorem eqf_rows {v1 v2 : Value} {us vs : List GrV} {B B2 : Nat} {l : List GrP} (w : World) (h1 : RowG w B v1 us l) (h2 : RowG w B2 v2 vs l) (hf : ∀ g ∈ l, g.ask.dom.length ≤ 1000 ∧ g.paths.length ≤ 1000) (hl : l.length ≤ 1000) :
    Calls Try.prog 19 #[v1, v2, .func (.func 20) #[] #[]] w fun e w' => e = .returned (.bool true) ∧ Below w.heap.size w w' :=
  eqf_same v1 v2 us vs B B2 w h1.own h2.own (h1.is.trans h2.is.symm) h1.each h2.each (fun v hv => hf v.g (by rw [← h2.is]; exact List.mem_map.2 ⟨v, hv, rfl⟩)) (by rw [← List.length_map (f := (·.g)), h2.is]; exact hl)
theorem row_keep {w w' : World} {B : Nat} {t : TypeId} {k : Nat} {v : Value} {n : Nat} {us : List Value} (h : w.ownsRow B t k v n us) (hk : ∀ x, B ≤ x → x < w.heap.size → w'.heap[x]? = w.heap[x]?) : w'.ownsRow B t k v n us := by
  refine ⟨h.1, ?_⟩
  rcases h.2 with h0 | ⟨g, cap, cur, e, hB, hh, hr⟩
  · exact .inl h0
  · exact .inr ⟨g, cap, cur, e, hB, (hk g hB (Array.getElem?_eq_some_iff.1 hh).1).trans hh, hr⟩
theorem RowG.keep {w w' : World} {B : Nat} {v : Value} {us : List GrV} {l : List GrP} (h : RowG w B v us l) (hk : ∀ x, B ≤ x → x < w.heap.size → w'.heap[x]? = w.heap[x]?) : RowG w' B v us l :=
  ⟨⟨row_keep h.own.row hk, h.own.len, h.own.one⟩, h.is, fun u hu => ⟨row_keep (h.each u hu).dom hk, row_keep (h.each u hu).paths hk⟩⟩
theorem RowG.step {w w' : World} {B b : Nat} {v gv wv gv' wv' : Value} {us : List GrV} {l : List GrP} (h : RowG w B v us l) (hs : BankStep b gv wv w w' gv' wv') (hb : b < B) (hg : ∀ x, gv.ownBlock = some x → x < B) (hw : ∀ x, wv.ownBlock = some x → x < B) : RowG w' B v us l :=
  h.keep fun x hx hl => (hs.keep x hl (by omega) (fun e => by have := hg x e; omega) (fun e => by have := hw x e; omega)).1
end Go.Proofs.Ytjadmldnpdmamaa

/- A bank's waits, cloned. -/
namespace Go.Proofs.Ytjadmldnpdmamaa
open Go.RowKit
set_option linter.unusedVariables false

theorem freshW_any (v : WtV) (B : Nat) (hfit : WtFit v.g) (w : World) (h : WtOwn w B v) :
    Calls Try.prog 37 #[.agg (wtCells v).toArray] w fun e w' => (∃ u : WtV, e = .returned (.agg (wtCells u).toArray) ∧ u.g = v.g ∧ WtOwn w' w.heap.size u) ∧ Below w.heap.size w w' := by
  obtain ⟨da, dc, dg, hdv, hds⟩ := OwnS.strs h
  have hc := freshW_at v.g hfit da _ dc dg 0 w hds
  rw [← hdv] at hc
  refine hc.mono ?_
  rintro e w' ⟨⟨a, rfl, h1⟩, hb⟩
  exact ⟨⟨⟨v.g, a⟩, rfl, rfl, h1⟩, hb⟩
theorem stays_ownW (B : Nat) : Stays 38 (fun W (u : WtV) => WtOwn W B u) := fun W W' row u hg ht h => OwnS.other h hg ht (by decide)
set_option maxHeartbeats 2000000 in
theorem ech_noneW (w : World) (F : Value) : Calls Try.prog 51 #[.slice none 0 0, F] w fun e w' => e = .returned (.slice none 0 0) ∧ w' = w := by
  go_enter Try.func51, Try.ntmps51
  go_wp2
  refine wp_loop_rounds 1 ?_
  rw [rounds_succ]
  go_wp2
  go_ret
  exact ⟨rfl, rfl⟩
theorem infoWE : (Try.prog.info? 38).map (fun i => (i.zero, i.size, i.bytes)) = some (some (.agg #[.bool false, .string ⟨#[]⟩, .int .i64 0, .bool false, .string ⟨#[]⟩, .int .i64 0, .string ⟨#[]⟩, .string ⟨#[]⟩, .string ⟨#[]⟩, .bool false, .string ⟨#[]⟩, .bool false, .slice none 0 0]), 13, 168) := by kernel_rfl
/-- Grants handed out. -/
def WtsAns (l : List WtP) (B : Nat) (e : Ending) (w' : World) : Prop := ∃ (val : Value) (us : List WtV), e = .returned val ∧ OwnK 13 38 w' B val (us.map wtCells) ∧ us.map (·.g) = l ∧ ∀ u ∈ us, WtOwn w' B u
theorem each_anyW (gv : Value) (B : Nat) (V : List WtV) (hl : V.length ≤ 1000) (w : World) (hown : OwnK 13 38 w B gv (V.map wtCells)) (hgo : ∀ v ∈ V, WtOwn w B v) (hgf : ∀ v ∈ V, WtFit v.g) :
    Calls Try.prog 51 #[gv, .func (.func 37) #[] #[]] w fun e w' => WtsAns (V.map (·.g)) w.heap.size e w' ∧ Below w.heap.size w w' := by
  rcases hown.forms with ⟨rfl, e2⟩ | ⟨g, cap, rfl, _, _, _, _⟩
  · obtain rfl : V = [] := List.map_eq_nil_iff.1 e2
    refine (ech_noneW w _).mono ?_
    rintro e w' ⟨rfl, rfl⟩
    exact ⟨⟨_, [], rfl, ownK_nil _ _ _ _, rfl, fun u hu => (by cases hu)⟩, Below.refl _ _⟩
  · rw [List.length_map] at hown ⊢
    obtain ⟨i0, hi0, hz0, hz1, hz2⟩ := info_parts infoWE
    refine (echW_of Try.prog Try.func51 (by kernel_rfl) Try.underlying50 Try.isAgg50 Try.sizeOf50 Try.underlying3 Try.isAgg3 Try.sizeOf3 Try.zeroValue3 Try.underlying4 Try.isAgg4 Try.sizeOf4 13 (by omega) (by omega) Try.isAgg38 Try.sizeOf38 _ Try.zeroValue38 rfl (by decide) i0 hi0 hz1 hz0 168 hz2 (by omega) wtCells (fun v : WtV => v.g) wtCells_len (fun W (u : WtV) => WtOwn W w.heap.size u) (stays_ownW _) (fun W u hu => wtOwn_one hu) g _ cap B V rfl hl w hown 37 (enters_at Try.func37 (by kernel_rfl) rfl) (fun W v hv hb => ?_)).mono ?_
    · refine (freshW_any v B (hgf v hv) W (OwnS.below (hgo v hv) hb)).mono ?_
      rintro e w' ⟨⟨u, rfl, hu, ho⟩, hb2⟩
      exact ⟨⟨u, rfl, hu, ownS_mono ho hb.size⟩, hb2⟩
    · rintro e w' ⟨⟨val, us, rfl, h1, h2, h3⟩, hb⟩
      exact ⟨⟨val, us, rfl, h1, h2, h3⟩, hb⟩
set_option maxHeartbeats 2000000 in
theorem waits_any {B b : Nat} {gv wv : Value} {G : List GrV} {V : List WtV} (w : World) (h : BankW w B b gv wv G V) (hwf : ∀ v ∈ V, WtFit v.g) :
    Calls Try.prog 22 #[.pointer (some ⟨b, 0, none⟩)] w fun e w' => WtsAns (V.map (·.g)) w.heap.size e w' ∧ Below w.heap.size w w' := by
  have hc := cell_of (i := 1) h.blk
  simp only [List.getElem?_toArray, List.getElem?_cons_zero, List.getElem?_cons_succ] at hc
  have he := each_anyW wv B V (by have := h.vlen; omega) w h.ws h.wo hwf
  have HL : Hid (BankW w B b gv wv G V) := h
  clear h
  go_enter Try.func22, Try.ntmps22
  go_wp2_with fail
  refine he.mono ?_
  rintro e w1 ⟨⟨val, us, rfl, h1, h2, h3⟩, hb⟩
  go_wp2
  go_ret
  exact ⟨⟨val, us, rfl, h1, h2, h3⟩, hb⟩
end Go.Proofs.Ytjadmldnpdmamaa
