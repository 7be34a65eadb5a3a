/- What both sums need: arrays of words by value, the tables, what a round of each makes of its words. -/
import Derived.Test.YtooaiamfbmjmnaaFmtTurn
namespace Go.Proofs.YtooaiamfbmjmnaaFmt
open Go.RowKit

def encU (l : List Nat) : Array Value := (l.map fun (n : Nat) => Value.int .u32 (n : Int)).toArray
theorem encU_size (l : List Nat) : (encU l).size = l.length := by simp [encU]
def Cells (w : World) (B : Nat) (L : List UInt8) : Prop := ∀ j (h : j < L.length), w.cell? ⟨B, j, none⟩ = some (.int .u8 (L[j].toNat : Int))
def Sines (w : World) : Prop := (∀ i, i < 64 → w.cell? ⟨2, i, none⟩ = some (.int .u32 ((sinesL.getD i 0 : Nat) : Int))) ∧ 2 < w.heap.size
def Is4 (a b c d : Int) (v : Four) : Prop := a = v.a ∧ b = v.b ∧ c = v.c ∧ d = v.d
theorem Cells.below {w w' : World} {B : Nat} {L : List UInt8} (h : Cells w B L) {H : Nat} (hb : Below H w w') (hB : B < H) : Cells w' B L := by
  intro j hj
  rw [← h j hj]
  simp only [World.cell?, hb.block B hB]

theorem quietCall {P : Program} {f : FuncId} {args : Array Value} {w : World} {m n : Nat} {v : Value} (h : Calls P f args (w.drewN (m + n)) fun e w' => e = .returned v ∧ w' = w.drewN (m + n)) : Calls P f args (w.drewN (m + n)) fun e w'' => e = .returned v ∧ ∃ k, w'' = w.drewN (m + k) :=
  h.mono fun _ _ ⟨he, hm⟩ => ⟨he, n, hm⟩
theorem Cells.drewN {w : World} {B : Nat} {L : List UInt8} (h : Cells w B L) (k : Nat) : Cells (w.drewN k) B L := h.below (below_drewN (Below.refl (B + 1) w) k) (by omega)
theorem sines_lt (i : Nat) (h : i < 64) : sinesL.getD i 0 < 4294967296 := by
  have : ∀ i : Fin 64, sinesL.getD i.val 0 < 4294967296 := by decide
  exact this ⟨i, h⟩

theorem md5_next (L : List UInt8) (o i : Nat) (xa xb xc xd f z nn kk T R : Int) (p y : Nat) (v : Four) (hJ : Is4 xa xb xc xd v) (hf : f = md5F i v) (hz : z = ((sinesL.getD i 0 : Nat) : Int)) (hn : nn = ((wordAt true L (o + p) : Nat) : Int)) (hp : p = 4 * y) (hy : y = md5G i) (hk : kk = (turnAt i : Int)) (hT : (f + xa + z + nn) % 4294967296 = T) (hR : R = rolN T.toNat kk.toNat) : Is4 xd ((xb + R) % 4294967296) xb xc (md5Step L o i v) := by
  obtain ⟨rfl, rfl, rfl, rfl⟩ := hJ
  refine ⟨rfl, ?_, rfl, rfl⟩
  have e : T.toNat = md5T L o i v := by
    rw [md5T, ← hT, hf, hz, hn, hp, hy]
    omega
  rw [hR, e, hk, md5Step]
  simp
theorem rol_bounds (T kk : Int) (h0 : 0 ≤ T) (h1 : T < 4294967296) (k0 : 0 ≤ kk) (k1 : kk ≤ 31) : ∃ R : Int, 0 ≤ R ∧ R < 4294967296 ∧ Hid (R = rolN T.toNat kk.toNat) := by
  have := rolN_lt T.toNat kk.toNat (by omega) (by omega)
  exact ⟨rolN T.toNat kk.toNat, by omega, by omega, rfl⟩

def Begin (w : World) : Prop := (∀ i, i < 8 → w.cell? ⟨0, i, none⟩ = some (.int .u32 ((beginL.getD i 0 : Nat) : Int))) ∧ 0 < w.heap.size
def Roots (w : World) : Prop := (∀ i, i < 64 → w.cell? ⟨1, i, none⟩ = some (.int .u32 ((rootsL.getD i 0 : Nat) : Int))) ∧ 1 < w.heap.size
theorem begin_lt (i : Nat) (h : i < 8) : beginL.getD i 0 < 4294967296 := by
  have : ∀ i : Fin 8, beginL.getD i.val 0 < 4294967296 := by decide
  exact this ⟨i, h⟩
theorem shaAdd_length (u v : List Nat) : (shaAdd u v).length = 8 := by simp [shaAdd]
theorem shaAdd_at (u v : List Nat) (j : Nat) (h : j < 8) : (shaAdd u v).getD j 0 = (u.getD j 0 + v.getD j 0) % 4294967296 := by
  simp [shaAdd, List.getD_eq_getElem?_getD, List.getElem?_map, List.getElem?_range h]
theorem shaBlocks_length (L : List UInt8) : ∀ k, (shaBlocks L k).length = 8
  | 0 => rfl
  | _ + 1 => shaAdd_length _ _
theorem shaBlocks_lt (L : List UInt8) (k j : Nat) (h : j < 8) : (shaBlocks L k).getD j 0 < 4294967296 := by
  cases k with
  | zero => exact begin_lt j h
  | succ k =>
    rw [shaBlocks, shaAdd_at _ _ j h]
    exact Nat.mod_lt _ (by decide)
theorem Cells.block {w w' : World} {B : Nat} {L : List UInt8} (h : Cells w B L) (hb : w'.heap[B]? = w.heap[B]?) : Cells w' B L := by
  intro j hj
  rw [← h j hj]
  simp only [World.cell?, hb]

def shaNew (L : List UInt8) (p i : Nat) : Nat := if i < 16 then wordAt false L (p + 4 * i) else
  ((shaW L p i).getD (i - 16) 0 + (shaW L p i).getD (i - 7) 0 + (rorN ((shaW L p i).getD (i - 15) 0) 7 ^^^ rorN ((shaW L p i).getD (i - 15) 0) 18 ^^^ (shaW L p i).getD (i - 15) 0 / 8) + (rorN ((shaW L p i).getD (i - 2) 0) 17 ^^^ rorN ((shaW L p i).getD (i - 2) 0) 19 ^^^ (shaW L p i).getD (i - 2) 0 / 1024)) % 4294967296
theorem shaW_succ (L : List UInt8) (p i : Nat) : shaW L p (i + 1) = shaW L p i ++ [shaNew L p i] := rfl
theorem shaNew_lt (L : List UInt8) (p i : Nat) : shaNew L p i < 4294967296 := by
  unfold shaNew
  split
  · exact wordAt_lt _ _ _
  · exact Nat.mod_lt _ (by decide)
theorem shaW_length (L : List UInt8) (p : Nat) : ∀ i, (shaW L p i).length = i
  | 0 => rfl
  | i + 1 => by rw [shaW_succ, List.length_append, shaW_length L p i]; rfl
theorem shaW_lt (L : List UInt8) (p : Nat) : ∀ i j, (shaW L p i).getD j 0 < 4294967296
  | 0, j => by simp [shaW]
  | i + 1, j => by
    rw [shaW_succ, List.getD_eq_getElem?_getD]
    by_cases h : j < i
    · rw [List.getElem?_append_left (by rw [shaW_length]; exact h), ← List.getD_eq_getElem?_getD]
      exact shaW_lt L p i j
    · rw [List.getElem?_append_right (by rw [shaW_length]; omega), shaW_length]
      by_cases h2 : j = i
      · subst h2
        simpa using shaNew_lt L p j
      · rw [List.getElem?_eq_none (by simp; omega)]
        decide
theorem rorN_lt (n k : Nat) (hn : n < 4294967296) : rorN n k < 4294967296 := rolN_lt n _ hn (by omega)
theorem ror_bounds (n : Int) (k : Nat) (h0 : 0 ≤ n) (h1 : n < 4294967296) : ∃ r : Int, 0 ≤ r ∧ r < 4294967296 ∧ Hid (r = rorN n.toNat k) := by
  have := rorN_lt n.toNat k (by omega)
  exact ⟨rorN n.toNat k, by omega, by omega, rfl⟩
def Turns (w : World) : Prop := (∀ i, i < 16 → w.cell? ⟨3, i, none⟩ = some (.int .i64 ((turnsL.getD i 0 : Nat) : Int))) ∧ 3 < w.heap.size
theorem results_cell {fn : Func} {p : Tmp} {ty : TypeId} (h : fn.results = #[.cell p ty]) (tmps : Array Value) (P : Program) (w : World) :
    (results fn tmps).run P w = ((asAddr (tmps.getD p undef)).run P w).andThen fun a w₁ => (loadVar ty a).run P w₁ := by
  simp only [results, h]
  simp [Sem.run_bind, Result.andThen]
/-- An array that a function hands back by value, out of the block in which it lies. -/
theorem ret_arr {P : Program} {fn : Func} {R : Ending → World → Prop} {a : Act} {w : World} {p : Tmp} {ty t e : TypeId} {fz : Nat × Nat} {b n : Nat} {c : Array Value} (h : fn.results = #[.cell p ty]) (hp : a.tmps.getD p undef = .pointer (some ⟨b, 0, none⟩))
    (hrow : w.heap[b]? = some (.cells c t fz)) (hu : P.underlying ty = some (.array n e)) (hi : (P.info? ty).map (·.size) = some c.size) (hd : a.defers = []) (hR : R (.returned (.agg c)) w) : bodyPost P fn R .ret a w := by
  refine bodyPost_ret (v := .agg c) ?_ hd hR
  rw [results_cell h, hp]
  simp only [asAddr, Sem.run_pure, Result.andThen]
  exact run_loadVar_row w b t ty c fz _ hrow hu rfl hi
theorem load_row {P : Program} (w : World) (b : Nat) (t ty e : TypeId) (n : Nat) (c : Array Value) (fz : Nat × Nat) (hrow : w.heap[b]? = some (.cells c t fz)) (hu : P.underlying ty = some (.array n e)) (hi : (P.info? ty).map (·.size) = some c.size) :
    (Instr.loadAt ty (.pointer (some ⟨b, 0, none⟩))).run P w = .ok (.agg c) w := by
  simp only [Instr.loadAt, Instr.sureAddr, Sem.run_bind, Sem.run_pure, Result.andThen]
  exact run_loadVar_row w b t ty c fz _ hrow hu rfl hi
theorem store_row {P : Program} (w : World) (b : Nat) (t ty : TypeId) (c c' : Array Value) (hrow : w.heap[b]? = some (.cells c t (0, 0))) (hi : (P.info? ty).map (·.size) = some c'.size) (ho : c.size = c'.size) (h1 : c'.all (·.oneCell') = true) :
    (Instr.storeAt ty (.pointer (some ⟨b, 0, none⟩)) (.agg c')).run P w = .ok () (w.setRow b c') := by
  simp only [Instr.storeAt, Instr.sureAddr, Sem.run_bind, Sem.run_pure, Result.andThen]
  exact run_storeVar_row w b t ty c c' hrow hi ho h1
theorem load_cells {P : Program} (w : World) (b n : Nat) (t : TypeId) (c : Array Value) (fz : Nat × Nat) (hrow : w.heap[b]? = some (.cells c t fz)) (hn : c.size = n) :
    (loadCellsFrom ⟨b, 0, none⟩ 0 n #[]).run P w = .ok c w := by
  subst hn
  have := run_loadCells_list (P := P) w ⟨b, 0, none⟩ c.toList (fun j v hv => by
    have hadd : (⟨b, 0, none⟩ : Addr).add j = ⟨b, j, none⟩ := by unfold Addr.add; split <;> simp_all
    rw [hadd, cell_of_row _ _ j c t fz hrow]
    simpa using hv)
  simpa [loadCells] using this
theorem store_cells {P : Program} (w : World) (b : Nat) (t : TypeId) (c c' : Array Value) (hrow : w.heap[b]? = some (.cells c t (0, 0))) (ho : c.size = c'.size) (h1 : c'.all (·.oneCell') = true) :
    (storeCells ⟨b, 0, none⟩ c'.toList 0).run P w = .ok () (w.setRow b c') := by
  have := run_storeCells_from (P := P) b t c'.toList 0 c w hrow (by simp; omega) (fun v hv => (Array.all_eq_true_iff_forall_mem.1 h1) v (by simpa using hv))
  rw [this]
  simp
theorem wpList_load_arr {P : Program} (w : World) {ops : Array Oper} {rest : List Oper} {o : Oper} {a : Act} {Q : Exit → Act → World → Prop} (hgd : o.guard = none) (s : Operand) (b n : Nat) (t ty e : TypeId) (c : Array Value) (fz : Nat × Nat)
    (ho : o.op = .load ty s) (hs : a.eval s = .pointer (some ⟨b, 0, none⟩)) (hrow : w.heap[b]? = some (.cells c t fz)) (hu : P.underlying ty = some (.array n e)) (hi : (P.info? ty).map (·.size) = some c.size)
    (h : wpList P ops Q rest (a.put o.dst (.agg c)) w) : wpList P ops Q (o :: rest) a w :=
  wpList_plain hgd fun _ hK => by
    have hr := load_row (P := P) w b t ty e n c fz hrow hu hi
    unfold Oper.wp execOp
    simp only [ho, Sem.run_bind, Sem.run_pure, Result.andThen_ok, hs, hr]
    exact hK _ _ h
theorem wpList_store_arr {P : Program} (w : World) {ops : Array Oper} {rest : List Oper} {o : Oper} {a : Act} {Q : Exit → Act → World → Prop} (hgd : o.guard = none) (s x : Operand) (b : Nat) (t ty : TypeId) (c c' : Array Value)
    (ho : o.op = .store ty s x) (hs : a.eval s = .pointer (some ⟨b, 0, none⟩)) (hx : a.eval x = .agg c') (hrow : w.heap[b]? = some (.cells c t (0, 0))) (hi : (P.info? ty).map (·.size) = some c'.size) (hc : c.size = c'.size) (h1 : c'.all (·.oneCell') = true)
    (h : wpList P ops Q rest (a.put o.dst undef) (w.setRow b c')) : wpList P ops Q (o :: rest) a w :=
  wpList_plain hgd fun _ hK => by
    have hr := store_row (P := P) w b t ty c c' hrow hi hc h1
    unfold Oper.wp execOp
    simp only [ho, Sem.run_bind, Sem.run_pure, Result.andThen_ok, hs, hx, hr]
    exact hK _ _ h
theorem encU_one (l : List Nat) : (encU l).all (·.oneCell') = true := by
  simp [encU, Value.oneCell']
theorem encU_set (l : List Nat) (q : Nat) (v : Int) (n : Nat) (h : v = n) : (encU l).setIfInBounds q (.int .u32 v) = encU (l.set q n) := by
  subst h
  apply Array.ext'
  simp [encU, List.map_set]
theorem below_setRow {B : Nat} {a w : World} (h : Below B a w) {b : Nat} (hb : B ≤ b) (c : Array Value) : Below B a (w.setRow b c) :=
  h.trans ⟨rfl, rfl, rfl, by simp [World.setRow], fun k hk => setRow_other w b k c (by omega)⟩
theorem row_set (w : World) (b k : Nat) (c : Array Value) (t : TypeId) (fz : Nat × Nat) (x : Value) (h : w.heap[b]? = some (.cells c t fz)) : (w.setCell ⟨b, k, none⟩ x).heap[b]? = some (.cells (c.setIfInBounds k x) t fz) := by
  rw [setCell_eq_setRow w b k c t fz x h]
  exact setRow_heap w b c _ t fz h
end Go.Proofs.YtooaiamfbmjmnaaFmt
