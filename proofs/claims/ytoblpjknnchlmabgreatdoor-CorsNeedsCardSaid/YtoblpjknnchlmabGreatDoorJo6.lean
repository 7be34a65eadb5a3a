/- Texts of one claim, joined: each begins with what it proves. -/
import Derived.Test.YtoblpjknnchlmabGreatDoorJo1
import Derived.Test.YtoblpjknnchlmabGreatDoorJo5
import Derived.Shelf.LaysM
import Derived.Shelf.Strconv.Itoa3
import Derived.Lib.AppendIntMem
import Derived.Lib.SmallJoins
import Derived.Lib.ItoaLen
import Derived.Lib.LaidTab
/- The library's contracts that are leant on, laid at this program's numbers. -/
namespace Go.Proofs.YtoblpjknnchlmabGreatDoor
open Go.Shelf Go.RowKit
def laysM171_ren : Go.Shelf.Ren := ⟨fun | 171 => 70 | 243 => 96 | 246 => 127 | 283 => 149 | 284 => 150 | 285 => 151 | 286 => 152 | 129 => 140 | 317 => 162 | 318 => 163 | 319 => 164 | 320 => 165 | 337 => 170 | 338 => 171 | n => n, fun | 3 => 3 | 9 => 9 | 2 => 2 | 4 => 4 | 171 => 166 | 0 => 0 | 53 => 155 | 37 => 70 | 5 => 5 | 173 => 168 | 212 => 182 | 51 => 153 | 20 => 20 | 213 => 183 | 46 => 80 | 232 => 195 | 233 => 196 | n => n, fun | 17 => 6 | 18 => 7 | 19 => 8 | n => n⟩
theorem laysM171 : Go.Proofs.LaysM.n171 Tryz.prog laysM171_ren := {
  mixed := by kernel_rfl
  f129 := Tryz.func140.trans (congrArg some (by kernel_rfl))
  f171 := Tryz.func70.trans (congrArg some (by kernel_rfl))
  f243 := Tryz.func96.trans (congrArg some (by kernel_rfl))
  f246 := Tryz.func127.trans (congrArg some (by kernel_rfl))
  f283 := Tryz.func149.trans (congrArg some (by kernel_rfl))
  f284 := Tryz.func150.trans (congrArg some (by kernel_rfl))
  f285 := Tryz.func151.trans (congrArg some (by kernel_rfl))
  f286 := Tryz.func152.trans (congrArg some (by kernel_rfl))
  f317 := Tryz.func162.trans (congrArg some (by kernel_rfl))
  f318 := Tryz.func163.trans (congrArg some (by kernel_rfl))
  f319 := Tryz.func164.trans (congrArg some (by kernel_rfl))
  f320 := Tryz.func165.trans (congrArg some (by kernel_rfl))
  f337 := Tryz.func170.trans (congrArg some (by kernel_rfl))
  f338 := Tryz.func171.trans (congrArg some (by kernel_rfl))
  t0 := Tryz.underlying0
  a0 := Tryz.isAgg0
  z0 := Tryz.sizeOf0
  v0 := Tryz.zeroValue0
  t2 := Tryz.underlying2
  a2 := Tryz.isAgg2
  z2 := Tryz.sizeOf2
  v2 := Tryz.zeroValue2
  t3 := Tryz.underlying3
  a3 := Tryz.isAgg3
  z3 := Tryz.sizeOf3
  v3 := Tryz.zeroValue3
  t4 := Tryz.underlying4
  a4 := Tryz.isAgg4
  z4 := Tryz.sizeOf4
  v4 := Tryz.zeroValue4
  t5 := Tryz.underlying5
  a5 := Tryz.isAgg5
  z5 := Tryz.sizeOf5
  v5 := Tryz.zeroValue5
  t9 := Tryz.underlying9
  a9 := Tryz.isAgg9
  z9 := Tryz.sizeOf9
  v9 := Tryz.zeroValue9
  t20 := Tryz.underlying20
  a20 := Tryz.isAgg20
  z20 := Tryz.sizeOf20
  v20 := Tryz.zeroValue20
  t37 := Tryz.underlying70
  a37 := Tryz.isAgg70
  z37 := Tryz.sizeOf70
  v37 := Tryz.zeroValue70
  t46 := Tryz.underlying80
  a46 := Tryz.isAgg80
  z46 := Tryz.sizeOf80
  v46 := Tryz.zeroValue80
  t51 := Tryz.underlying153
  a51 := Tryz.isAgg153
  z51 := Tryz.sizeOf153
  v51 := Tryz.zeroValue153
  t53 := Tryz.underlying155
  a53 := Tryz.isAgg155
  z53 := Tryz.sizeOf155
  v53 := Tryz.zeroValue155
  t171 := Tryz.underlying166
  a171 := Tryz.isAgg166
  z171 := Tryz.sizeOf166
  v171 := Tryz.zeroValue166
  t173 := Tryz.underlying168
  a173 := Tryz.isAgg168
  z173 := Tryz.sizeOf168
  v173 := Tryz.zeroValue168
  t212 := Tryz.underlying182
  a212 := Tryz.isAgg182
  z212 := Tryz.sizeOf182
  v212 := Tryz.zeroValue182
  t213 := Tryz.underlying183
  a213 := Tryz.isAgg183
  z213 := Tryz.sizeOf183
  t232 := Tryz.underlying195
  a232 := Tryz.isAgg195
  z232 := Tryz.sizeOf195
  v232 := Tryz.zeroValue195
  t233 := Tryz.underlying196
  a233 := Tryz.isAgg196
  z233 := Tryz.sizeOf196
  v233 := Tryz.zeroValue196
  g17 := by kernel_rfl
  g18 := by kernel_rfl
  g19 := by kernel_rfl
  i0 := by kernel_rfl
  i2 := by kernel_rfl
  i3 := by kernel_rfl
  i4 := by kernel_rfl
  i5 := by kernel_rfl
  i9 := by kernel_rfl
  i20 := by kernel_rfl
  i37 := by kernel_rfl
  i46 := by kernel_rfl
  i51 := by kernel_rfl
  i53 := by kernel_rfl
  i171 := by kernel_rfl
  i173 := by kernel_rfl
  i212 := by kernel_rfl
  i232 := by kernel_rfl
  i233 := by kernel_rfl
  m17 := by kernel_rfl
  m18 := by kernel_rfl
  m19 := by kernel_rfl }
theorem itoa_any (n : Int) (h0 : -9223372036854775808 ≤ n) (h1 : n ≤ 9223372036854775807) (w : World) (htab : Lib.TabIs Tryz.prog w "internal/strconv.uint64pow10" .u64 Lib.pow10Tab) :
    Calls Tryz.prog 70 #[.int .i64 n] w fun e w' => e = .returned (.string (bs (Lib.itoa n))) ∧ Below w.heap.size w w' := by
  refine (Any.strconv_Itoa laysM171 n h0 h1 w htab).mono ?_
  rintro e w' ⟨rfl, k, os, rfl⟩
  exact ⟨rfl, Lib.below_grow _ w (Nat.le_refl _) k os⟩
end Go.Proofs.YtoblpjknnchlmabGreatDoor

/- An origin as text, by the program. -/
namespace Go.Proofs.YtoblpjknnchlmabGreatDoor
open Go.RowKit

/-- What a text of an origin leans on: the two tables. -/
structure Env (w : World) : Prop where
  sch : Schemes w
  tab : Lib.TabIs Tryz.prog w "internal/strconv.uint64pow10" .u64 Lib.pow10Tab
theorem Env.below {w w' : World} (h : Env w) {H : Nat} (hb : Below H w w') (hH : w.heap.size ≤ H) : Env w' :=
  ⟨h.sch.below hb hH, Joins.tab_stays (g := 6) (by kernel_rfl) h.tab hb hH⟩
def tailT (sec : Bool) (port : Int) : List UInt8 := if port = portI sec then [] else 58 :: Lib.itoa port
def textL (sec : Bool) (host : List UInt8) (port : Int) : List UInt8 := (markOf sec).data.toList ++ host ++ tailT sec port
structure TKeep (w W : World) : Prop where
  env : Env W
  bel : Below w.heap.size w W
  siz : w.heap.size < W.heap.size

theorem TKeep.step {w W W' : World} (h : TKeep w W) (hb : Below W.heap.size W W') : TKeep w W' :=
  ⟨h.env.below hb (Nat.le_refl _), h.bel.trans (hb.mono h.bel.size), Nat.lt_of_lt_of_le h.siz hb.size⟩

theorem keepQ {w W W' : World} {a b : Nat} {x y z : Value} (h : W.cell? ⟨a, 1, none⟩ = some x ∧ W.cell? ⟨a, 2, none⟩ = some y ∧ W.cell? ⟨b, 0, none⟩ = some z ∧ TKeep w W) (_hab : a < b) (hb : Below W.heap.size W W') :
    W'.cell? ⟨a, 1, none⟩ = some x ∧ W'.cell? ⟨a, 2, none⟩ = some y ∧ W'.cell? ⟨b, 0, none⟩ = some z ∧ TKeep w W' := by
  obtain ⟨h1, h2, h3, h4⟩ := h
  exact ⟨(hb.cell (p := ⟨a, 1, none⟩) (lt_of_cell h1)).trans h1, (hb.cell (p := ⟨a, 2, none⟩) (lt_of_cell h2)).trans h2, (hb.cell (p := ⟨b, 0, none⟩) (lt_of_cell h3)).trans h3, h4.step hb⟩
set_option maxRecDepth 100000 in
set_option maxHeartbeats 1000000 in
theorem text_any (sec : Bool) (host : ByteArray) (port : Int) (hs : host.size ≤ 4000) (h0 : -9223372036854775808 ≤ port) (h1 : port ≤ 9223372036854775807) (w : World) (h : Env w) :
    Calls Tryz.prog 39 #[.agg #[.bool sec, .string host, .int .i64 port]] w fun e w' => e = .returned (.string (bs (textL sec host.data.toList port))) ∧ Below w.heap.size w w' := by
  have hS : TKeep w (w.alloc (.cells #[.bool sec, .string host, .int .i64 port] 23)) := by
    have hb : Below w.heap.size w (w.alloc (.cells #[.bool sec, .string host, .int .i64 port] 23)) := (Below.refl _ _).alloc (Nat.le_refl _) _
    exact ⟨h.below hb (Nat.le_refl _), hb, by simp⟩
  obtain ⟨mk, HM⟩ : ∃ mk : ByteArray, Hid (markOf sec = mk) := ⟨_, rfl⟩
  have hmk : mk.size ≤ 8 := by rw [← HM.out]; cases sec <;> decide
  obtain ⟨pt, HP⟩ : ∃ pt : Int, Hid (portI sec = pt) := ⟨_, rfl⟩
  by_cases hp : port = pt
  · subst hp
    have HR : Hid (bs (textL sec host.data.toList port) = mk ++ host) := by
      show _ = _
      unfold textL tailT
      rw [HM.out, HP.out, if_pos rfl, List.append_nil, bs_append, bs_self, bs_self]
    go_enter Tryz.func39, Tryz.ntmps39
    go_wp2_with fail
    refine (schemeOf_any sec _ hS.env.sch).mono ?_
    rintro e w1 ⟨rfl, hb1⟩
    rw [HM.out, HP.out]
    have hT := hS.step hb1
    have k1 : ∀ o, (w1.alloc o).cell? ⟨w.heap.size, 1, none⟩ = some (.string host) := fun o => (World.cell?_alloc_lt (w := w1) (o := o) (a := ⟨w.heap.size, 1, none⟩) (h := hT.siz)).trans ((hb1.cell (p := ⟨w.heap.size, 1, none⟩) (by simp)).trans (cells_new _ _ _ 1))
    have k2 : ∀ o, (w1.alloc o).cell? ⟨w.heap.size, 2, none⟩ = some (.int .i64 port) := fun o => (World.cell?_alloc_lt (w := w1) (o := o) (a := ⟨w.heap.size, 2, none⟩) (h := hT.siz)).trans ((hb1.cell (p := ⟨w.heap.size, 2, none⟩) (by simp)).trans (cells_new _ _ _ 2))
    go_wp2
    go_ret
    exact ⟨ret_str HR.out.symm, hT.bel.trans ((Below.refl _ _).alloc (Nat.le_refl _) _ |>.mono hT.bel.size)⟩
  · have hpq : (port == pt) = false := beq_eq_false_iff_ne.2 hp
    have HR : Hid (bs (textL sec host.data.toList port) = mk ++ host ++ bs [58] ++ bs (Lib.itoa port)) := by
      show _ = _
      unfold textL tailT
      rw [HM.out, HP.out, if_neg hp, bs_append, bs_append, bs_self, bs_self, ← List.singleton_append, bs_append]
      simp only [ByteArray.append_assoc]
    obtain ⟨tx, HTX⟩ : ∃ tx : ByteArray, Hid (bs (Lib.itoa port) = tx) := ⟨_, rfl⟩
    have htx : tx.size ≤ 21 := by rw [← HTX.out, bs_size]; exact Lib.itoa_length_le port h0 h1
    have a1 := fun W => run_string_add_sum (P := Tryz.prog) W mk host (by omega)
    have a2 := fun W => run_string_add_sum (P := Tryz.prog) W (mk ++ host) ⟨#[58]⟩ (by simp [ByteArray.size_append]; have : (⟨#[58]⟩ : ByteArray).size = 1 := rfl; omega)
    have a3 := fun W => run_string_add_sum (P := Tryz.prog) W (mk ++ host ++ ⟨#[58]⟩) tx (by simp only [ByteArray.size_append]; have : (⟨#[58]⟩ : ByteArray).size = 1 := rfl; omega)
    go_enter Tryz.func39, Tryz.ntmps39
    go_wp2_with fail
    refine (schemeOf_any sec _ hS.env.sch).mono ?_
    rintro e w1 ⟨rfl, hb1⟩
    rw [HM.out, HP.out]
    have hT := hS.step hb1
    have k1 : ∀ o, (w1.alloc o).cell? ⟨w.heap.size, 1, none⟩ = some (.string host) := fun o => (World.cell?_alloc_lt (w := w1) (o := o) (a := ⟨w.heap.size, 1, none⟩) (h := hT.siz)).trans ((hb1.cell (p := ⟨w.heap.size, 1, none⟩) (by simp)).trans (cells_new _ _ _ 1))
    have k2 : ∀ o, (w1.alloc o).cell? ⟨w.heap.size, 2, none⟩ = some (.int .i64 port) := fun o => (World.cell?_alloc_lt (w := w1) (o := o) (a := ⟨w.heap.size, 2, none⟩) (h := hT.siz)).trans ((hb1.cell (p := ⟨w.heap.size, 2, none⟩) (by simp)).trans (cells_new _ _ _ 2))
    go_wp2
    have hQ : (w1.alloc (.cells #[.string mk, .bool sec, .int .i64 pt] 103)).drew.cell? ⟨w.heap.size, 1, none⟩ = some (.string host) ∧ (w1.alloc (.cells #[.string mk, .bool sec, .int .i64 pt] 103)).drew.cell? ⟨w.heap.size, 2, none⟩ = some (.int .i64 port) ∧ (w1.alloc (.cells #[.string mk, .bool sec, .int .i64 pt] 103)).drew.cell? ⟨w1.heap.size, 0, none⟩ = some (.string mk) ∧ TKeep w (w1.alloc (.cells #[.string mk, .bool sec, .int .i64 pt] 103)).drew :=
      ⟨k1 _, k2 _, cells_new _ _ _ 0, hT.step (((Below.refl _ _).alloc (Nat.le_refl _) _).drew)⟩
    go_region_held3 (fun W => W.cell? ⟨w.heap.size, 1, none⟩ = some (.string host) ∧ W.cell? ⟨w.heap.size, 2, none⟩ = some (.int .i64 port) ∧ W.cell? ⟨w1.heap.size, 0, none⟩ = some (.string mk) ∧ TKeep w W) (first | assumption | exact hQ) (
      (go_at_call 70; refine (itoa_any port h0 h1 _ (TKeep.env (And.right (And.right (And.right (by assumption))))).tab).mono ?_; rintro e w3 ⟨rfl, hb3⟩; rw [HTX.out]; have hQ3 := keepQ (a := w.heap.size) (b := w1.heap.size) (by assumption) hT.siz hb3))
    go_wp2
    go_ret
    exact ⟨ret_str (by rw [HR.out, HTX.out]; rfl), hQ3.2.2.2.bel⟩
end Go.Proofs.YtoblpjknnchlmabGreatDoor

/- What the two tables hold, by what the row lays. -/
namespace Go.Proofs.YtoblpjknnchlmabGreatDoor
open Go.RowKit

theorem pow_data : (Rows.laid_internal_strconv_uint64pow10 : DataW Unit) = Lib.tabData .u64 Lib.pow10Tab := by rfl
theorem pow_laid {W : World} (h : Lib.VarReads Tryz.prog W "internal/strconv.uint64pow10" Rows.laid_internal_strconv_uint64pow10) : Lib.TabIs Tryz.prog W "internal/strconv.uint64pow10" .u64 Lib.pow10Tab := by
  obtain ⟨g', t', cs, fuel, p, hg, hty, hvar, hd⟩ := h
  have hn : Tryz.prog.globalNamed "internal/strconv.uint64pow10" = some 6 := by kernel_rfl
  have ht : (Tryz.prog.globals[6]?).map (·.type) = some 182 := by kernel_rfl
  obtain rfl := Option.some.inj (hn.symm.trans hg)
  obtain rfl := Option.some.inj (ht.symm.trans hty)
  rw [pow_data] at hd
  unfold Lib.TabIs
  rw [hvar, ← Lib.cells_of_tab Tryz.underlying182 Tryz.underlying155 (by kernel_rfl) (by kernel_rfl) hd]
theorem env_laid {W : World} (h1 : Lib.VarReads Tryz.prog W "gatepost/url.schemes" Rows.laid_gatepost_url_schemes) (h2 : Lib.VarReads Tryz.prog W "internal/strconv.uint64pow10" Rows.laid_internal_strconv_uint64pow10) : Env W := ⟨schemes_laid h1, pow_laid h2⟩
end Go.Proofs.YtoblpjknnchlmabGreatDoor
