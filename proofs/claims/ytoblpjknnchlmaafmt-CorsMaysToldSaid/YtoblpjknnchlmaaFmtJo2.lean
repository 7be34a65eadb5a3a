/- Texts of one claim, joined: each begins with what it proves. -/
import Derived.Test.YtoblpjknnchlmaaFmtJo1
import Derived.Lib.LaidU8
import Derived.Shelf.LaysM
import Derived.Shelf.Strconv.Itoa3
import Derived.Lib.AppendIntMem
import Derived.Lib.SmallJoins
import Derived.Lib.ItoaLen
import Derived.Deep.QuietTactic
import Derived.BigQuiet
import Derived.Stop.CallBack
import Derived.Stop.IfaceNil
import Derived.Stop.Texts
import Derived.Stop.FmtTextKit
import Derived.Stop.JoinedTold
import Derived.Carry
import Derived.Maps.Own
import Derived.Maps.Keyed
/- New blocks: what they hold, and that nothing older has turned. -/
namespace Go.Proofs.YtoblpjknnchlmaaFmt
open Go.RowKit

theorem cells_new (W : World) (cs : Array Value) (t : TypeId) (j : Nat) : (W.alloc (.cells cs t)).cell? ⟨W.heap.size, j, none⟩ = cs[j]? := World.cell?_alloc_mark _ _ _ _ _
theorem drewN_below {B : Nat} {a w : World} (h : Below B a w) (n : Nat) : Below B a (w.drewN n) := h.trans ⟨rfl, rfl, rfl, Nat.le_refl _, fun _ _ => rfl⟩
end Go.Proofs.YtoblpjknnchlmaaFmt

/- New blocks; rows of bytes. -/

/- Origins and paths as the document says them, over lists of bytes. -/
namespace Go.Proofs.YtoblpjknnchlmaaFmt

/-- A byte of a host's label: a small letter or a digit. -/
def alnum (c : UInt8) : Bool := decide (97 ≤ c.toNat ∧ c.toNat ≤ 122) || decide (48 ≤ c.toNat ∧ c.toNat ≤ 57)
/-- Whether a byte may stand behind another one in a host (46: a point; ahead of the first byte and behind the last one a point is thought). -/
def hostStep (was c : UInt8) : Bool :=
  !((c == 46 && (was == 46 || was == 45)) || (c == 45 && was == 46) || (c != 46 && c != 45 && !alnum c))
def hostFrom (was : UInt8) : List UInt8 → Bool
  | [] => hostStep was 46
  | c :: t => hostStep was c && hostFrom c t
def hostL (l : List UInt8) : Bool := hostFrom 46 l
def rightL (host : List UInt8) (port : Int) : Bool := decide (host.length ≤ 60) && decide (1 ≤ port ∧ port ≤ 65535) && hostL host
/-- The port that is meant where none is told. -/
def portI (b : Bool) : Int := if b then 443 else 80
/-- A path up to its last slash, with it. -/
def dirL (l : List UInt8) : List UInt8 := (l.reverse.dropWhile (· != 47)).reverse
/-- A byte that may stand in a path or a query. -/
def sendB (c : UInt8) : Bool := decide (97 ≤ c.toNat ∧ c.toNat ≤ 122) || decide (65 ≤ c.toNat ∧ c.toNat ≤ 90) || decide (48 ≤ c.toNat ∧ c.toNat ≤ 57) || [45, 46, 95, 126, 33, 36, 38, 39, 40, 41, 42, 43, 44, 59, 61, 58, 64, 37, 47, 63].contains c
def sendL (l : List UInt8) : Bool := l.all sendB
/-- What stands between slashes. -/
def splitL (d : UInt8) : List UInt8 → List (List UInt8)
  | [] => [[]]
  | c :: t => if c = d then [] :: splitL d t else match splitL d t with
    | [] => [[c]]
    | p :: r => (c :: p) :: r
def joinL (d : UInt8) : List (List UInt8) → List UInt8
  | [] => []
  | [p] => p
  | p :: r => p ++ d :: joinL d r
/-- One part behind others: a point is left out, two take the one ahead away; if it is the last one an empty part stands there. -/
def cleanStep (last : Bool) (acc : List (List UInt8)) (p : List UInt8) : List (List UInt8) :=
  if p = [46] then (if last then acc ++ [[]] else acc)
  else if p = [46, 46] then (if last then acc.dropLast ++ [[]] else acc.dropLast)
  else acc ++ [p]
def cleanParts (acc : List (List UInt8)) : List (List UInt8) → List (List UInt8)
  | [] => acc
  | p :: r => cleanParts (cleanStep r.isEmpty acc p) r
def bodyL (s : List UInt8) : List UInt8 := match s with
  | 47 :: t => t
  | _ => s
def cleanL (s : List UInt8) : List UInt8 := 47 :: joinL 47 (cleanParts [] (splitL 47 (bodyL s)))
theorem clean_one : cleanL [47, 97, 47, 46, 47, 98, 47, 46, 46] = [47, 97, 47] := by decide
theorem clean_two : cleanL [46, 46, 47, 120] = [47, 120] := by decide
theorem clean_empty : cleanL [] = [47] := by decide
theorem host_one : hostL [97, 46, 116, 45, 49] = true := by decide
theorem host_two : hostL [97, 46] = false := by decide
end Go.Proofs.YtoblpjknnchlmaaFmt

/- The two schemes, as the program's table has them; the program's ports. -/
namespace Go.Proofs.YtoblpjknnchlmaaFmt
open Go.RowKit

/-- What the table of schemes holds. -/
structure Schemes (w : World) : Prop where
  lt : 0 < w.heap.size
  c0 : w.cell? ⟨0, 0, none⟩ = some (.string ⟨#[104, 116, 116, 112, 58, 47, 47]⟩)
  c1 : w.cell? ⟨0, 1, none⟩ = some (.bool false)
  c2 : w.cell? ⟨0, 2, none⟩ = some (.int .i64 80)
  c3 : w.cell? ⟨0, 3, none⟩ = some (.string ⟨#[104, 116, 116, 112, 115, 58, 47, 47]⟩)
  c4 : w.cell? ⟨0, 4, none⟩ = some (.bool true)
  c5 : w.cell? ⟨0, 5, none⟩ = some (.int .i64 443)
theorem Schemes.below {w w' : World} (h : Schemes w) {H : Nat} (hb : Below H w w') (hH : w.heap.size ≤ H) : Schemes w' := by
  have hg := Nat.lt_of_lt_of_le h.lt hH
  have hc := fun i => hb.cell (p := ⟨0, i, none⟩) hg
  have hz := hb.size
  exact ⟨by have := h.lt; omega, (hc 0).trans h.c0, (hc 1).trans h.c1, (hc 2).trans h.c2, (hc 3).trans h.c3, (hc 4).trans h.c4, (hc 5).trans h.c5⟩
theorem lt_of_cell {W : World} {g i : Nat} {v : Value} (h : W.cell? ⟨g, i, none⟩ = some v) : g < W.heap.size := by
  rcases Nat.lt_or_ge g W.heap.size with hl | hl
  · exact hl
  · simp [World.cell?, Array.getElem?_eq_none hl] at h
set_option maxRecDepth 100000 in
theorem scheme_cells {H : Type} {enc : TypeId × Value → H} {w : World} {base : Nat} {sp : Nat → Bool} {held : Bool} {fuel : Nat} {cs : List Value} {p : List MemPlace} {m : List UInt8} {b : Bool} {n : Int}
    (h : DataW.trod enc Tryf.prog w base sp held fuel 47 cs = some (.agg [.lit (.string m), .lit (.bool b), .lit (.int .i64 n)], p)) : cs[0]? = some (.string (bs m)) ∧ cs[1]? = some (.bool b) ∧ cs[2]? = some (.int .i64 n) := by
  obtain ⟨xs, k, rfl, hx, hl, hxl, hall⟩ := DataW.trod_struct Tryf.underlying47 h
  have hxs : xs.map (·.1) = [(.lit (.string m) : DataW H), .lit (.bool b), .lit (.int .i64 n)] := by
    have := congrArg Prod.fst hx
    simpa using this.symm
  have k9 : Tryf.prog.cellsOf 9 = 1 := by kernel_rfl
  have k4 : Tryf.prog.cellsOf 4 = 1 := by kernel_rfl
  have k3 : Tryf.prog.cellsOf 3 = 1 := by kernel_rfl
  have h0 : DataW.trod enc Tryf.prog w base sp held k 9 ((cs.drop 0).take (Tryf.prog.cellsOf 9)) = xs[0]? := hall 0 _ rfl
  have h1 : DataW.trod enc Tryf.prog w base sp held k 4 ((cs.drop 1).take (Tryf.prog.cellsOf 4)) = xs[1]? := hall 1 _ rfl
  have h2 : DataW.trod enc Tryf.prog w base sp held k 3 ((cs.drop 2).take (Tryf.prog.cellsOf 3)) = xs[2]? := hall 2 _ rfl
  rw [k9] at h0
  rw [k4] at h1
  rw [k3] at h2
  match xs, hxs with
  | [x0, x1, x2], hxs =>
    simp only [List.map_cons, List.map_nil, List.cons.injEq, and_true] at hxs
    obtain ⟨e0, e1, e2⟩ := hxs
    simp only [List.getElem?_cons_zero, List.getElem?_cons_succ] at h0 h1 h2
    obtain ⟨s, hs, hx0, _⟩ := DataW.trod_string Tryf.underlying9 h0
    obtain ⟨c, hc, hx1⟩ := DataW.trod_bool Tryf.underlying4 h1
    obtain ⟨z, hz, hx2, _⟩ := DataW.trod_int Tryf.underlying3 h2
    rw [hx0] at e0
    rw [hx1] at e1
    rw [hx2] at e2
    simp only [DataW.lit.injEq, Lit.string.injEq, Lit.bool.injEq, Lit.int.injEq, true_and] at e0 e1 e2
    subst e0 e1 e2
    rw [bs_self]
    refine ⟨?_, ?_, ?_⟩
    · have := congrArg (·[0]?) hs
      simpa [List.getElem?_take, List.getElem?_drop] using this
    · have := congrArg (·[0]?) hc
      simpa [List.getElem?_take, List.getElem?_drop] using this
    · have := congrArg (·[0]?) hz
      simpa [List.getElem?_take, List.getElem?_drop] using this
set_option maxRecDepth 100000 in
theorem schemes_laid {W : World} (h : Lib.VarReads Tryf.prog W "gatepost/url.schemes" Rows.laid_gatepost_url_schemes) : Schemes W := by
  obtain ⟨g', t', cs, fuel, p, hg, hty, hvar, hd⟩ := h
  have hn : Tryf.prog.globalNamed "gatepost/url.schemes" = some 0 := by kernel_rfl
  have ht : (Tryf.prog.globals[0]?).map (·.type) = some 54 := by kernel_rfl
  obtain rfl := Option.some.inj (hn.symm.trans hg)
  obtain rfl := Option.some.inj (ht.symm.trans hty)
  have k3 : Tryf.prog.cellsOf 47 = 3 := by kernel_rfl
  obtain ⟨f0, d0, q0, hd0, he0⟩ := Lib.array_elem Tryf.underlying54 hd 0 (by omega)
  obtain ⟨f1, d1, q1, hd1, he1⟩ := Lib.array_elem Tryf.underlying54 hd 1 (by omega)
  simp only [List.getElem?_cons_zero, List.getElem?_cons_succ, Option.some.injEq] at hd0 hd1
  subst hd0 hd1
  clear hd
  obtain ⟨a0, a1, a2⟩ := scheme_cells he0
  obtain ⟨b0, b1, b2⟩ := scheme_cells he1
  clear he0 he1
  rw [k3] at a0 a1 a2 b0 b1 b2
  simp only [List.getElem?_take, List.getElem?_drop] at a0 a1 a2 b0 b1 b2
  have hv := fun i => World.var?_cell hg hvar i
  have c0 : W.cell? ⟨0, 0, none⟩ = some (.string ⟨#[104, 116, 116, 112, 58, 47, 47]⟩) := by rw [hv 0, ← Array.getElem?_toList]; exact a0
  refine ⟨lt_of_cell c0, c0, ?_, ?_, ?_, ?_, ?_⟩
  · rw [hv 1, ← Array.getElem?_toList]; exact a1
  · rw [hv 2, ← Array.getElem?_toList]; exact a2
  · rw [hv 3, ← Array.getElem?_toList]; exact b0
  · rw [hv 4, ← Array.getElem?_toList]; exact b1
  · rw [hv 5, ← Array.getElem?_toList]; exact b2

theorem field_mark (a b c : Value) (W : World) : (Instr.field 47 (.agg #[a, b, c]) 0).run Tryf.prog W = .ok a W := by kernel_rfl
theorem field_secure (a b c : Value) (W : World) : (Instr.field 47 (.agg #[a, b, c]) 1).run Tryf.prog W = .ok b W := by kernel_rfl
theorem field_port (a b c : Value) (W : World) : (Instr.field 47 (.agg #[a, b, c]) 2).run Tryf.prog W = .ok c W := by kernel_rfl
def markOf (sec : Bool) : ByteArray := if sec then ⟨#[104, 116, 116, 112, 115, 58, 47, 47]⟩ else ⟨#[104, 116, 116, 112, 58, 47, 47]⟩
theorem schemeOf_yes (w : World) (h : Schemes w) :
    Calls Tryf.prog 14 #[.bool true] w fun e w' => e = .returned (.agg #[.string ⟨#[104, 116, 116, 112, 115, 58, 47, 47]⟩, .bool true, .int .i64 443]) ∧ Below w.heap.size w w' := by
  obtain ⟨hlt, h0, h1, h2, h3, h4, h5⟩ := h
  go_enter Tryf.func14, Tryf.ntmps14
  go_wp2
  (try simp only [Exit.inBlock, Exit.then])
  refine bodyPost_ret (v := .agg #[.string ⟨#[104, 116, 116, 112, 115, 58, 47, 47]⟩, .bool true, .int .i64 443]) ?_ rfl ⟨rfl, (Below.refl _ _).alloc (Nat.le_refl _) _⟩
  simp [results, Tryf.f14, go_sem]
theorem schemeOf_no (w : World) (h : Schemes w) :
    Calls Tryf.prog 14 #[.bool false] w fun e w' => e = .returned (.agg #[.string ⟨#[104, 116, 116, 112, 58, 47, 47]⟩, .bool false, .int .i64 80]) ∧ Below w.heap.size w w' := by
  obtain ⟨hlt, h0, h1, h2, h3, h4, h5⟩ := h
  go_enter Tryf.func14, Tryf.ntmps14
  go_wp2
  (try simp only [Exit.inBlock, Exit.then])
  refine bodyPost_ret (v := .agg #[.string ⟨#[104, 116, 116, 112, 58, 47, 47]⟩, .bool false, .int .i64 80]) ?_ rfl ⟨rfl, (Below.refl _ _).alloc (Nat.le_refl _) _⟩
  simp [results, Tryf.f14, go_sem]
theorem schemeOf_any (sec : Bool) (w : World) (h : Schemes w) :
    Calls Tryf.prog 14 #[.bool sec] w fun e w' => e = .returned (.agg #[.string (markOf sec), .bool sec, .int .i64 (portI sec)]) ∧ Below w.heap.size w w' := by
  cases sec
  · exact schemeOf_no w h
  · exact schemeOf_yes w h
end Go.Proofs.YtoblpjknnchlmaaFmt

/- The library's contracts that are leant on, laid at this program's numbers. -/
namespace Go.Proofs.YtoblpjknnchlmaaFmt
open Go.Shelf Go.RowKit
def laysM171_ren : Go.Shelf.Ren := ⟨fun | 171 => 15 | 243 => 21 | 246 => 24 | 283 => 27 | 284 => 28 | 285 => 29 | 286 => 30 | 129 => 32 | 317 => 31 | 318 => 33 | 319 => 34 | 320 => 35 | 337 => 36 | 338 => 37 | n => n, fun | 3 => 3 | 9 => 9 | 2 => 2 | 4 => 4 | 171 => 60 | 0 => 0 | 53 => 61 | 37 => 37 | 5 => 5 | 173 => 64 | 212 => 67 | 51 => 68 | 20 => 20 | 213 => 69 | 46 => 71 | 232 => 74 | 233 => 75 | n => n, fun | 17 => 1 | 18 => 2 | 19 => 3 | n => n⟩
theorem laysM171 : Go.Proofs.LaysM.n171 Tryf.prog laysM171_ren := {
  mixed := by kernel_rfl
  f129 := Tryf.func32.trans (congrArg some (by kernel_rfl))
  f171 := Tryf.func15.trans (congrArg some (by kernel_rfl))
  f243 := Tryf.func21.trans (congrArg some (by kernel_rfl))
  f246 := Tryf.func24.trans (congrArg some (by kernel_rfl))
  f283 := Tryf.func27.trans (congrArg some (by kernel_rfl))
  f284 := Tryf.func28.trans (congrArg some (by kernel_rfl))
  f285 := Tryf.func29.trans (congrArg some (by kernel_rfl))
  f286 := Tryf.func30.trans (congrArg some (by kernel_rfl))
  f317 := Tryf.func31.trans (congrArg some (by kernel_rfl))
  f318 := Tryf.func33.trans (congrArg some (by kernel_rfl))
  f319 := Tryf.func34.trans (congrArg some (by kernel_rfl))
  f320 := Tryf.func35.trans (congrArg some (by kernel_rfl))
  f337 := Tryf.func36.trans (congrArg some (by kernel_rfl))
  f338 := Tryf.func37.trans (congrArg some (by kernel_rfl))
  t0 := Tryf.underlying0
  a0 := Tryf.isAgg0
  z0 := Tryf.sizeOf0
  v0 := Tryf.zeroValue0
  t2 := Tryf.underlying2
  a2 := Tryf.isAgg2
  z2 := Tryf.sizeOf2
  v2 := Tryf.zeroValue2
  t3 := Tryf.underlying3
  a3 := Tryf.isAgg3
  z3 := Tryf.sizeOf3
  v3 := Tryf.zeroValue3
  t4 := Tryf.underlying4
  a4 := Tryf.isAgg4
  z4 := Tryf.sizeOf4
  v4 := Tryf.zeroValue4
  t5 := Tryf.underlying5
  a5 := Tryf.isAgg5
  z5 := Tryf.sizeOf5
  v5 := Tryf.zeroValue5
  t9 := Tryf.underlying9
  a9 := Tryf.isAgg9
  z9 := Tryf.sizeOf9
  v9 := Tryf.zeroValue9
  t20 := Tryf.underlying20
  a20 := Tryf.isAgg20
  z20 := Tryf.sizeOf20
  v20 := Tryf.zeroValue20
  t37 := Tryf.underlying37
  a37 := Tryf.isAgg37
  z37 := Tryf.sizeOf37
  v37 := Tryf.zeroValue37
  t46 := Tryf.underlying71
  a46 := Tryf.isAgg71
  z46 := Tryf.sizeOf71
  v46 := Tryf.zeroValue71
  t51 := Tryf.underlying68
  a51 := Tryf.isAgg68
  z51 := Tryf.sizeOf68
  v51 := Tryf.zeroValue68
  t53 := Tryf.underlying61
  a53 := Tryf.isAgg61
  z53 := Tryf.sizeOf61
  v53 := Tryf.zeroValue61
  t171 := Tryf.underlying60
  a171 := Tryf.isAgg60
  z171 := Tryf.sizeOf60
  v171 := Tryf.zeroValue60
  t173 := Tryf.underlying64
  a173 := Tryf.isAgg64
  z173 := Tryf.sizeOf64
  v173 := Tryf.zeroValue64
  t212 := Tryf.underlying67
  a212 := Tryf.isAgg67
  z212 := Tryf.sizeOf67
  v212 := Tryf.zeroValue67
  t213 := Tryf.underlying69
  a213 := Tryf.isAgg69
  z213 := Tryf.sizeOf69
  t232 := Tryf.underlying74
  a232 := Tryf.isAgg74
  z232 := Tryf.sizeOf74
  v232 := Tryf.zeroValue74
  t233 := Tryf.underlying75
  a233 := Tryf.isAgg75
  z233 := Tryf.sizeOf75
  v233 := Tryf.zeroValue75
  g17 := by kernel_rfl
  g18 := by kernel_rfl
  g19 := by kernel_rfl
  i0 := by kernel_rfl
  i2 := by kernel_rfl
  i3 := by kernel_rfl
  i4 := by kernel_rfl
  i5 := by kernel_rfl
  i9 := by kernel_rfl
  i20 := by kernel_rfl
  i37 := by kernel_rfl
  i46 := by kernel_rfl
  i51 := by kernel_rfl
  i53 := by kernel_rfl
  i171 := by kernel_rfl
  i173 := by kernel_rfl
  i212 := by kernel_rfl
  i232 := by kernel_rfl
  i233 := by kernel_rfl
  m17 := by kernel_rfl
  m18 := by kernel_rfl
  m19 := by kernel_rfl }
theorem itoa_any (n : Int) (h0 : -9223372036854775808 ≤ n) (h1 : n ≤ 9223372036854775807) (w : World) (htab : Lib.TabIs Tryf.prog w "internal/strconv.uint64pow10" .u64 Lib.pow10Tab) :
    Calls Tryf.prog 15 #[.int .i64 n] w fun e w' => e = .returned (.string (bs (Lib.itoa n))) ∧ Below w.heap.size w w' := by
  refine (Any.strconv_Itoa laysM171 n h0 h1 w htab).mono ?_
  rintro e w' ⟨rfl, k, os, rfl⟩
  exact ⟨rfl, Lib.below_grow _ w (Nat.le_refl _) k os⟩
end Go.Proofs.YtoblpjknnchlmaaFmt

/- An origin as text, by the program. -/
namespace Go.Proofs.YtoblpjknnchlmaaFmt
open Go.RowKit

/-- What a text of an origin leans on: the two tables. -/
structure Env (w : World) : Prop where
  sch : Schemes w
  tab : Lib.TabIs Tryf.prog w "internal/strconv.uint64pow10" .u64 Lib.pow10Tab
theorem Env.below {w w' : World} (h : Env w) {H : Nat} (hb : Below H w w') (hH : w.heap.size ≤ H) : Env w' :=
  ⟨h.sch.below hb hH, Joins.tab_stays (g := 1) (by kernel_rfl) h.tab hb hH⟩
def tailT (sec : Bool) (port : Int) : List UInt8 := if port = portI sec then [] else 58 :: Lib.itoa port
def textL (sec : Bool) (host : List UInt8) (port : Int) : List UInt8 := (markOf sec).data.toList ++ host ++ tailT sec port
structure TKeep (w W : World) : Prop where
  env : Env W
  bel : Below w.heap.size w W
  siz : w.heap.size < W.heap.size

theorem TKeep.step {w W W' : World} (h : TKeep w W) (hb : Below W.heap.size W W') : TKeep w W' :=
  ⟨h.env.below hb (Nat.le_refl _), h.bel.trans (hb.mono h.bel.size), Nat.lt_of_lt_of_le h.siz hb.size⟩

theorem keepQ {w W W' : World} {a b : Nat} {x y z : Value} (h : W.cell? ⟨a, 1, none⟩ = some x ∧ W.cell? ⟨a, 2, none⟩ = some y ∧ W.cell? ⟨b, 0, none⟩ = some z ∧ TKeep w W) (_hab : a < b) (hb : Below W.heap.size W W') :
    W'.cell? ⟨a, 1, none⟩ = some x ∧ W'.cell? ⟨a, 2, none⟩ = some y ∧ W'.cell? ⟨b, 0, none⟩ = some z ∧ TKeep w W' := by
  obtain ⟨h1, h2, h3, h4⟩ := h
  exact ⟨(hb.cell (p := ⟨a, 1, none⟩) (lt_of_cell h1)).trans h1, (hb.cell (p := ⟨a, 2, none⟩) (lt_of_cell h2)).trans h2, (hb.cell (p := ⟨b, 0, none⟩) (lt_of_cell h3)).trans h3, h4.step hb⟩
set_option maxRecDepth 100000 in
set_option maxHeartbeats 1000000 in
theorem text_any (sec : Bool) (host : ByteArray) (port : Int) (hs : host.size ≤ 4000) (h0 : -9223372036854775808 ≤ port) (h1 : port ≤ 9223372036854775807) (w : World) (h : Env w) :
    Calls Tryf.prog 8 #[.agg #[.bool sec, .string host, .int .i64 port]] w fun e w' => e = .returned (.string (bs (textL sec host.data.toList port))) ∧ Below w.heap.size w w' := by
  have hS : TKeep w (w.alloc (.cells #[.bool sec, .string host, .int .i64 port] 23)) := by
    have hb : Below w.heap.size w (w.alloc (.cells #[.bool sec, .string host, .int .i64 port] 23)) := (Below.refl _ _).alloc (Nat.le_refl _) _
    exact ⟨h.below hb (Nat.le_refl _), hb, by simp⟩
  obtain ⟨mk, HM⟩ : ∃ mk : ByteArray, Hid (markOf sec = mk) := ⟨_, rfl⟩
  have hmk : mk.size ≤ 8 := by rw [← HM.out]; cases sec <;> decide
  obtain ⟨pt, HP⟩ : ∃ pt : Int, Hid (portI sec = pt) := ⟨_, rfl⟩
  by_cases hp : port = pt
  · subst hp
    have HR : Hid (bs (textL sec host.data.toList port) = mk ++ host) := by
      show _ = _
      unfold textL tailT
      rw [HM.out, HP.out, if_pos rfl, List.append_nil, bs_append, bs_self, bs_self]
    go_enter Tryf.func8, Tryf.ntmps8
    go_wp2_with fail
    refine (schemeOf_any sec _ hS.env.sch).mono ?_
    rintro e w1 ⟨rfl, hb1⟩
    rw [HM.out, HP.out]
    have hT := hS.step hb1
    have k1 : ∀ o, (w1.alloc o).cell? ⟨w.heap.size, 1, none⟩ = some (.string host) := fun o => (World.cell?_alloc_lt (w := w1) (o := o) (a := ⟨w.heap.size, 1, none⟩) (h := hT.siz)).trans ((hb1.cell (p := ⟨w.heap.size, 1, none⟩) (by simp)).trans (cells_new _ _ _ 1))
    have k2 : ∀ o, (w1.alloc o).cell? ⟨w.heap.size, 2, none⟩ = some (.int .i64 port) := fun o => (World.cell?_alloc_lt (w := w1) (o := o) (a := ⟨w.heap.size, 2, none⟩) (h := hT.siz)).trans ((hb1.cell (p := ⟨w.heap.size, 2, none⟩) (by simp)).trans (cells_new _ _ _ 2))
    go_wp2
    go_ret
    exact ⟨ret_str HR.out.symm, hT.bel.trans ((Below.refl _ _).alloc (Nat.le_refl _) _ |>.mono hT.bel.size)⟩
  · have hpq : (port == pt) = false := beq_eq_false_iff_ne.2 hp
    have HR : Hid (bs (textL sec host.data.toList port) = mk ++ host ++ bs [58] ++ bs (Lib.itoa port)) := by
      show _ = _
      unfold textL tailT
      rw [HM.out, HP.out, if_neg hp, bs_append, bs_append, bs_self, bs_self, ← List.singleton_append, bs_append]
      simp only [ByteArray.append_assoc]
    obtain ⟨tx, HTX⟩ : ∃ tx : ByteArray, Hid (bs (Lib.itoa port) = tx) := ⟨_, rfl⟩
    have htx : tx.size ≤ 21 := by rw [← HTX.out, bs_size]; exact Lib.itoa_length_le port h0 h1
    have a1 := fun W => run_string_add_sum (P := Tryf.prog) W mk host (by omega)
    have a2 := fun W => run_string_add_sum (P := Tryf.prog) W (mk ++ host) ⟨#[58]⟩ (by simp [ByteArray.size_append]; have : (⟨#[58]⟩ : ByteArray).size = 1 := rfl; omega)
    have a3 := fun W => run_string_add_sum (P := Tryf.prog) W (mk ++ host ++ ⟨#[58]⟩) tx (by simp only [ByteArray.size_append]; have : (⟨#[58]⟩ : ByteArray).size = 1 := rfl; omega)
    go_enter Tryf.func8, Tryf.ntmps8
    go_wp2_with fail
    refine (schemeOf_any sec _ hS.env.sch).mono ?_
    rintro e w1 ⟨rfl, hb1⟩
    rw [HM.out, HP.out]
    have hT := hS.step hb1
    have k1 : ∀ o, (w1.alloc o).cell? ⟨w.heap.size, 1, none⟩ = some (.string host) := fun o => (World.cell?_alloc_lt (w := w1) (o := o) (a := ⟨w.heap.size, 1, none⟩) (h := hT.siz)).trans ((hb1.cell (p := ⟨w.heap.size, 1, none⟩) (by simp)).trans (cells_new _ _ _ 1))
    have k2 : ∀ o, (w1.alloc o).cell? ⟨w.heap.size, 2, none⟩ = some (.int .i64 port) := fun o => (World.cell?_alloc_lt (w := w1) (o := o) (a := ⟨w.heap.size, 2, none⟩) (h := hT.siz)).trans ((hb1.cell (p := ⟨w.heap.size, 2, none⟩) (by simp)).trans (cells_new _ _ _ 2))
    go_wp2
    have hQ : (w1.alloc (.cells #[.string mk, .bool sec, .int .i64 pt] 47)).drew.cell? ⟨w.heap.size, 1, none⟩ = some (.string host) ∧ (w1.alloc (.cells #[.string mk, .bool sec, .int .i64 pt] 47)).drew.cell? ⟨w.heap.size, 2, none⟩ = some (.int .i64 port) ∧ (w1.alloc (.cells #[.string mk, .bool sec, .int .i64 pt] 47)).drew.cell? ⟨w1.heap.size, 0, none⟩ = some (.string mk) ∧ TKeep w (w1.alloc (.cells #[.string mk, .bool sec, .int .i64 pt] 47)).drew :=
      ⟨k1 _, k2 _, cells_new _ _ _ 0, hT.step (((Below.refl _ _).alloc (Nat.le_refl _) _).drew)⟩
    go_region_held3 (fun W => W.cell? ⟨w.heap.size, 1, none⟩ = some (.string host) ∧ W.cell? ⟨w.heap.size, 2, none⟩ = some (.int .i64 port) ∧ W.cell? ⟨w1.heap.size, 0, none⟩ = some (.string mk) ∧ TKeep w W) (first | assumption | exact hQ) (
      (go_at_call 15; refine (itoa_any port h0 h1 _ (TKeep.env (And.right (And.right (And.right (by assumption))))).tab).mono ?_; rintro e w3 ⟨rfl, hb3⟩; rw [HTX.out]; have hQ3 := keepQ (a := w.heap.size) (b := w1.heap.size) (by assumption) hT.siz hb3))
    go_wp2
    go_ret
    exact ⟨ret_str (by rw [HR.out, HTX.out]; rfl), hQ3.2.2.2.bel⟩
end Go.Proofs.YtoblpjknnchlmaaFmt

/- May: whether an answer may be seen by a request's origin, by the program. -/
namespace Go.Proofs.YtoblpjknnchlmaaFmt
open Go.RowKit

set_option maxRecDepth 100000 in
set_option maxHeartbeats 4000000 in
theorem may9_any (ps : List Par) (hf : Few9 ps) (a0 : Option Addr) (len cap b off : Nat) (pt fp up : Int) (fs us : Bool) (fh uh pa qu me bo : ByteArray) (ra : Option Addr) (rl rc : Nat) (wi : Bool) (hfh : fh.size ≤ 4000) (h0 : -9223372036854775808 ≤ fp) (h1 : fp ≤ 9223372036854775807) (w : World) (he : Env w) (hx : Pars w a0 len b off ps) :
    Calls Tryf.prog 5 #[.agg #[.int .i64 pt, .bool fs, .string fh, .int .i64 fp, .bool us, .string uh, .int .i64 up, .string pa, .string qu, .string me, .slice ra rl rc, .bool wi, .string bo], .slice a0 len cap] w fun e w' => e = .returned (.bool (mayL wi (textL fs fh.data.toList fp) ps)) ∧ Below w.heap.size w w' := by
  obtain ⟨x, HXE⟩ : ∃ x, Hid (bs (fieldT oN ps) = x) := ⟨_, rfl⟩
  obtain ⟨c, HCE⟩ : ∃ c, Hid (bs (fieldT cN ps) = c) := ⟨_, rfl⟩
  obtain ⟨t, HTE⟩ : ∃ t, Hid (bs (textL fs fh.data.toList fp) = t) := ⟨_, rfl⟩
  have HA : Hid (mayL wi (textL fs fh.data.toList fp) ps = mayB wi x t c) := by show _ = _; rw [mayL_is, HXE.out, HCE.out, HTE.out]
  have HQ : Hid (BoxQ 28 w #[.int .i64 pt, .bool fs, .string fh, .int .i64 fp, .bool us, .string uh, .int .i64 up, .string pa, .string qu, .string me, .slice ra rl rc, .bool wi, .string bo] (w.alloc (.cells #[.int .i64 pt, .bool fs, .string fh, .int .i64 fp, .bool us, .string uh, .int .i64 up, .string pa, .string qu, .string me, .slice ra rl rc, .bool wi, .string bo] 28))) := BoxQ.new _ _ _
  have HGO : Hid (∀ W, Below w.heap.size w W → ∃ f : Bool, Calls Tryf.prog 7 #[.slice a0 len cap, .string ⟨#[65, 99, 99, 101, 115, 115, 45, 67, 111, 110, 116, 114, 111, 108, 45, 65, 108, 108, 111, 119, 45, 79, 114, 105, 103, 105, 110]⟩] W fun e w' => e = .returned (.tuple #[.string x, .bool f]) ∧ Below W.heap.size W w') := fun W hW => ⟨_, by
    have := get9_any ps hf ⟨#[65, 99, 99, 101, 115, 115, 45, 67, 111, 110, 116, 114, 111, 108, 45, 65, 108, 108, 111, 119, 45, 79, 114, 105, 103, 105, 110]⟩ (by decide) a0 len cap b off W (hx.below hW)
    rw [← oN_is, HXE.out] at this
    exact this⟩
  have HGC : Hid (∀ W, Below w.heap.size w W → ∃ f : Bool, Calls Tryf.prog 7 #[.slice a0 len cap, .string ⟨#[65, 99, 99, 101, 115, 115, 45, 67, 111, 110, 116, 114, 111, 108, 45, 65, 108, 108, 111, 119, 45, 67, 114, 101, 100, 101, 110, 116, 105, 97, 108, 115]⟩] W fun e w' => e = .returned (.tuple #[.string c, .bool f]) ∧ Below W.heap.size W w') := fun W hW => ⟨_, by
    have := get9_any ps hf ⟨#[65, 99, 99, 101, 115, 115, 45, 67, 111, 110, 116, 114, 111, 108, 45, 65, 108, 108, 111, 119, 45, 67, 114, 101, 100, 101, 110, 116, 105, 97, 108, 115]⟩ (by decide) a0 len cap b off W (hx.below hW)
    rw [← cN_is, HCE.out] at this
    exact this⟩
  have HGT : Hid (∀ W, Below w.heap.size w W → Calls Tryf.prog 8 #[.agg #[.bool fs, .string fh, .int .i64 fp]] W fun e w' => e = .returned (.string t) ∧ Below W.heap.size W w') := fun W hW => by
    have := text_any fs fh fp hfh h0 h1 W (he.below hW (Nat.le_refl _))
    rw [HTE.out] at this
    exact this
  clear hf hx he HXE HCE HTE h0 h1 hfh
  obtain ⟨q, HQ1⟩ : ∃ q, Hid ((x.toList == [42]) = q) := ⟨_, rfl⟩
  obtain ⟨r, HQ2⟩ : ∃ r, Hid ((x.toList == t.toList) = r) := ⟨_, rfl⟩
  have q1 : (x.toList == [42]) = q := HQ1.out
  have q2 : (x.toList == t.toList) = r := HQ2.out
  have HB : Hid (mayB wi x t c = (!wi && q || (r && (!wi || c.toList == [116, 114, 117, 101])))) := by show _ = _; unfold mayB; rw [q1, q2]
  go_enter Tryf.func5, Tryf.ntmps5
  go_wp2_with fail
  obtain ⟨f, hg⟩ := HGO.out _ HQ.out.bel
  refine hg.mono ?_
  rintro e w1 ⟨rfl, hb1⟩
  have HQ1' : Hid (BoxQ 28 w #[.int .i64 pt, .bool fs, .string fh, .int .i64 fp, .bool us, .string uh, .int .i64 up, .string pa, .string qu, .string me, .slice ra rl rc, .bool wi, .string bo] w1) := HQ.out.step hb1
  clear hg hb1 HQ HGO
  have c1 := HQ1'.out.at 1 _ rfl
  have c2 := HQ1'.out.at 2 _ rfl
  have c3 := HQ1'.out.at 3 _ rfl
  have c11 := HQ1'.out.at 11 _ rfl
  cases wi
  · cases q
    · go_wp2_with fail
      obtain ⟨f2, hg⟩ := HGC.out _ HQ1'.out.bel
      refine hg.mono ?_
      rintro e w2 ⟨rfl, hb2⟩
      have HQ2' : Hid (BoxQ 28 w #[.int .i64 pt, .bool fs, .string fh, .int .i64 fp, .bool us, .string uh, .int .i64 up, .string pa, .string qu, .string me, .slice ra rl rc, .bool false, .string bo] w2) := HQ1'.out.step hb2
      clear hg hb2 c1 c2 c3 c11
      have c1 := HQ2'.out.at 1 _ rfl
      have c2 := HQ2'.out.at 2 _ rfl
      have c3 := HQ2'.out.at 3 _ rfl
      have c11 := HQ2'.out.at 11 _ rfl
      go_wp2_with fail
      refine (HGT.out _ HQ2'.out.bel).mono ?_
      rintro e w3 ⟨rfl, hb3⟩
      have HQ3' : Hid (BoxQ 28 w #[.int .i64 pt, .bool fs, .string fh, .int .i64 fp, .bool us, .string uh, .int .i64 up, .string pa, .string qu, .string me, .slice ra rl rc, .bool false, .string bo] w3) := HQ2'.out.step hb3
      clear hb3 c1 c2 c3 c11
      have c11 := HQ3'.out.at 11 _ rfl
      cases r
      · go_wp2
        go_ret
        exact ⟨ret_bool (by rw [HA.out, HB.out]; rfl), HQ3'.out.bel⟩
      · go_wp2
        go_ret
        exact ⟨ret_bool (by rw [HA.out, HB.out]; rfl), HQ3'.out.bel⟩
    · go_wp2
      go_ret
      exact ⟨ret_bool (by rw [HA.out, HB.out]; rfl), HQ1'.out.bel⟩
  · go_wp2_with fail
    obtain ⟨f2, hg⟩ := HGC.out _ HQ1'.out.bel
    refine hg.mono ?_
    rintro e w2 ⟨rfl, hb2⟩
    have HQ2' : Hid (BoxQ 28 w #[.int .i64 pt, .bool fs, .string fh, .int .i64 fp, .bool us, .string uh, .int .i64 up, .string pa, .string qu, .string me, .slice ra rl rc, .bool true, .string bo] w2) := HQ1'.out.step hb2
    clear hg hb2 c1 c2 c3 c11
    have c1 := HQ2'.out.at 1 _ rfl
    have c2 := HQ2'.out.at 2 _ rfl
    have c3 := HQ2'.out.at 3 _ rfl
    have c11 := HQ2'.out.at 11 _ rfl
    go_wp2_with fail
    refine (HGT.out _ HQ2'.out.bel).mono ?_
    rintro e w3 ⟨rfl, hb3⟩
    have HQ3' : Hid (BoxQ 28 w #[.int .i64 pt, .bool fs, .string fh, .int .i64 fp, .bool us, .string uh, .int .i64 up, .string pa, .string qu, .string me, .slice ra rl rc, .bool true, .string bo] w3) := HQ2'.out.step hb3
    clear hb3 c1 c2 c3 c11
    have c11 := HQ3'.out.at 11 _ rfl
    cases r
    · go_wp2
      go_ret
      exact ⟨ret_bool (by rw [HA.out, HB.out]; cases q <;> rfl), HQ3'.out.bel⟩
    · go_wp2
      go_ret
      exact ⟨ret_bool (by rw [HA.out, HB.out]; cases q <;> simp), HQ3'.out.bel⟩
end Go.Proofs.YtoblpjknnchlmaaFmt

/- One byte as a text, by the document's own answer. -/
namespace Go.Proofs.YtoblpjknnchlmaaFmt
open Go.RowKit

set_option maxHeartbeats 400000 in
theorem char_any (n : Int) (h0 : 0 ≤ n) (h1 : n < 256) (w : World) :
    Calls Tryf.prog 26 #[.int .i64 n] w fun e w' => e = .returned (.string (bs [UInt8.ofNat n.toNat])) ∧ Below w.heap.size w w' := by
  have hback := run_convert_bytes_back (P := Tryf.prog) (w.alloc (.cells #[.int .u8 n] 5)) 37 9 5 ⟨w.heap.size, 0, none⟩ 1 [UInt8.ofNat n.toNat] Tryf.underlying37 Tryf.underlying5 Tryf.underlying9 (fun j hj => by
    have : j = 0 := by simpa using hj
    subst this
    simp only [List.getElem_cons_zero, ofNat_back n h0 h1]
    simp [Addr.add])
  have hb : (convert 37 9 (.slice (some ⟨w.heap.size, 0, none⟩) 1 1)).run Tryf.prog (w.alloc (.cells #[.int .u8 n] 5)) = .ok (.string (bs [UInt8.ofNat n.toNat])) (w.alloc (.cells #[.int .u8 n] 5)) := hback
  clear hback
  go_enter Tryf.func26, Tryf.ntmps26
  go_wp2
  go_ret
  exact ⟨rfl, (Below.refl _ _).alloc (Nat.le_refl _) _⟩
/-- The one-byte text, kept from the walk. -/
theorem char_o (n : Int) (h0 : 0 ≤ n) (h1 : n < 256) (w : World) :
    Calls Tryf.prog 26 #[.int .i64 n] w fun e w' => ∃ o : ByteArray, e = .returned (.string o) ∧ o.size = 1 ∧ Hid (o = bs [UInt8.ofNat n.toNat]) ∧ Below w.heap.size w w' := by
  refine (char_any n h0 h1 w).mono ?_
  rintro e w' ⟨rfl, hb⟩
  exact ⟨_, rfl, by simp [bs_size], rfl, hb⟩
end Go.Proofs.YtoblpjknnchlmaaFmt

/- Whether a number lies between two, by the document's own answer. -/
namespace Go.Proofs.YtoblpjknnchlmaaFmt
open Go.RowKit

set_option maxHeartbeats 400000 in
theorem within_any (n a b : Int) (w : World) :
    Calls Tryf.prog 25 #[.int .i64 n, .int .i64 a, .int .i64 b] w fun e w' => e = .returned (.bool (decide (a ≤ n ∧ n ≤ b))) ∧ w' = w := by
  by_cases h : a ≤ n
  · by_cases h2 : n ≤ b
    · go_enter Tryf.func25, Tryf.ntmps25
      go_wp2
      go_ret
      simp [h, h2]
    · go_enter Tryf.func25, Tryf.ntmps25
      go_wp2
      go_ret
      simp [h2]
  · go_enter Tryf.func25, Tryf.ntmps25
    go_wp2
    go_ret
    simp; omega

theorem within_yes (n a b : Int) (h : a ≤ n) (h2 : n ≤ b) (w : World) : Calls Tryf.prog 25 #[.int .i64 n, .int .i64 a, .int .i64 b] w fun e w' => e = .returned (.bool true) ∧ w' = w := by
  refine (within_any n a b w).mono ?_
  rintro e w' ⟨rfl, rfl⟩
  simp [h, h2]
theorem within_no (n a b : Int) (h : ¬ (a ≤ n ∧ n ≤ b)) (w : World) : Calls Tryf.prog 25 #[.int .i64 n, .int .i64 a, .int .i64 b] w fun e w' => e = .returned (.bool false) ∧ w' = w := by
  refine (within_any n a b w).mono ?_
  rintro e w' ⟨rfl, rfl⟩
  rw [decide_eq_false h]
  exact ⟨rfl, rfl⟩
end Go.Proofs.YtoblpjknnchlmaaFmt

/- The document's own small letters, told as a list of bytes. -/
namespace Go.Proofs.YtoblpjknnchlmaaFmt
open Go.RowKit

set_option maxHeartbeats 400000 in
theorem refLower_any (s : ByteArray) (w : World) (hs : s.size ≤ 20000) :
    Calls Tryf.prog 22 #[.string s] w fun e w' => e = .returned (.string (bs (s.data.toList.map low))) ∧ Below w.heap.size w w' := by
  go_enter Tryf.func22, Tryf.ntmps22
  go_wp2
  go_loopw [3, 8] (fun v i wr => ∃ (k : Nat) (o : ByteArray), k ≤ s.size ∧ i = .int .i64 k ∧ v = .string o ∧ o.size = k ∧ Hid (o = bs ((s.data.toList.take k).map low)) ∧ Below w.heap.size w wr) (fun _ i _ => s.size - (intOf i).toNat)
  case atStart => exact ⟨0, _, Nat.zero_le _, rfl, rfl, rfl, rfl, Below.refl _ _⟩
  case round =>
    obtain ⟨k, o, hk, rfl, rfl, ho, HO, hb⟩ := hrel
    by_cases hlt : k < s.size
    · obtain ⟨c, hcd⟩ : ∃ c : UInt8, s[k] = c := ⟨_, rfl⟩
      have hcl : (c.toNat : Int) < 256 := by have := c.toNat_lt; omega
      have HS : Hid (s.data.toList.take (k + 1) = s.data.toList.take k ++ [c]) := by rw [← hcd]; exact take_snoc s k hlt
      by_cases hc : 65 ≤ (c.toNat : Int) ∧ (c.toNat : Int) ≤ 90
      · have HL : Hid (UInt8.ofNat ((c.toNat : Int) + 32).toNat = low c) := low_in _ hc
        go_wp2_with (first | (go_at_call 25; refine (within_yes _ _ _ hc.1 hc.2 _).mono ?_; rintro e w' ⟨rfl, rfl⟩) | (go_at_call 26; refine (char_o _ (by omega) (by omega) _).mono ?_; rintro e w' ⟨t, rfl, ht, HT, hb2⟩))
        go_roundw
        case rel => exact ⟨k + 1, o ++ t, by omega, by go_num, rfl, by simp [ho, ht], by show o ++ t = _; rw [HS.out, List.map_append, bs_append, HO.out, HT.out, HL.out]; rfl, hb.trans (hb2.mono hb.size)⟩
        case measure => simp [intOf]; omega
      · have HL : Hid (low c = c) := low_out _ hc
        go_wp2_with (first | (go_at_call 25; refine (within_no _ _ _ hc _).mono ?_; rintro e w' ⟨rfl, rfl⟩) | (go_at_call 26; refine (char_o _ (by omega) (by omega) _).mono ?_; rintro e w' ⟨t, rfl, ht, HT, hb2⟩))
        go_roundw
        case rel => exact ⟨k + 1, o ++ t, by omega, by go_num, rfl, by simp [ho, ht], by show o ++ t = _; rw [HS.out, List.map_append, bs_append, HO.out, HT.out]; simp [HL.out], hb.trans (hb2.mono hb.size)⟩
        case measure => simp [intOf]; omega
    · go_wp2
      go_ret
      exact ⟨ret_str (by rw [HO.out, List.take_of_length_le (by simp; omega)]), hb⟩

end Go.Proofs.YtoblpjknnchlmaaFmt

/- Whether two texts are alike, by the document. -/
namespace Go.Proofs.YtoblpjknnchlmaaFmt
open Go.RowKit

set_option maxHeartbeats 1000000 in
theorem refSame_any (s t : ByteArray) (hs : s.size ≤ 4000) (ht : t.size ≤ 4000) (w : World) :
    Calls Tryf.prog 16 #[.string s, .string t] w fun e w' => e = .returned (.bool (sameL s.data.toList t.data.toList)) ∧ Below w.heap.size w w' := by
  obtain ⟨x, HX⟩ : ∃ x : ByteArray, Hid (bs (s.data.toList.map low) = x) := ⟨_, rfl⟩
  obtain ⟨y, HY⟩ : ∃ y : ByteArray, Hid (bs (t.data.toList.map low) = y) := ⟨_, rfl⟩
  have HS : Hid (sameL s.data.toList t.data.toList = (x.toList == y.toList)) := by show _ = _; rw [← HX.out, ← HY.out, eq_bs]; rfl
  go_enter Tryf.func16, Tryf.ntmps16
  go_wp2_with fail
  refine (refLower_any s _ (by omega)).mono ?_
  rintro e w1 ⟨rfl, hb1⟩
  rw [HX.out]
  go_wp2_with fail
  refine (refLower_any t _ (by omega)).mono ?_
  rintro e w2 ⟨rfl, hb2⟩
  rw [HY.out]
  go_wp2
  go_ret
  exact ⟨ret_bool HS.out.symm, hb1.trans (hb2.mono hb1.size)⟩
end Go.Proofs.YtoblpjknnchlmaaFmt

/- The document's FieldGet: the values of a field. -/
namespace Go.Proofs.YtoblpjknnchlmaaFmt
open Go.RowKit

set_option maxRecDepth 100000 in
set_option maxHeartbeats 4000000 in
theorem refGet9_any (ps : List Par) (hf : Few9 ps) (n : ByteArray) (hn : n.size ≤ 4000) (a0 : Option Addr) (len cap b off : Nat) (w : World) (hx : Pars w a0 len b off ps) :
    Calls Tryf.prog 9 #[.slice a0 len cap, .string n] w fun e w' => e = .returned (.tuple #[.string (bs (fieldT n.data.toList ps)), .bool (fieldL n.data.toList ps).isSome]) ∧ Below w.heap.size w w' := by
  have HX : Hid (Pars w a0 len b off ps) := hx
  have HF : Hid (Few9 ps) := hf
  have hl := hx.len_eq
  have hlen : len ≤ 45 := by have := hf.1; omega
  have HL : Hid (ps.length = len) := hl
  clear hx hf hl
  go_enter Tryf.func9, Tryf.ntmps9
  go_wp2
  go_loopw [6, 7, 12] (fun t v i wr => ∃ (k : Nat) (s : Option (List UInt8)) (x : ByteArray), k ≤ len ∧ i = .int .i64 k ∧ v = .bool s.isSome ∧ t = .string x ∧ x.size ≤ 302 * 45 ∧ Hid (x = bs (s.getD [])) ∧ Hid (fieldL n.data.toList (ps.take k) = s) ∧ Hid (Below w.heap.size w wr)) (fun _ _ i _ => len - (intOf i).toNat)
  case atStart => exact ⟨0, none, ⟨#[]⟩, Nat.zero_le _, rfl, rfl, rfl, by decide, rfl, rfl, Below.refl _ _⟩
  case round =>
    obtain ⟨k, s, x, hk, rfl, rfl, rfl, hxz, HXS, HK, HI⟩ := hrel
    by_cases hlt : k < len
    · have hltz : (k : Int) < (len : Int) := by omega
      obtain ⟨p, hp⟩ : ∃ p, ps[k]? = some p := ⟨ps[k]'(by have := HL.out; omega), List.getElem?_eq_getElem _⟩
      obtain ⟨pn, pv⟩ := p
      have HPK : Hid (ps[k]? = some (pn, pv)) := hp
      have hpz := HF.out.2 _ (List.mem_of_getElem? hp)
      have hz1 : pn.size ≤ 300 := hpz.1
      have hz2 : pv.size ≤ 300 := hpz.2
      obtain ⟨ha0, _⟩ := (HX.out.below HI.out).lies (by omega)
      subst ha0
      have c1 := (HX.out.below HI.out).one k _ hp
      have c2 := (HX.out.below HI.out).two k _ hp
      have HSZ : Hid ((fieldT n.data.toList (ps.take (k + 1))).length ≤ 302 * 45) := by
        have h1 := fieldT_take_len n.data.toList ps 300 (fun p hp => (HF.out.2 p hp).2) (k + 1)
        have h3 : (300 + 2) * (k + 1) ≤ 302 * 45 := Nat.mul_le_mul_left _ (by omega)
        exact Nat.le_trans h1 h3
      have HB1 : Hid (Below wr.heap.size wr (wr.alloc (.cells #[.string pn, .string pv] 32))) := (Below.refl _ _).alloc (Nat.le_refl _) _
      have HBOX : Hid ((wr.alloc (.cells #[.string pn, .string pv] 32)).heap[wr.heap.size]? = some (.cells #[.string pn, .string pv] 32 (0, 0))) := heap_alloc_new wr _
      clear hp hpz
      obtain ⟨q, HQ⟩ : ∃ q, Hid (sameL pn.data.toList n.data.toList = q) := ⟨_, rfl⟩
      have hsm := fun w => refSame_any pn n (by omega) hn w
      rw [HQ.out] at hsm
      cases q
      · have HN : Hid (fieldL n.data.toList (ps.take (k + 1)) = s) := (fieldL_other HPK.out HQ.out).trans HK.out
        go_wp2_with fail
        refine (hsm _).mono ?_
        rintro e w2 ⟨rfl, hb2⟩
        have HI2 : Hid (Below w.heap.size w w2) := HI.out.trans ((HB1.out.trans (hb2.mono HB1.out.size)).mono HI.out.size)
        clear hb2
        go_wp2
        go_roundw
        case rel => exact ⟨k + 1, s, x, by omega, by go_num, rfl, rfl, hxz, HXS, HN, HI2⟩
        case measure => simp [intOf]; omega
      · have HN : Hid (fieldL n.data.toList (ps.take (k + 1)) = some (joinV s pv.data.toList)) := by
          have := fieldL_same HPK.out HQ.out
          rw [HK.out] at this
          exact this
        have HT : Hid (fieldT n.data.toList (ps.take (k + 1)) = joinV s pv.data.toList) := fieldT_some HN.out
        cases s with
        | none =>
          obtain rfl : x = ⟨#[]⟩ := HXS.out
          obtain ⟨y, HY⟩ : ∃ y : ByteArray, Hid ((⟨#[]⟩ : ByteArray) ++ pv = y) := ⟨_, rfl⟩
          have HYS : Hid (y = bs pv.data.toList) := by show _ = _; rw [← HY.out]; apply ByteArray.ext; simp [bs]
          have hyz : y.size ≤ 302 * 45 := by rw [← HY.out, ByteArray.size_append]; exact Nat.le_trans (by rw [show (⟨#[]⟩ : ByteArray).size = 0 from rfl, Nat.zero_add]; exact hz2) (show 300 ≤ 302 * 45 by decide)
          go_wp2_with fail
          refine (hsm _).mono ?_
          rintro e w2 ⟨rfl, hb2⟩
          have HI2 : Hid (Below w.heap.size w w2) := HI.out.trans ((HB1.out.trans (hb2.mono HB1.out.size)).mono HI.out.size)
          have hd1 := cells_of (below_block hb2 HBOX.out) 1 _ rfl
          clear hb2
          go_wp2
          go_roundw
          case rel => exact ⟨k + 1, some pv.data.toList, _, by omega, by go_num, rfl, rfl, by rw [HY.out]; exact hyz, by rw [HY.out]; exact HYS, HN, HI2⟩
          case measure => simp [intOf]; omega
        | some o =>
          have HYS : Hid (x ++ ⟨#[44, 32]⟩ ++ pv = bs (o ++ 44 :: 32 :: pv.data.toList)) := by
            show _ = _
            rw [HXS.out]
            apply ByteArray.ext
            apply Array.ext'
            simp [bs]
          have HYZ : Hid ((x ++ ⟨#[44, 32]⟩ ++ pv : ByteArray).size ≤ 302 * 45) := by
            show _ ≤ _
            have := HSZ.out
            rw [HT.out] at this
            rw [HYS.out]
            rw [bs_size]
            exact this
          go_wp2_with fail
          refine (hsm _).mono ?_
          rintro e w2 ⟨rfl, hb2⟩
          have HI2 : Hid (Below w.heap.size w w2) := HI.out.trans ((HB1.out.trans (hb2.mono HB1.out.size)).mono HI.out.size)
          have hd1 := cells_of (below_block hb2 HBOX.out) 1 _ rfl
          clear hb2
          go_wp2
          go_roundw
          case rel => exact ⟨k + 1, some (o ++ 44 :: 32 :: pv.data.toList), _, by omega, by go_num, rfl, rfl, HYZ.out, HYS, HN, HI2⟩
          case measure => simp [intOf]; omega
    · have hltz : ¬ (k : Int) < (len : Int) := by omega
      have HE : Hid (fieldL n.data.toList ps = s) := by
        have := HK.out
        rw [List.take_of_length_le (by have := HL.out; omega)] at this
        exact this
      have HT : Hid (fieldT n.data.toList ps = s.getD []) := by show _ = _; unfold fieldT; rw [HE.out]
      go_wp2
      go_ret2
      exact ⟨by rw [HE.out, HT.out, HXS.out]; rfl, HI.out⟩
end Go.Proofs.YtoblpjknnchlmaaFmt

/- What fmt.Sprint writes of a colon and a number. -/
namespace Go.Proofs.YtoblpjknnchlmaaFmt
open Go.RowKit
open Go.Extern.Stop Go.Stop Go.Extern

theorem callSprint (args : Array Value) (w : World) : (callFunc 18 args).run Tryf.prog w = ((FmtStop.sprint "fmt.Sprint" #[89] #[9] args).run Tryf.prog w).andThen fun v w' => .ok (.value v) w' :=
  run_callFunc_extern Tryf.func18 (by kernel_rfl) (by kernel_rfl) (by kernel_rfl) (by kernel_rfl) args w
theorem fguard (name : String) (w : World) : (FmtStop.guard name).run Tryf.prog w = .ok () w := by kernel_rfl
def shape3 : List UInt8 := [5, 3, 0, 0, 0, 0, 0, 0, 0, 105, 110, 116]
def shape9 : List UInt8 := [12, 6, 0, 0, 0, 0, 0, 0, 0, 115, 116, 114, 105, 110, 103]
theorem op3v (name : String) (x : Int) (w : World) : (FmtStop.operand name false 118 false (.iface 3 (.int .i64 x))).run Tryf.prog w = .ok (shape3, Go.Extern.Stop.digits 8 (x % 2 ^ 64).toNat) w := by kernel_rfl
theorem op9v (name : String) (w : World) : (FmtStop.operand name false 118 false (.iface 9 (.string ⟨#[58]⟩))).run Tryf.prog w = .ok (shape9, FmtStop.pack [58]) w := by kernel_rfl
theorem textP (x : Int) (hw : (Lit.int .i64 x).wf = true) : FmtText.text "fmt.Sprint" [shape9, FmtStop.pack [58], shape3, Go.Extern.Stop.digits 8 (x % 18446744073709551616).toNat] = some (58 :: Lib.itoa x) := by
  have ho := FmtText.operand_int_at (sh := shape3) (k := .i64) (n := [3, 0, 0, 0, 0, 0, 0, 0, 105, 110, 116]) (name := [105, 110, 116]) rfl rfl x hw
  have h9 := FmtText.operand_str_at (sh := shape9) (n := [6, 0, 0, 0, 0, 0, 0, 0, 115, 116, 114, 105, 110, 103]) (name := [115, 116, 114, 105, 110, 103]) rfl rfl [58] (by simp)
  have hp := FmtText.printArg_v false [105, 110, 116] hw
  rw [FmtText.text_sprint (FmtText.operands_cons h9 (FmtText.operands_cons ho FmtText.operands_nil))]
  simp [FmtText.doPrint, FmtText.printArg_v_str, hp, FmtText.isString]
theorem toldP (F : Interp) (x : Int) (hw : (Lit.int .i64 x).wf = true) : FmtStop.textOf (F.told "fmt.Sprint" [shape9, FmtStop.pack [58], shape3, Go.Extern.Stop.digits 8 (x % 18446744073709551616).toNat] 0) = bs (58 :: Lib.itoa x) := by
  have := told_string F (textP x hw) (by have := FmtText.itoa_length_le hw; simp; omega)
  rw [← Kit.textOf_list] at this
  rw [← bs_self (FmtStop.textOf _), this]
end Go.Proofs.YtoblpjknnchlmaaFmt

/- The document's own port. -/
namespace Go.Proofs.YtoblpjknnchlmaaFmt
open Go.RowKit
open Go.Maps

theorem zero3 (w : World) : (zeroValue 3).run Tryf.prog w = .ok (.int .i64 0) w := by kernel_rfl
theorem port_at (b : Bool) : (((DataW.map [] : DataW Unit).put (.bool true) (.lit (.int .i64 443))).put (.bool false) (.lit (.int .i64 80))).atKey (.bool b) (.lit (.int .i64 0)) = .lit (.int .i64 (portI b)) := by
  cases b <;> rfl
theorem refPort (b : Bool) (w : World) :
    Calls Tryf.prog 17 #[.bool b] w fun e w' => e = .returned (.int .i64 (portI b)) ∧ Below w.heap.size w w' := by
  have hmm := @run_makeMap Tryf.prog
  have law : Maps.Keyed Tryf.prog 4 := Maps.bool_keyed Tryf.underlying4
  have h0 := World.ownsMap_made (H := Unit) w Tryf.prog 4 (plainElem Tryf.prog 3)
  obtain ⟨w1, r1, o1, g1⟩ := h0.update law Tryf.underlying55 (by unfold maxLen; omega) (keyOf_bool_mk Tryf.underlying4 true) (plainElem_int (a := 443) Tryf.underlying3 (by decide))
  obtain ⟨w2, r2, o2, g2⟩ := o1.update law Tryf.underlying55 (by unfold maxLen; omega) (keyOf_bool_mk Tryf.underlying4 false) (plainElem_int (a := 80) Tryf.underlying3 (by decide))
  obtain ⟨c, r3, hc, _⟩ := o2.lookup_int law Tryf.underlying55 Tryf.underlying3 (zero3 _) (keyOf_bool_mk Tryf.underlying4 b)
  rw [port_at] at hc
  simp only [DataW.lit.injEq, Lit.int.injEq, true_and] at hc
  have HC : Hid (portI b = c) := hc
  have hb : Below w.heap.size w w2 := (((Below.refl _ _).alloc (Nat.le_refl _) _).grown g1 (by simp) (by simp)).grown g2 (Nat.le_trans (by simp) g1.size) (by simp)
  clear hc o1 o2 h0 g1 g2
  go_enter Tryf.func17, Tryf.ntmps17
  go_wp2
  go_ret
  refine ⟨?_, hb⟩
  rw [HC.out]
  rfl
end Go.Proofs.YtoblpjknnchlmaaFmt
