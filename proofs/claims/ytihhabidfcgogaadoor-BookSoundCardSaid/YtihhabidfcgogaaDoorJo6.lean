/- Texts of one claim, joined: each begins with what it proves. -/
import Derived.Test.YtihhabidfcgogaaDoorJo5
import Derived.Test.YtihhabidfcgogaaDoorJo3
import Derived.Test.YtihhabidfcgogaaDoorJo4
import Derived.Test.YtihhabidfcgogaaDoorJo1
import Derived.Test.YtihhabidfcgogaaDoorJo2
import Derived.Deep.QuietTactic
import Derived.BigQuiet
import Derived.Deep.LoopGhost
import Derived.ProofKit
import Derived.OpenShut
import Derived.SliceStrings
import Derived.Carry
import Derived.SizedLaws
import Derived.Deep.Slices
import Derived.Deep.SlicePairs
import Derived.Deep.Strs
import Derived.Lib.SmallJoins
/- The facts of booked: a pass that counts for a time. -/
namespace Go.Proofs.YtihhabidfcgogaaDoor
open Go.RowKit
set_option linter.unusedVariables false

set_option maxRecDepth 100000 in
set_option maxHeartbeats 2000000 in
theorem homeP_any (w : World) : Calls Tryd.prog 23 #[] w fun e w' => e = .returned (.agg #[.bool true, .string ⟨#[97, 46, 116, 101, 115, 116]⟩, .int .i64 443]) ∧ Below w.heap.size w w' := by
  go_enter Tryd.func23, Tryd.ntmps23
  go_wp2
  exact bodyPost_ret (v := .agg #[.bool true, .string ⟨#[97, 46, 116, 101, 115, 116]⟩, .int .i64 443]) (res_cell rfl rfl Tryd.isAgg31 Tryd.sizeOf31 (vs := [.bool true, .string ⟨#[97, 46, 116, 101, 115, 116]⟩, .int .i64 443]) rfl (heap_alloc_new w _)) rfl ⟨rfl, (Below.refl _ _).alloc (Nat.le_refl _) _⟩
def bkR : RqV := ⟨0, true, ⟨#[97, 46, 116, 101, 115, 116]⟩, 443, true, ⟨#[98, 46, 116, 101, 115, 116]⟩, 443, ⟨#[47]⟩, ⟨#[]⟩, ⟨#[80, 85, 84]⟩, none, 0, 0, false, ⟨#[]⟩⟩
def bkP : PsV := ⟨true, ⟨#[97, 46, 116, 101, 115, 116]⟩, 443, true, ⟨#[98, 46, 116, 101, 115, 116]⟩, 443, ⟨#[47]⟩, ⟨#[]⟩, false, ⟨#[80, 85, 84]⟩, ⟨#[]⟩, 5⟩
theorem bk_put : putL 0 [] [bkP] = [bkP] := by
  have h : (0 : Int) < bkP.un := by decide
  simp [putL, pickL, h]
theorem bk_way : wayB bkR bkP = true := by
  unfold wayB
  simp [bkR, bkP]
theorem bk_need : needB bkR [] = true := by decide +kernel
theorem bk_yes : bookB bkR [] 4 [bkP] = true := by
  have h : forB bkR 4 bkP = true := by
    unfold forB
    rw [bk_way]
    decide
  unfold bookB
  rw [bk_need, List.filter_cons, if_pos h]
  decide +kernel
theorem bk_no : bookB bkR [] 5 [bkP] = false := by
  have h : forB bkR 5 bkP = false := by
    unfold forB
    rw [bk_way]
    decide
  unfold bookB
  rw [bk_need, List.filter_cons, if_neg (by rw [h]; simp)]
  decide +kernel
theorem bk_good : GoodP bkP := ⟨⟨by decide, by decide, by decide, by decide, by decide, by decide, by decide, by decide, by decide⟩, ⟨by decide, by decide, by decide, by decide, by decide, by decide⟩⟩
theorem bk_req {w W : World} (hm : Methods w) (hb : Below w.heap.size w W) : ReqOk bkR [] 0 0 W := ⟨fun p hp => (by cases hp), by decide, by decide, ⟨rfl, fun h => absurd h (by decide), fun j p hj => by simp at hj, fun j p hj => by simp at hj⟩, hm.below hb (Nat.le_refl _)⟩
/-- What the fact holds while it asks. -/
structure BkS (w : World) (gr : Nat) (v : Value) (xs : List PsV) (W : World) : Prop where
  bel : Below w.heap.size w W
  bok : BookW W w.heap.size w.heap.size v xs
  req : W.heap[gr]? = some (.cells #[.int .i64 0, .bool true, .string ⟨#[97, 46, 116, 101, 115, 116]⟩, .int .i64 443, .bool true, .string ⟨#[98, 46, 116, 101, 115, 116]⟩, .int .i64 443, .string ⟨#[47]⟩, .string ⟨#[]⟩, .string ⟨#[80, 85, 84]⟩, .slice none 0 0, .bool false, .string ⟨#[]⟩] 39 (0, 0))
theorem BkS.step {w W W' : World} {gr : Nat} {v : Value} {xs : List PsV} (h : BkS w gr v xs W) (hb : Below W.heap.size W W') : BkS w gr v xs W' :=
  ⟨h.bel.trans (hb.mono h.bel.size), h.bok.below hb, (hb.block _ (Array.getElem?_eq_some_iff.1 h.req).1).trans h.req⟩
theorem book_new (w : World) : BookW (w.alloc (.cells #[.slice none 0 0] 27)) w.heap.size w.heap.size (.slice none 0 0) [] := ⟨heap_alloc_new w _, Nat.le_refl _, ownQ_nil _ _, fun p hp => (by cases hp), by simp⟩
theorem pss_one (W : World) (x : PsV) : Pss (W.alloc (.cells x.vals.toArray 35)) (some ⟨W.heap.size, 0, none⟩) 1 W.heap.size 0 [x] := by
  refine ⟨rfl, fun _ => ⟨rfl, by simp⟩, fun j v hj i u hi => ?_⟩
  match j, hj with
  | 0, hj =>
    simp only [List.getElem?_cons_zero, Option.some.injEq] at hj
    subst hj
    rw [show (0 + 0 * 12 + i) = i by omega]
    exact (cell_of (heap_alloc_new W _)).trans (by simpa using hi)
  | j + 1, hj => simp at hj
set_option maxRecDepth 100000 in
set_option maxHeartbeats 4000000 in
theorem booked_any (w : World) (hm : Methods w) : Calls Tryd.prog 6 #[] w fun e w' => e = .returned (.bool true) ∧ Below w.heap.size w w' := by
  have HM : Hid (Methods w) := hm
  have hb0 : Below w.heap.size w (w.alloc (.cells #[.slice none 0 0] 27)) := (Below.refl _ _).alloc (Nat.le_refl _) _
  have HB0 : Hid (Below w.heap.size w (w.alloc (.cells #[.slice none 0 0] 27)) ∧ BookW (w.alloc (.cells #[.slice none 0 0] 27)) w.heap.size w.heap.size (.slice none 0 0) []) := ⟨hb0, book_new w⟩
  clear hm hb0
  go_enter Tryd.func6, Tryd.ntmps6
  go_wp2_with fail
  generalize w.alloc (.cells #[.slice none 0 0] 27) = W0 at HB0 ⊢
  refine (homeP_any _).mono ?_
  rintro e w1 ⟨rfl, hb1⟩
  have hs1 := hb1.size
  have hs0 := HB0.out.2.lt
  have hb2 : Below w1.heap.size w1 (w1.alloc (.cells #[.int .i64 0, .bool true, .string ⟨#[97, 46, 116, 101, 115, 116]⟩, .int .i64 443, .bool true, .string ⟨#[98, 46, 116, 101, 115, 116]⟩, .int .i64 443, .string ⟨#[47]⟩, .string ⟨#[]⟩, .string ⟨#[80, 85, 84]⟩, .slice none 0 0, .bool false, .string ⟨#[]⟩] 39)) := (Below.refl _ _).alloc (Nat.le_refl _) _
  have HS2 : Hid (BkS w w1.heap.size (.slice none 0 0) [] (w1.alloc (.cells #[.int .i64 0, .bool true, .string ⟨#[97, 46, 116, 101, 115, 116]⟩, .int .i64 443, .bool true, .string ⟨#[98, 46, 116, 101, 115, 116]⟩, .int .i64 443, .string ⟨#[47]⟩, .string ⟨#[]⟩, .string ⟨#[80, 85, 84]⟩, .slice none 0 0, .bool false, .string ⟨#[]⟩] 39))) := ⟨(HB0.out.1.trans (hb1.mono HB0.out.1.size)).trans (hb2.mono (Nat.le_trans HB0.out.1.size hb1.size)), (HB0.out.2.below hb1).below hb2, heap_alloc_new w1 _⟩
  have r2 := HS2.out.req
  clear hb1 hb2
  have hw1 : w.heap.size < w1.heap.size := by omega
  go_wp2_with fail
  have hs2 : (w1.alloc (.cells #[.int .i64 0, .bool true, .string ⟨#[97, 46, 116, 101, 115, 116]⟩, .int .i64 443, .bool true, .string ⟨#[98, 46, 116, 101, 115, 116]⟩, .int .i64 443, .string ⟨#[47]⟩, .string ⟨#[]⟩, .string ⟨#[80, 85, 84]⟩, .slice none 0 0, .bool false, .string ⟨#[]⟩] 39)).heap.size = w1.heap.size + 1 := by simp
  generalize hW2 : w1.alloc (.cells #[.int .i64 0, .bool true, .string ⟨#[97, 46, 116, 101, 115, 116]⟩, .int .i64 443, .bool true, .string ⟨#[98, 46, 116, 101, 115, 116]⟩, .int .i64 443, .string ⟨#[47]⟩, .string ⟨#[]⟩, .string ⟨#[80, 85, 84]⟩, .slice none 0 0, .bool false, .string ⟨#[]⟩] 39) = w2 at HS2 r2 hs2 ⊢
  have hb3 : Below w2.heap.size w2 (w2.alloc (.cells #[.bool true, .string ⟨#[97, 46, 116, 101, 115, 116]⟩, .int .i64 443, .bool true, .string ⟨#[98, 46, 116, 101, 115, 116]⟩, .int .i64 443, .string ⟨#[47]⟩, .string ⟨#[]⟩, .bool false, .string ⟨#[80, 85, 84]⟩, .string ⟨#[]⟩, .int .i64 5] 35)) := (Below.refl _ _).alloc (Nat.le_refl _) _
  have hp3 := pss_one w2 bkP
  rw [hs2] at hp3
  have HS3 : Hid (BkS w w1.heap.size (.slice none 0 0) [] (w2.alloc (.cells #[.bool true, .string ⟨#[97, 46, 116, 101, 115, 116]⟩, .int .i64 443, .bool true, .string ⟨#[98, 46, 116, 101, 115, 116]⟩, .int .i64 443, .string ⟨#[47]⟩, .string ⟨#[]⟩, .bool false, .string ⟨#[80, 85, 84]⟩, .string ⟨#[]⟩, .int .i64 5] 35))) := HS2.out.step hb3
  have hput := put_any _ HS3.out.bok [bkP] (some ⟨w1.heap.size + 1, 0, none⟩) 1 1 (w1.heap.size + 1) 0 hp3 (by decide) (fun p hp => by rw [List.mem_singleton.1 hp]; exact bk_good) 0
  rw [bk_put] at hput
  clear hb3 hp3 r2 hW2
  refine hput.mono ?_
  rintro e w4 ⟨⟨u, rfl⟩, v4, H4⟩
  clear hput
  have HS4 : Hid (BkS w w1.heap.size v4 [bkP] w4) := ⟨HS3.out.bel.grown H4.out.2.1 HS3.out.bel.size (fun i hi => by injection hi with hi; omega), H4.out.1, (H4.out.2.1.block _ (Array.getElem?_eq_some_iff.1 HS3.out.req).1 (by simp; omega)).trans HS3.out.req⟩
  have x4_0 := (cell_of (i := 0) HS4.out.req).trans rfl
  have x4_1 := (cell_of (i := 1) HS4.out.req).trans rfl
  have x4_2 := (cell_of (i := 2) HS4.out.req).trans rfl
  have x4_3 := (cell_of (i := 3) HS4.out.req).trans rfl
  have x4_4 := (cell_of (i := 4) HS4.out.req).trans rfl
  have x4_5 := (cell_of (i := 5) HS4.out.req).trans rfl
  have x4_6 := (cell_of (i := 6) HS4.out.req).trans rfl
  have x4_7 := (cell_of (i := 7) HS4.out.req).trans rfl
  have x4_8 := (cell_of (i := 8) HS4.out.req).trans rfl
  have x4_9 := (cell_of (i := 9) HS4.out.req).trans rfl
  have x4_10 := (cell_of (i := 10) HS4.out.req).trans rfl
  have x4_11 := (cell_of (i := 11) HS4.out.req).trans rfl
  have x4_12 := (cell_of (i := 12) HS4.out.req).trans rfl
  go_wp2_with fail
  have hc4 := bookCovers_any w4 HS4.out.bok bkR [] 0 0 (bk_req HM.out HS4.out.bel) 4
  rw [bk_yes] at hc4
  refine hc4.mono ?_
  rintro e w5 ⟨rfl, hb5⟩
  have HS5 : Hid (BkS w w1.heap.size v4 [bkP] w5) := HS4.out.step hb5
  clear hb5 hc4 x4_0 x4_1 x4_2 x4_3 x4_4 x4_5 x4_6 x4_7 x4_8 x4_9 x4_10 x4_11 x4_12
  have x5_0 := (cell_of (i := 0) HS5.out.req).trans rfl
  have x5_1 := (cell_of (i := 1) HS5.out.req).trans rfl
  have x5_2 := (cell_of (i := 2) HS5.out.req).trans rfl
  have x5_3 := (cell_of (i := 3) HS5.out.req).trans rfl
  have x5_4 := (cell_of (i := 4) HS5.out.req).trans rfl
  have x5_5 := (cell_of (i := 5) HS5.out.req).trans rfl
  have x5_6 := (cell_of (i := 6) HS5.out.req).trans rfl
  have x5_7 := (cell_of (i := 7) HS5.out.req).trans rfl
  have x5_8 := (cell_of (i := 8) HS5.out.req).trans rfl
  have x5_9 := (cell_of (i := 9) HS5.out.req).trans rfl
  have x5_10 := (cell_of (i := 10) HS5.out.req).trans rfl
  have x5_11 := (cell_of (i := 11) HS5.out.req).trans rfl
  have x5_12 := (cell_of (i := 12) HS5.out.req).trans rfl
  go_wp2_with fail
  have hc5 := bookCovers_any w5 HS5.out.bok bkR [] 0 0 (bk_req HM.out HS5.out.bel) 5
  rw [bk_no] at hc5
  refine hc5.mono ?_
  rintro e w6 ⟨rfl, hb6⟩
  have HS6 : Hid (BkS w w1.heap.size v4 [bkP] w6) := HS5.out.step hb6
  clear hb6 hc5 x5_0 x5_1 x5_2 x5_3 x5_4 x5_5 x5_6 x5_7 x5_8 x5_9 x5_10 x5_11 x5_12
  go_wp2_with fail
  refine (list_any w6 HS6.out.bok).mono ?_
  rintro e w7 ⟨⟨u7, rfl, h7⟩, hb7⟩
  obtain ⟨a7, c7, g7, rfl, _⟩ := OwnQ.pss h7
  have HB7 : Hid (Below w.heap.size w w7) := HS6.out.bel.trans (hb7.mono HS6.out.bel.size)
  clear hb7 h7
  rw [show [bkP].length = 1 from rfl]
  go_wp2
  go_ret
  exact ⟨rfl, HB7.out⟩
end Go.Proofs.YtihhabidfcgogaaDoor

/- Passes few and short enough to be held, by the law's own function. -/
namespace Go.Proofs.YtihhabidfcgogaaDoor
open Go.RowKit
set_option linter.unusedVariables false

/-- A pass whose texts are long. -/
def longP (p : PsV) : Bool := decide (400 < p.me.size + p.he.size + p.pa.size + p.qu.size + p.uh.size + p.fh.size)
def passesL (ps : List PsV) : Bool := decide (ps.length ≤ 60) && !ps.any longP
theorem passesL_len {ps : List PsV} (h : passesL ps = true) : ps.length ≤ 60 := by
  unfold passesL at h
  simp only [Bool.and_eq_true, decide_eq_true_eq] at h
  exact h.1
set_option maxRecDepth 100000 in
set_option maxHeartbeats 2000000 in
theorem longIs (p : PsV) (hp : Wee p) (w : World) :
    Calls Tryd.prog 24 #[.agg #[.bool p.fs, .string p.fh, .int .i64 p.fp, .bool p.us, .string p.uh, .int .i64 p.up, .string p.pa, .string p.qu, .bool p.wi, .string p.me, .string p.he, .int .i64 p.un]] w fun e w' => e = .returned (.bool (longP p)) ∧ Below w.heap.size w w' := by
  have h1 := hp.h1
  have h2 := hp.h2
  have h3 := hp.h3
  have h4 := hp.h4
  have h5 := hp.h5
  have h6 := hp.h6
  have HB : Hid (Below w.heap.size w (w.alloc (.cells #[.bool p.fs, .string p.fh, .int .i64 p.fp, .bool p.us, .string p.uh, .int .i64 p.up, .string p.pa, .string p.qu, .bool p.wi, .string p.me, .string p.he, .int .i64 p.un] 35))) := (Below.refl _ _).alloc (Nat.le_refl _) _
  go_enter Tryd.func24, Tryd.ntmps24
  go_wp2
  go_ret
  refine ⟨ret_bool ?_, HB.out⟩
  unfold longP
  exact decide_eq_decide.2 (by omega)
theorem kindLP (ps : List PsV) (hz : ∀ p ∈ ps, Wee p) (w : World) : KindQ 24 #[] longP ps w :=
  ⟨fun p hp W _ => longIs p (hz p hp) W, enters_at Tryd.func24 (by kernel_rfl) rfl⟩
set_option maxRecDepth 100000 in
set_option maxHeartbeats 2000000 in
theorem passes_any (ps : List PsV) (hz : ∀ p ∈ ps, Wee p) (a0 : Option Addr) (len cap b off : Nat) (hlb : len ≤ 9223372036854775807) (w : World) (hx : Pss w a0 len b off ps) :
    Calls Tryd.prog 7 #[.slice a0 len cap] w fun e w' => e = .returned (.bool (passesL ps)) ∧ Below w.heap.size w w' := by
  have HL : Hid (ps.length = len) := hx.len_eq
  go_enter Tryd.func7, Tryd.ntmps7
  by_cases h : len ≤ 60
  · have hi : (len : Int) ≤ 60 := by omega
    have hc := containsQ_any 24 #[] longP ps w (kindLP ps hz w) a0 len cap b off (by omega) hx
    clear hz hx
    obtain ⟨r, HR⟩ : ∃ r, Hid (ps.any longP = r) := ⟨_, rfl⟩
    rw [HR.out] at hc
    go_wp2_with fail
    refine hc.mono ?_
    rintro e w1 ⟨rfl, hb⟩
    go_wp2
    go_ret
    refine ⟨ret_bool ?_, hb⟩
    unfold passesL
    rw [HR.out, HL.out, decide_eq_true h]
    simp
  · have hi : ¬ (len : Int) ≤ 60 := by omega
    clear hz hx
    go_wp2
    go_ret
    refine ⟨ret_bool ?_, Below.refl _ _⟩
    unfold passesL
    rw [HL.out, decide_eq_false h]
    rfl
end Go.Proofs.YtihhabidfcgogaaDoor

/- Headers that are too long to be held. -/
namespace Go.Proofs.YtihhabidfcgogaaDoor
open Go.RowKit

def overP (p : Par) : Bool := decide (300 < p.1.size + p.2.size)
/-- Headers that are too many, or too long; n: the bytes of all else. -/
def largeL (ps : List Par) (n : Nat) : Bool := decide (45 < ps.length) || (decide (900 < n) || ps.any overP)
theorem over_snoc {ps : List Par} {k : Nat} {p : Par} (h : (ps.take k).any overP = false) (hk : ps[k]? = some p) (hp : ¬ 300 < p.1.size + p.2.size) : (ps.take (k + 1)).any overP = false := by
  obtain ⟨hk1, e⟩ := List.getElem?_eq_some_iff.1 hk
  rw [List.take_succ_eq_append_getElem hk1, List.any_append, h, e]
  have : overP p = false := by unfold overP; exact decide_eq_false hp
  simp [this]
theorem large_small {ps : List Par} {n : Nat} (h : largeL ps n = false) : ps.length ≤ 45 ∧ n ≤ 900 ∧ ∀ p ∈ ps, p.1.size + p.2.size ≤ 300 := by
  unfold largeL at h
  simp only [Bool.or_eq_false_iff, decide_eq_false_iff_not] at h
  refine ⟨by omega, by omega, fun p hp => ?_⟩
  have h3 := List.any_eq_false.1 h.2.2 p hp
  unfold overP at h3
  simpa using h3
end Go.Proofs.YtihhabidfcgogaaDoor

/- New blocks: what they hold, and that nothing older has turned. -/
namespace Go.Proofs.YtihhabidfcgogaaDoor
open Go.RowKit

theorem cells_new (W : World) (cs : Array Value) (t : TypeId) (j : Nat) : (W.alloc (.cells cs t)).cell? ⟨W.heap.size, j, none⟩ = cs[j]? := World.cell?_alloc_mark _ _ _ _ _
theorem drewN_below {B : Nat} {a w : World} (h : Below B a w) (n : Nat) : Below B a (w.drewN n) := h.trans ⟨rfl, rfl, rfl, Nat.le_refl _, fun _ _ => rfl⟩
end Go.Proofs.YtihhabidfcgogaaDoor

/- Whether headers are few, by the law's own words: the library's functions over a row of parameters that lies somewhere. -/
namespace Go.Proofs.YtihhabidfcgogaaDoor
open Go.RowKit

/-- A function that says whether a parameter is of a kind, at these. -/
structure KindP (K : Nat) (f : Par → Bool) (ps : List Par) : Prop where
  says : ∀ p ∈ ps, ∀ w : World, Calls Tryd.prog K #[.agg #[.string p.1, .string p.2]] w fun e w' => e = .returned (.bool (f p)) ∧ Below w.heap.size w w'
  enters : ∀ (args : Array Value) (w : World), (callFunc K args).run Tryd.prog w = .ok (.enter K args) w
set_option maxRecDepth 100000 in
set_option maxHeartbeats 2000000 in
theorem indexP8_any (K : Nat) (f : Par → Bool) (ps : List Par) (hK : KindP K f ps) (a0 : Option Addr) (len cap b off : Nat) (hlen : len ≤ 1000000) (w : World) (hx : Pars w a0 len b off ps) :
    Calls Tryd.prog 60 #[.slice a0 len cap, .func (.func K) #[] #[]] w fun e w' => (∃ r : Int, e = .returned (.int .i64 r) ∧ Hid (decide (0 ≤ r) = ps.any f)) ∧ Below w.heap.size w w' := by
  have HX : Hid (Pars w a0 len b off ps) := hx
  have hl := hx.len_eq
  have HK0 : Hid (KindP K f ps) := hK
  have hen := hK.enters
  clear hK hx
  go_enter Tryd.func60, Tryd.ntmps60
  go_wp2
  go_loopw [8] (fun i wr => ∃ (k : Nat), k ≤ len ∧ i = .int .i64 k ∧ Hid ((ps.take k).any f = false) ∧ Hid (Below w.heap.size w wr)) (fun i _ => len - (intOf i).toNat)
  case atStart => exact ⟨0, Nat.zero_le _, rfl, rfl, Below.refl _ _⟩
  case round =>
    obtain ⟨k, hk, rfl, HK, HB⟩ := hrel
    by_cases hlt : k < len
    · have hltz : (k : Int) < (len : Int) := by omega
      obtain ⟨p, hp⟩ : ∃ p, ps[k]? = some p := ⟨ps[k]'(by omega), List.getElem?_eq_getElem (by omega)⟩
      obtain ⟨pn, pv⟩ := p
      have HPK : Hid (ps[k]? = some (pn, pv)) := hp
      have HM : Hid ((pn, pv) ∈ ps) := List.mem_of_getElem? hp
      obtain ⟨ha0, _⟩ := HX.out.lies (by omega)
      subst ha0
      have hXr := HX.out.below HB.out
      have c1 : wr.cell? ⟨b, off + k * 2, none⟩ = some (.string pn) := hXr.one k _ hp
      have c2 : wr.cell? ⟨b, off + k * 2 + 1, none⟩ = some (.string pv) := hXr.two k _ hp
      have hsay := HK0.out.says _ HM.out
      clear hp hXr
      cases hf : f (pn, pv)
      · have HS : Hid ((ps.take (k + 1)).any f = false) := by
          show _ = _
          obtain ⟨hk1, e⟩ := List.getElem?_eq_some_iff.1 HPK.out
          rw [List.take_succ_eq_append_getElem hk1, List.any_append, HK.out, e]
          simp [hf]
        go_wp2_with fail
        refine (hsay _).mono ?_
        rintro e w' ⟨rfl, hb'⟩
        rw [hf]
        have HB2 : Hid (Below w.heap.size w w') := HB.out.trans (hb'.mono HB.out.size)
        clear hb'
        go_wp2
        go_roundw
        case rel => exact ⟨k + 1, by omega, by go_num, HS, HB2⟩
        case measure => simp [intOf]; omega
      · have HS : Hid (ps.any f = true) := List.any_eq_true.2 ⟨_, HM.out, hf⟩
        go_wp2_with fail
        refine (hsay _).mono ?_
        rintro e w' ⟨rfl, hb'⟩
        rw [hf]
        have HB2 : Hid (Below w.heap.size w w') := HB.out.trans (hb'.mono HB.out.size)
        clear hb'
        go_wp2
        go_ret
        exact ⟨⟨_, rfl, by show _ = _; rw [HS.out]; exact decide_eq_true (Int.natCast_nonneg _)⟩, HB2.out⟩
    · have hltz : ¬ (k : Int) < (len : Int) := by omega
      have HS : Hid (ps.any f = false) := by
        have := HK.out
        rw [List.take_of_length_le (by omega)] at this
        exact this
      go_wp2
      go_ret
      exact ⟨⟨_, rfl, by show _ = _; rw [HS.out]; rfl⟩, HB.out⟩
theorem overF_any (p : Par) (h1 : p.1.size ≤ 140737488355328) (h2 : p.2.size ≤ 140737488355328) (w : World) :
    Calls Tryd.prog 49 #[.agg #[.string p.1, .string p.2]] w fun e w' => e = .returned (.bool (overP p)) ∧ Below w.heap.size w w' := by
  obtain ⟨x, y⟩ := p
  simp only at h1 h2 ⊢
  have HO : Hid (overP (x, y) = decide ((300 : Int) < (x.size : Int) + (y.size : Int))) := by
    show _ = _
    unfold overP
    simp only [← Int.ofNat_lt]
    rfl
  go_enter Tryd.func49, Tryd.ntmps49
  go_wp2
  go_ret
  exact ⟨ret_bool HO.out.symm, (Below.refl _ _).alloc (Nat.le_refl _) _⟩
/-- Few headers, and small ones. -/
def fewL (ps : List Par) : Bool := decide (ps.length ≤ 40) && !ps.any overP
set_option maxHeartbeats 1000000 in
theorem few_any (ps : List Par) (hz : ∀ p ∈ ps, p.1.size ≤ 140737488355328 ∧ p.2.size ≤ 140737488355328) (a0 : Option Addr) (len cap b off : Nat) (hlb : len ≤ 9223372036854775807) (w : World) (hx : Pars w a0 len b off ps) :
    Calls Tryd.prog 31 #[.slice a0 len cap] w fun e w' => e = .returned (.bool (fewL ps)) ∧ Below w.heap.size w w' := by
  have hl := hx.len_eq
  by_cases h : len ≤ 40
  · have h' : (len : Int) ≤ 40 := by omega
    have hK : KindP 49 overP ps := ⟨fun p hp w => overF_any p (hz p hp).1 (hz p hp).2 w, enters_at Tryd.func49 (by kernel_rfl) rfl⟩
    have hcon : ∀ w', Pars w' a0 len b off ps → Calls Tryd.prog 48 #[.slice a0 len cap, .func (.func 49) #[] #[]] w' fun e w'' => e = .returned (.bool (ps.any overP)) ∧ Below w'.heap.size w' w'' := fun w' hx' => by
      go_enter Tryd.func48, Tryd.ntmps48
      go_wp2_with (go_at_call 60; refine (indexP8_any _ overP ps hK a0 len cap b off (by omega) _ hx').mono ?_; rintro e w'' ⟨⟨r, rfl, HR⟩, hb⟩)
      go_ret
      exact ⟨ret_bool HR.out, hb⟩
    obtain ⟨q, HQ⟩ : ∃ q, Hid (ps.any overP = q) := ⟨_, rfl⟩
    rw [HQ.out] at hcon
    have HF : Hid (fewL ps = !q) := by
      show _ = _
      unfold fewL
      rw [decide_eq_true (by omega), HQ.out, Bool.true_and]
    clear hK hz
    go_enter Tryd.func31, Tryd.ntmps31
    go_wp2_with fail
    refine (hcon _ hx).mono ?_
    rintro e w1 ⟨rfl, hb1⟩
    go_wp2
    go_ret
    exact ⟨ret_bool HF.out.symm, hb1⟩
  · have h' : ¬ (len : Int) ≤ 40 := by omega
    have HF : Hid (fewL ps = false) := by
      show _ = _
      unfold fewL
      rw [decide_eq_false (by omega), Bool.false_and]
    go_enter Tryd.func31, Tryd.ntmps31
    go_wp2
    go_ret
    exact ⟨ret_bool HF.out.symm, Below.refl _ _⟩
theorem fewL_small {ps : List Par} (h : fewL ps = true) : ps.length ≤ 40 ∧ ∀ p ∈ ps, p.1.size + p.2.size ≤ 300 := by
  unfold fewL at h
  rw [Bool.and_eq_true] at h
  refine ⟨of_decide_eq_true h.1, fun p hp => ?_⟩
  have h2 : ps.any overP = false := by simpa using h.2
  have h3 := List.any_eq_false.1 h2 p hp
  unfold overP at h3
  simpa using h3
end Go.Proofs.YtihhabidfcgogaaDoor

/- Whether a request is few bytes, by the law's own words. -/
namespace Go.Proofs.YtihhabidfcgogaaDoor
open Go.RowKit

def rightB (hs : List Par) (n : Nat) : Bool := fewL hs && decide (n ≤ 600)
theorem rightB_small {hs : List Par} {n : Nat} (h : rightB hs n = true) : hs.length ≤ 40 ∧ (∀ p ∈ hs, p.1.size + p.2.size ≤ 300) ∧ n ≤ 600 := by
  unfold rightB at h
  rw [Bool.and_eq_true, decide_eq_true_eq] at h
  obtain ⟨h1, h2⟩ := fewL_small h.1
  exact ⟨h1, h2, h.2⟩
set_option maxRecDepth 100000 in
set_option maxHeartbeats 4000000 in
theorem rightful_any (hs : List Par) (hz : ∀ p ∈ hs, p.1.size ≤ 140737488355328 ∧ p.2.size ≤ 140737488355328) (ra : Option Addr) (rl rc rb ro : Nat) (hlb : rl ≤ 9223372036854775807)
    (pt fp up : Int) (fs us wi : Bool) (fh uh pa qu me bo : ByteArray) (h1 : fh.size ≤ 140737488355328) (h2 : uh.size ≤ 140737488355328) (h3 : pa.size ≤ 140737488355328) (h4 : qu.size ≤ 140737488355328) (h5 : me.size ≤ 140737488355328) (w : World) (hh : Pars w ra rl rb ro hs) :
    Calls Tryd.prog 10 #[.agg #[.int .i64 pt, .bool fs, .string fh, .int .i64 fp, .bool us, .string uh, .int .i64 up, .string pa, .string qu, .string me, .slice ra rl rc, .bool wi, .string bo]] w fun e w' => e = .returned (.bool (rightB hs (me.size + pa.size + qu.size + uh.size + fh.size))) ∧ Below w.heap.size w w' := by
  have HQ : Hid (BoxQ 39 w #[.int .i64 pt, .bool fs, .string fh, .int .i64 fp, .bool us, .string uh, .int .i64 up, .string pa, .string qu, .string me, .slice ra rl rc, .bool wi, .string bo] (w.alloc (.cells #[.int .i64 pt, .bool fs, .string fh, .int .i64 fp, .bool us, .string uh, .int .i64 up, .string pa, .string qu, .string me, .slice ra rl rc, .bool wi, .string bo] 39))) := BoxQ.new _ _ _
  have hfw := few_any hs hz ra rl rc rb ro hlb _ (hh.below HQ.out.bel)
  obtain ⟨q, HF⟩ : ∃ q, Hid (fewL hs = q) := ⟨_, rfl⟩
  rw [HF.out] at hfw
  have HD : Hid (decide (me.size + pa.size + qu.size + uh.size + fh.size ≤ 600) = decide ((me.size : Int) + (pa.size : Int) + (qu.size : Int) + (uh.size : Int) + (fh.size : Int) ≤ 600)) := by
    show _ = _
    rw [decide_eq_decide]
    omega
  have HR : Hid (rightB hs (me.size + pa.size + qu.size + uh.size + fh.size) = (q && decide ((me.size : Int) + (pa.size : Int) + (qu.size : Int) + (uh.size : Int) + (fh.size : Int) ≤ 600))) := by show _ = _; unfold rightB; rw [HF.out, HD.out]
  have c10 := HQ.out.at 10 _ rfl
  clear hz hh
  go_enter Tryd.func10, Tryd.ntmps10
  go_wp2_with fail
  refine hfw.mono ?_
  rintro e w1 ⟨rfl, hb1⟩
  have HQ1 : Hid (BoxQ 39 w #[.int .i64 pt, .bool fs, .string fh, .int .i64 fp, .bool us, .string uh, .int .i64 up, .string pa, .string qu, .string me, .slice ra rl rc, .bool wi, .string bo] w1) := HQ.out.step hb1
  clear hfw hb1 c10 HQ
  have c2 := HQ1.out.at 2 _ rfl
  have c5 := HQ1.out.at 5 _ rfl
  have c7 := HQ1.out.at 7 _ rfl
  have c8 := HQ1.out.at 8 _ rfl
  have c9 := HQ1.out.at 9 _ rfl
  cases q
  · go_wp2
    go_ret
    exact ⟨ret_bool (by rw [HR.out]; rfl), HQ1.out.bel⟩
  · go_wp2
    go_ret
    exact ⟨ret_bool (by rw [HR.out, Bool.true_and]), HQ1.out.bel⟩
end Go.Proofs.YtihhabidfcgogaaDoor

/- The law BookSound, walked. -/
namespace Go.Proofs.YtihhabidfcgogaaDoor
open Go.RowKit
set_option linter.unusedVariables false
set_option linter.unusedSimpArgs false

/-- The boxes that the law begins with. -/
structure Snd (w : World) (a1 : Option Addr) (l1 c1 : Nat) (r : RqV) (t : Int) (W : World) : Prop where
  bel : Below w.heap.size w W
  bl : W.heap[w.heap.size]? = some (.cells #[.slice a1 l1 c1] 22 (0, 0))
  br : BoxR W (w.heap.size + 1) r
  bt : W.heap[w.heap.size + 2]? = some (.cells #[.int .i64 t] 3 (0, 0))
theorem Snd.step {w W W' : World} {a1 : Option Addr} {l1 c1 : Nat} {r : RqV} {t : Int} (h : Snd w a1 l1 c1 r t W) (hb : Below W.heap.size W W') : Snd w a1 l1 c1 r t W' :=
  ⟨h.bel.trans (hb.mono h.bel.size), (hb.block _ (Array.getElem?_eq_some_iff.1 h.bl).1).trans h.bl, h.br.below hb, (hb.block _ (Array.getElem?_eq_some_iff.1 h.bt).1).trans h.bt⟩
theorem snd0 (w : World) (a1 : Option Addr) (l1 c1 : Nat) (r : RqV) (t : Int) : Snd w a1 l1 c1 r t (((w.alloc (.cells #[.slice a1 l1 c1] 22)).alloc (.cells #[.int .i64 r.pt, .bool r.fs, .string r.fh, .int .i64 r.fp, .bool r.us, .string r.uh, .int .i64 r.up, .string r.pa, .string r.qu, .string r.me, .slice r.ra r.rl r.rc, .bool r.wi, .string r.bo] 39)).alloc (.cells #[.int .i64 t] 3)) := by
  refine ⟨((Below.refl _ _).alloc (Nat.le_refl _) _).alloc (by simp) _ |>.alloc (by simp; omega) _, ?_, ?_, ?_⟩
  · refine (Below.heap_alloc _ _ _ (by simp only [World.size_alloc]; omega)).trans ((Below.heap_alloc _ _ _ (by simp only [World.size_alloc]; omega)).trans ?_)
    exact heap_alloc_new w _
  · have h := heap_alloc_new (w.alloc (.cells #[.slice a1 l1 c1] 22)) (.cells #[.int .i64 r.pt, .bool r.fs, .string r.fh, .int .i64 r.fp, .bool r.us, .string r.uh, .int .i64 r.up, .string r.pa, .string r.qu, .string r.me, .slice r.ra r.rl r.rc, .bool r.wi, .string r.bo] 39)
    refine (Below.heap_alloc _ _ _ (by simp only [World.size_alloc]; omega)).trans ?_
    rw [World.size_alloc] at h
    exact h
  · have h := heap_alloc_new ((w.alloc (.cells #[.slice a1 l1 c1] 22)).alloc (.cells #[.int .i64 r.pt, .bool r.fs, .string r.fh, .int .i64 r.fp, .bool r.us, .string r.uh, .int .i64 r.up, .string r.pa, .string r.qu, .string r.me, .slice r.ra r.rl r.rc, .bool r.wi, .string r.bo] 39)) (.cells #[.int .i64 t] 3)
    simpa using h
theorem cov_m {r : RqV} {hs : List Par} {ps : List PsV} (h : covB r hs ps = true) (h2 : simpleL (methodB r.me).toList = false) : ps.any (okM r.wi (methodB r.me)) = true := by
  unfold covB coversL at h
  rw [Bool.and_eq_true, h2, Bool.false_or] at h
  exact h.1
theorem cov_h {r : RqV} {hs : List Par} {ps : List PsV} (h : covB r hs ps = true) {x : ByteArray} (hx : x ∈ askedL hs) : ps.any (okH r.wi x) = true := by
  unfold covB coversL at h
  rw [Bool.and_eq_true] at h
  exact List.all_eq_true.1 h.2 x hx
theorem kindS2 (ps : List PsV) (gm gr : Nat) (m : ByteArray) (wi : Bool) (w : World) (h1 : w.cell? ⟨gm, 0, none⟩ = some (.string m)) (h2 : w.cell? ⟨gr, 11, none⟩ = some (.bool wi)) :
    KindQ 20 #[.pointer (some ⟨gm, 0, none⟩), .pointer (some ⟨gr, 0, none⟩)] (okM wi m) ps w :=
  ⟨fun p _ W hW => soundM p gm gr m wi W ((hW.cell (p := ⟨gm, 0, none⟩) (lt_cell9 h1)).trans h1) ((hW.cell (p := ⟨gr, 11, none⟩) (lt_cell9 h2)).trans h2), enters_at Tryd.func20 (by kernel_rfl) rfl⟩
theorem kindS3 (ps : List PsV) (gm gr : Nat) (m : ByteArray) (wi : Bool) (w : World) (h1 : w.cell? ⟨gm, 0, none⟩ = some (.string m)) (h2 : w.cell? ⟨gr, 11, none⟩ = some (.bool wi)) :
    KindQ 22 #[.pointer (some ⟨gm, 0, none⟩), .pointer (some ⟨gr, 0, none⟩)] (okH wi m) ps w :=
  ⟨fun p _ W hW => soundH p gm gr m wi W ((hW.cell (p := ⟨gm, 0, none⟩) (lt_cell9 h1)).trans h1) ((hW.cell (p := ⟨gr, 11, none⟩) (lt_cell9 h2)).trans h2), enters_at Tryd.func22 (by kernel_rfl) rfl⟩
theorem asked_few (ps : List Par) : (askedL ps).length ≤ ps.length := by
  unfold askedL
  rw [List.length_map]
  have h1 := compact_len (sortL (tx (askedNames ps)))
  have h2 : (tx (askedNames ps)).length = (askedNames ps).length := by unfold tx; simp
  rw [sortL_len, h2] at h1
  have h3 := lens_le ps
  have h4 : (askedNames ps).length ≤ ps.length := by
    unfold askedNames
    split
    · rw [List.length_append]; omega
    · omega
  omega
set_option maxRecDepth 100000 in
set_option maxHeartbeats 8000000 in
theorem bookSound_walk (a1 : Option Addr) (l1 c1 b1 o1 : Nat) (xs : List PsV) (hl1 : l1 ≤ 9223372036854775807) (hx : ∀ p ∈ xs, GoodP p) (r : RqV) (hs : List Par) (rb ro : Nat) (hz : ∀ p ∈ hs, p.1.size ≤ 140737488355328 ∧ p.2.size ≤ 140737488355328) (hlb : r.rl ≤ 9223372036854775807)
    (hr : r.fh.size ≤ 140737488355328 ∧ r.uh.size ≤ 140737488355328 ∧ r.pa.size ≤ 140737488355328 ∧ r.qu.size ≤ 140737488355328 ∧ r.me.size ≤ 140737488355328) (t : Int) (w : World) (hm : Methods w) (h1 : Pss w a1 l1 b1 o1 xs) (hh : Pars w r.ra r.rl rb ro hs) :
    Calls Tryd.prog 5 #[.slice a1 l1 c1, .agg #[.int .i64 r.pt, .bool r.fs, .string r.fh, .int .i64 r.fp, .bool r.us, .string r.uh, .int .i64 r.up, .string r.pa, .string r.qu, .string r.me, .slice r.ra r.rl r.rc, .bool r.wi, .string r.bo], .int .i64 t] w fun e w' => e = .returned (.bool true) ∧ Below w.heap.size w w' := by
  have HX : Hid (Pss w a1 l1 b1 o1 xs ∧ xs.length = l1 ∧ ∀ p ∈ xs, GoodP p) := ⟨h1, h1.len_eq, hx⟩
  have HA : Hid (Pars w r.ra r.rl rb ro hs ∧ (∀ p ∈ hs, p.1.size ≤ 140737488355328 ∧ p.2.size ≤ 140737488355328) ∧ r.rl ≤ 9223372036854775807 ∧ (r.fh.size ≤ 140737488355328 ∧ r.uh.size ≤ 140737488355328 ∧ r.pa.size ≤ 140737488355328 ∧ r.qu.size ≤ 140737488355328 ∧ r.me.size ≤ 140737488355328) ∧ hs.length = r.rl) := ⟨hh, hz, hlb, hr, hh.len_eq⟩
  have HM : Hid (Methods w) := hm
  have H0 : Hid (Snd w a1 l1 c1 r t (((w.alloc (.cells #[.slice a1 l1 c1] 22)).alloc (.cells #[.int .i64 r.pt, .bool r.fs, .string r.fh, .int .i64 r.fp, .bool r.us, .string r.uh, .int .i64 r.up, .string r.pa, .string r.qu, .string r.me, .slice r.ra r.rl r.rc, .bool r.wi, .string r.bo] 39)).alloc (.cells #[.int .i64 t] 3))) := snd0 w a1 l1 c1 r t
  clear h1 hx hm hh hz hlb hr
  go_enter Tryd.func5, Tryd.ntmps5
  go_wp2_with fail
  generalize ((w.alloc (.cells #[.slice a1 l1 c1] 22)).alloc (.cells #[.int .i64 r.pt, .bool r.fs, .string r.fh, .int .i64 r.fp, .bool r.us, .string r.uh, .int .i64 r.up, .string r.pa, .string r.qu, .string r.me, .slice r.ra r.rl r.rc, .bool r.wi, .string r.bo] 39)).alloc (.cells #[.int .i64 t] 3) = w0 at H0 ⊢
  refine (booked_any _ (HM.out.below H0.out.bel (Nat.le_refl _))).mono ?_
  rintro e w1 ⟨rfl, hb1⟩
  have H1 : Hid (Snd w a1 l1 c1 r t w1) := H0.out.step hb1
  have cl1 := (cell_of (i := 0) H1.out.bl).trans rfl
  clear hb1 H0
  go_wp2_with fail
  refine (passes_any xs (fun p hp => (HX.out.2.2 p hp).2) a1 l1 c1 b1 o1 hl1 _ (HX.out.1.below H1.out.bel)).mono ?_
  rintro e w2 ⟨rfl, hb2⟩
  have H2 : Hid (Snd w a1 l1 c1 r t w2) := H1.out.step hb2
  clear hb2 H1 cl1
  obtain ⟨q1, HQ1⟩ : ∃ q, Hid (passesL xs = q) := ⟨_, rfl⟩
  rw [HQ1.out]
  cases q1
  · go_wp2
    go_ret
    exact ⟨rfl, H2.out.bel⟩
  have hx60 : l1 ≤ 60 := by have h1 := passesL_len HQ1.out; have h2 := HX.out.2.1; omega
  have r2_0 := H2.out.br.at 0 rfl
  have r2_1 := H2.out.br.at 1 rfl
  have r2_2 := H2.out.br.at 2 rfl
  have r2_3 := H2.out.br.at 3 rfl
  have r2_4 := H2.out.br.at 4 rfl
  have r2_5 := H2.out.br.at 5 rfl
  have r2_6 := H2.out.br.at 6 rfl
  have r2_7 := H2.out.br.at 7 rfl
  have r2_8 := H2.out.br.at 8 rfl
  have r2_9 := H2.out.br.at 9 rfl
  have r2_10 := H2.out.br.at 10 rfl
  have r2_11 := H2.out.br.at 11 rfl
  have r2_12 := H2.out.br.at 12 rfl
  go_wp2_with fail
  refine (rightful_any hs HA.out.2.1 r.ra r.rl r.rc rb ro HA.out.2.2.1 r.pt r.fp r.up r.fs r.us r.wi r.fh r.uh r.pa r.qu r.me r.bo HA.out.2.2.2.1.1 HA.out.2.2.2.1.2.1 HA.out.2.2.2.1.2.2.1 HA.out.2.2.2.1.2.2.2.1 HA.out.2.2.2.1.2.2.2.2 _ (HA.out.1.below H2.out.bel)).mono ?_
  rintro e w3 ⟨rfl, hb3⟩
  have H3 : Hid (Snd w a1 l1 c1 r t w3) := H2.out.step hb3
  clear r2_0 r2_1 r2_2 r2_3 r2_4 r2_5 r2_6 r2_7 r2_8 r2_9 r2_10 r2_11 r2_12
  clear hb3 H2
  obtain ⟨q2, HQ2⟩ : ∃ q, Hid (rightB hs (r.me.size + r.pa.size + r.qu.size + r.uh.size + r.fh.size) = q) := ⟨_, rfl⟩
  rw [HQ2.out]
  cases q2
  · go_wp2
    go_ret
    exact ⟨rfl, H3.out.bel⟩
  have hsm := rightB_small HQ2.out
  have hrl : r.rl ≤ 40 := by have := HA.out.2.2.2.2; omega
  have HRQ : Hid (∀ W, Below w.heap.size w W → ReqOk r hs rb ro W) := fun W hW => ⟨fun p hp => by have := hsm.2.1 p hp; omega, by omega, by have := hsm.2.2; omega, HA.out.1.below hW, HM.out.below hW (Nat.le_refl _)⟩
  clear HQ1 HQ2
  have hb4 : Below w3.heap.size w3 (w3.alloc (.cells #[.slice none 0 0] 27)) := (Below.refl _ _).alloc (Nat.le_refl _) _
  have HK4 : Hid (BookW (w3.alloc (.cells #[.slice none 0 0] 27)) w3.heap.size w3.heap.size (.slice none 0 0) [] ∧ Snd w a1 l1 c1 r t (w3.alloc (.cells #[.slice none 0 0] 27))) := ⟨book_new w3, H3.out.step hb4⟩
  have hws := H3.out.bel.size
  have cl4 := (cell_of (i := 0) HK4.out.2.bl).trans rfl
  have ct4 := (cell_of (i := 0) HK4.out.2.bt).trans rfl
  clear hb4 H3
  go_wp2_with fail
  clear cl4 ct4
  generalize w3.alloc (.cells #[.slice none 0 0] 27) = w4 at HK4 ⊢
  obtain ⟨bk, hbk⟩ : ∃ bk, w3.heap.size = bk := ⟨_, rfl⟩
  rw [hbk] at HK4 hws ⊢
  clear hbk
  refine (put_any _ HK4.out.1 xs a1 l1 c1 b1 o1 (HX.out.1.below HK4.out.2.bel) hx60 HX.out.2.2 t).mono ?_
  rintro e w5 ⟨⟨r5, rfl⟩, v5, H5⟩
  obtain ⟨ps, HPS⟩ : ∃ ps, Hid (putL t [] xs = ps) := ⟨_, rfl⟩
  rw [HPS.out] at H5
  have hbo : ∀ {x : Nat} {cs : Array Value} {T : TypeId}, w4.heap[x]? = some (.cells cs T (0, 0)) → T ≠ 27 → w5.heap[x]? = some (.cells cs T (0, 0)) := fun {x cs T} hx hT => (H5.out.2.1.block _ (Array.getElem?_eq_some_iff.1 hx).1 (fun e => by injection e with e; subst e; rw [HK4.out.1.blk] at hx; injection hx with hx; injection hx with _ hx; exact hT hx.symm)).trans hx
  have HK5 : Hid (BookW w5 bk bk v5 ps ∧ Snd w a1 l1 c1 r t w5) := ⟨H5.out.1, HK4.out.2.bel.grown H5.out.2.1 HK4.out.2.bel.size (fun i hi => by injection hi with hi; omega), hbo HK4.out.2.bl (by decide), hbo HK4.out.2.br (by decide), hbo HK4.out.2.bt (by decide)⟩
  clear H5 HK4 hbo
  have r5_0 := HK5.out.2.br.at 0 rfl
  have r5_1 := HK5.out.2.br.at 1 rfl
  have r5_2 := HK5.out.2.br.at 2 rfl
  have r5_3 := HK5.out.2.br.at 3 rfl
  have r5_4 := HK5.out.2.br.at 4 rfl
  have r5_5 := HK5.out.2.br.at 5 rfl
  have r5_6 := HK5.out.2.br.at 6 rfl
  have r5_7 := HK5.out.2.br.at 7 rfl
  have r5_8 := HK5.out.2.br.at 8 rfl
  have r5_9 := HK5.out.2.br.at 9 rfl
  have r5_10 := HK5.out.2.br.at 10 rfl
  have r5_11 := HK5.out.2.br.at 11 rfl
  have r5_12 := HK5.out.2.br.at 12 rfl
  go_wp2_with fail
  obtain ⟨nd, HND⟩ : ∃ nd, Hid (needB r hs = nd) := ⟨_, rfl⟩
  have hnd := needs_any r hs rb ro w5 (HRQ.out _ HK5.out.2.bel)
  rw [HND.out] at hnd
  refine hnd.mono ?_
  rintro e w6 ⟨rfl, hb6⟩
  have HK6 : Hid (BookW w6 bk bk v5 ps ∧ Snd w a1 l1 c1 r t w6) := ⟨HK5.out.1.below hb6, HK5.out.2.step hb6⟩
  clear r5_0 r5_1 r5_2 r5_3 r5_4 r5_5 r5_6 r5_7 r5_8 r5_9 r5_10 r5_11 r5_12
  clear hnd hb6 HK5
  cases nd
  · go_wp2
    go_ret
    exact ⟨rfl, HK6.out.2.bel⟩
  have r6_0 := HK6.out.2.br.at 0 rfl
  have r6_1 := HK6.out.2.br.at 1 rfl
  have r6_2 := HK6.out.2.br.at 2 rfl
  have r6_3 := HK6.out.2.br.at 3 rfl
  have r6_4 := HK6.out.2.br.at 4 rfl
  have r6_5 := HK6.out.2.br.at 5 rfl
  have r6_6 := HK6.out.2.br.at 6 rfl
  have r6_7 := HK6.out.2.br.at 7 rfl
  have r6_8 := HK6.out.2.br.at 8 rfl
  have r6_9 := HK6.out.2.br.at 9 rfl
  have r6_10 := HK6.out.2.br.at 10 rfl
  have r6_11 := HK6.out.2.br.at 11 rfl
  have r6_12 := HK6.out.2.br.at 12 rfl
  have ct6 := (cell_of (i := 0) HK6.out.2.bt).trans rfl
  go_wp2_with fail
  obtain ⟨cv, HCV⟩ : ∃ cv, Hid (bookB r hs t ps = cv) := ⟨_, rfl⟩
  have hcv := bookCovers_any w6 HK6.out.1 r hs rb ro (HRQ.out _ HK6.out.2.bel) t
  rw [HCV.out] at hcv
  refine hcv.mono ?_
  rintro e w7 ⟨rfl, hb7⟩
  have H7 : Hid (Snd w a1 l1 c1 r t w7) := HK6.out.2.step hb7
  clear r6_0 r6_1 r6_2 r6_3 r6_4 r6_5 r6_6 r6_7 r6_8 r6_9 r6_10 r6_11 r6_12
  clear hcv hb7 HK6 ct6
  cases cv
  · go_wp2
    go_ret
    exact ⟨rfl, H7.out.bel⟩
  have HCOV : Hid (covB r hs ((putL t [] xs).filter (forB r t)) = true) := by
    have := HCV.out
    unfold bookB at this
    rw [HND.out] at this
    rw [HPS.out]
    have h9 : covB r hs (ps.filter (forB r t)) = true := by simpa using this
    exact h9
  have hen := enters_at Tryd.func15 (by kernel_rfl) rfl
  have c79 := H7.out.br.at 9 rfl
  clear HCV HND HPS
  go_wp2_with fail
  refine (method_any r.me (by have := hsm.2.2; omega) w7 (HM.out.below H7.out.bel (Nat.le_refl _))).mono ?_
  rintro e w8 ⟨rfl, hb8⟩
  have H8 : Hid (Snd w a1 l1 c1 r t w8) := H7.out.step hb8
  clear hb8 H7 c79
  obtain ⟨m, HMM⟩ : ∃ m, Hid (methodB r.me = m) := ⟨_, rfl⟩
  rw [HMM.out]
  have hb9 : Below w8.heap.size w8 (w8.alloc (.cells #[.string m] 9)) := (Below.refl _ _).alloc (Nat.le_refl _) _
  have H9 : Hid (Snd w a1 l1 c1 r t (w8.alloc (.cells #[.string m] 9)) ∧ (w8.alloc (.cells #[.string m] 9)).cell? ⟨w8.heap.size, 0, none⟩ = some (.string m)) := ⟨H8.out.step hb9, (cell_of (heap_alloc_new w8 _)).trans rfl⟩
  have cm9 := H9.out.2
  clear hb9 H8
  go_wp2_with fail
  generalize w8.alloc (.cells #[.string m] 9) = w9 at H9 cm9 ⊢
  refine (simple_any m w9).mono ?_
  rintro e w9' ⟨rfl, hw9⟩
  obtain rfl := hw9.symm
  obtain ⟨sm, HSM⟩ : ∃ sm, Hid (simpleL m.toList = sm) := ⟨_, rfl⟩
  rw [HSM.out]
  have HEND : Hid (∀ x ∈ askedL hs, mineB r t xs (okH r.wi x) = true) := fun x hx => mineB_of (cov_h HCOV.out hx)
  have HM2 : Hid (sm = false → mineB r t xs (okM r.wi m) = true) := fun h => mineB_of (by rw [← HMM.out]; exact cov_m HCOV.out (by rw [HMM.out, HSM.out, h]))
  clear cm9 HSM HCOV
  cases sm
  · have hmine := mine_any xs a1 l1 c1 b1 o1 (by omega) r t 20 #[.pointer (some ⟨w8.heap.size, 0, none⟩), .pointer (some ⟨w.heap.size + 1, 0, none⟩)] (okM r.wi m) w.heap.size (w.heap.size + 1) (w.heap.size + 2) w9 (HX.out.1.below H9.out.1.bel) ((cell_of (i := 0) H9.out.1.bl).trans rfl) H9.out.1.br ((cell_of (i := 0) H9.out.1.bt).trans rfl) (kindS2 xs w8.heap.size (w.heap.size + 1) m r.wi w9 H9.out.2 (H9.out.1.br.at 11 rfl))
    rw [HM2.out rfl] at hmine
    go_wp2_with fail
    refine hmine.mono ?_
    rintro e w10 ⟨rfl, hb10⟩
    have H10 : Hid (Snd w a1 l1 c1 r t w10) := H9.out.1.step hb10
    clear hmine hb10 H9 HM2
    have c10 := H10.out.br.at 10 rfl
    go_wp2_with fail
    refine (asked8_any hs (fun p hp => by have := hsm.2.1 p hp; omega) r.ra r.rl r.rc rb ro (by omega) w10 (HA.out.1.below H10.out.bel)).mono ?_
    rintro e w11 ⟨⟨u11, rfl, h11⟩, hb11⟩
    obtain ⟨sa, sc, sg, rfl, hs11⟩ := OwnS.strs h11
    obtain ⟨n, HN⟩ : ∃ n, Hid ((askedL hs).length = n) := ⟨_, rfl⟩
    rw [HN.out] at hs11 ⊢
    have hn40 : n ≤ 40 := by have h1 := asked_few hs; have h2 := HN.out; have h3 := HA.out.2.2.2.2; omega
    have H11 : Hid (Snd w a1 l1 c1 r t w11) := H10.out.step hb11
    have HS11 : Hid (Strs w11 sa n sg 0 (askedL hs)) := hs11
    clear hs11 h11 hb11 c10 H10
    go_wp2
    go_loopw [55] (fun i wr => ∃ k : Nat, k ≤ n ∧ i = .int .i64 k ∧ Hid (Below w11.heap.size w11 wr)) (fun i _ => n - (intOf i).toNat)
    case atStart => exact ⟨0, Nat.zero_le _, rfl, Below.refl _ _⟩
    case round =>
      obtain ⟨k, hk, rfl, HW⟩ := hrel
      by_cases hlt : k < n
      · have hkL : (k : Int) < (n : Int) := by omega
        obtain ⟨x, hxk⟩ : ∃ x, (askedL hs)[k]? = some x := ⟨(askedL hs)[k]'(by have := HN.out; omega), List.getElem?_eq_getElem _⟩
        have hend := HEND.out x (List.mem_of_getElem? hxk)
        obtain ⟨rfl, _⟩ := HS11.out.lies (by omega)
        have cx := (HS11.out.below HW.out).cells k x hxk
        rw [Nat.zero_add] at cx
        have hb12 : Below wr.heap.size wr (wr.alloc (.cells #[.string x] 9)) := (Below.refl _ _).alloc (Nat.le_refl _) _
        have HW12 : Hid (Below w11.heap.size w11 (wr.alloc (.cells #[.string x] 9))) := HW.out.trans (hb12.mono HW.out.size)
        have H12 : Hid (Snd w a1 l1 c1 r t (wr.alloc (.cells #[.string x] 9))) := H11.out.step HW12.out
        have cx12 : (wr.alloc (.cells #[.string x] 9)).cell? ⟨wr.heap.size, 0, none⟩ = some (.string x) := (cell_of (heap_alloc_new wr _)).trans rfl
        have hmine := mine_any xs a1 l1 c1 b1 o1 (by omega) r t 22 #[.pointer (some ⟨wr.heap.size, 0, none⟩), .pointer (some ⟨w.heap.size + 1, 0, none⟩)] (okH r.wi x) w.heap.size (w.heap.size + 1) (w.heap.size + 2) _ (HX.out.1.below H12.out.bel) ((cell_of (i := 0) H12.out.bl).trans rfl) H12.out.br ((cell_of (i := 0) H12.out.bt).trans rfl) (kindS3 xs wr.heap.size (w.heap.size + 1) x r.wi _ cx12 (H12.out.br.at 11 rfl))
        rw [hend] at hmine
        clear hend hxk hb12 cx12
        go_wp2_with fail
        generalize wr.alloc (.cells #[.string x] 9) = w12 at HW12 H12 hmine ⊢
        refine hmine.mono ?_
        rintro e w13 ⟨rfl, hb13⟩
        have HW13 : Hid (Below w11.heap.size w11 w13) := HW12.out.trans (hb13.mono HW12.out.size)
        clear hb13 hmine cx
        go_wp2
        go_roundw
        case rel => exact ⟨k + 1, by omega, by go_num, HW13.out⟩
        case measure => simp [intOf]; omega
      · have hkL : ¬ (k : Int) < (n : Int) := by omega
        go_wp2
        go_ret
        exact ⟨rfl, (H11.out.step HW.out).bel⟩
  · have H10 : Hid (Snd w a1 l1 c1 r t w9) := H9.out.1
    clear H9 HM2
    obtain ⟨w10, hw10⟩ : ∃ w10, w10 = w9 := ⟨_, rfl⟩
    subst hw10
    have c10 := H10.out.br.at 10 rfl
    go_wp2_with fail
    refine (asked8_any hs (fun p hp => by have := hsm.2.1 p hp; omega) r.ra r.rl r.rc rb ro (by omega) w10 (HA.out.1.below H10.out.bel)).mono ?_
    rintro e w11 ⟨⟨u11, rfl, h11⟩, hb11⟩
    obtain ⟨sa, sc, sg, rfl, hs11⟩ := OwnS.strs h11
    obtain ⟨n, HN⟩ : ∃ n, Hid ((askedL hs).length = n) := ⟨_, rfl⟩
    rw [HN.out] at hs11 ⊢
    have hn40 : n ≤ 40 := by have h1 := asked_few hs; have h2 := HN.out; have h3 := HA.out.2.2.2.2; omega
    have H11 : Hid (Snd w a1 l1 c1 r t w11) := H10.out.step hb11
    have HS11 : Hid (Strs w11 sa n sg 0 (askedL hs)) := hs11
    clear hs11 h11 hb11 c10 H10
    go_wp2
    go_loopw [55] (fun i wr => ∃ k : Nat, k ≤ n ∧ i = .int .i64 k ∧ Hid (Below w11.heap.size w11 wr)) (fun i _ => n - (intOf i).toNat)
    case atStart => exact ⟨0, Nat.zero_le _, rfl, Below.refl _ _⟩
    case round =>
      obtain ⟨k, hk, rfl, HW⟩ := hrel
      by_cases hlt : k < n
      · have hkL : (k : Int) < (n : Int) := by omega
        obtain ⟨x, hxk⟩ : ∃ x, (askedL hs)[k]? = some x := ⟨(askedL hs)[k]'(by have := HN.out; omega), List.getElem?_eq_getElem _⟩
        have hend := HEND.out x (List.mem_of_getElem? hxk)
        obtain ⟨rfl, _⟩ := HS11.out.lies (by omega)
        have cx := (HS11.out.below HW.out).cells k x hxk
        rw [Nat.zero_add] at cx
        have hb12 : Below wr.heap.size wr (wr.alloc (.cells #[.string x] 9)) := (Below.refl _ _).alloc (Nat.le_refl _) _
        have HW12 : Hid (Below w11.heap.size w11 (wr.alloc (.cells #[.string x] 9))) := HW.out.trans (hb12.mono HW.out.size)
        have H12 : Hid (Snd w a1 l1 c1 r t (wr.alloc (.cells #[.string x] 9))) := H11.out.step HW12.out
        have cx12 : (wr.alloc (.cells #[.string x] 9)).cell? ⟨wr.heap.size, 0, none⟩ = some (.string x) := (cell_of (heap_alloc_new wr _)).trans rfl
        have hmine := mine_any xs a1 l1 c1 b1 o1 (by omega) r t 22 #[.pointer (some ⟨wr.heap.size, 0, none⟩), .pointer (some ⟨w.heap.size + 1, 0, none⟩)] (okH r.wi x) w.heap.size (w.heap.size + 1) (w.heap.size + 2) _ (HX.out.1.below H12.out.bel) ((cell_of (i := 0) H12.out.bl).trans rfl) H12.out.br ((cell_of (i := 0) H12.out.bt).trans rfl) (kindS3 xs wr.heap.size (w.heap.size + 1) x r.wi _ cx12 (H12.out.br.at 11 rfl))
        rw [hend] at hmine
        clear hend hxk hb12 cx12
        go_wp2_with fail
        generalize wr.alloc (.cells #[.string x] 9) = w12 at HW12 H12 hmine ⊢
        refine hmine.mono ?_
        rintro e w13 ⟨rfl, hb13⟩
        have HW13 : Hid (Below w11.heap.size w11 w13) := HW12.out.trans (hb13.mono HW12.out.size)
        clear hb13 hmine cx
        go_wp2
        go_roundw
        case rel => exact ⟨k + 1, by omega, by go_num, HW13.out⟩
        case measure => simp [intOf]; omega
      · have hkL : ¬ (k : Int) < (n : Int) := by omega
        go_wp2
        go_ret
        exact ⟨rfl, (H11.out.step HW.out).bel⟩
theorem bookSound_law (a1 : Option Addr) (l1 c1 b1 o1 : Nat) (xs : List PsV) (m1 : l1 ≤ c1 ∧ c1 ≤ 9223372036854775807) (z1 : ∀ p ∈ xs, GoodP p)
    (pt fp up : Int) (_ : (-9223372036854775808 ≤ pt ∧ pt ≤ 9223372036854775807) ∧ (-9223372036854775808 ≤ fp ∧ fp ≤ 9223372036854775807) ∧ (-9223372036854775808 ≤ up ∧ up ≤ 9223372036854775807)) (fs us wi : Bool) (fh uh pa qu me bo : ByteArray) (hs : List Par) (z : (fh.size ≤ 140737488355328 ∧ uh.size ≤ 140737488355328 ∧ pa.size ≤ 140737488355328 ∧ qu.size ≤ 140737488355328 ∧ me.size ≤ 140737488355328 ∧ bo.size ≤ 140737488355328) ∧ ∀ q ∈ hs, q.1.size ≤ 140737488355328 ∧ q.2.size ≤ 140737488355328)
    (ra : Option Addr) (rl rc rb ro : Nat) (hl : rl ≤ 9223372036854775807) (t : Int) (_ : -9223372036854775808 ≤ t) (_ : t ≤ 9223372036854775807) (w : World) (g1 : Pss w a1 l1 b1 o1 xs) (g2 : Pars w ra rl rb ro hs) (hm : Methods w) :
    Calls Tryd.prog 5 #[.slice a1 l1 c1, .agg #[.int .i64 pt, .bool fs, .string fh, .int .i64 fp, .bool us, .string uh, .int .i64 up, .string pa, .string qu, .string me, .slice ra rl rc, .bool wi, .string bo], .int .i64 t] w fun e w' => e = .returned (.bool true) ∧ Below w.heap.size w w' :=
  bookSound_walk a1 l1 c1 b1 o1 xs (by omega) z1 ⟨pt, fs, fh, fp, us, uh, up, pa, qu, me, ra, rl, rc, wi, bo⟩ hs rb ro z.2 hl ⟨z.1.1, z.1.2.1, z.1.2.2.1, z.1.2.2.2.1, z.1.2.2.2.2.1⟩ t w hm g1 g2
end Go.Proofs.YtihhabidfcgogaaDoor

/- What came in: no text of it is longer than a machine can hold. -/
namespace Go.Proofs.YtihhabidfcgogaaDoor
open Go.ChangeShapes Go.WideShapes Go.ChangeAt Go.RowKit Go.Joins

theorem laidOutP : laidOutB Tryd.prog = true := by kernel_rfl
theorem weightsAll_mem {H : Type} {P : Program} {e : TypeId} : ∀ {ds : List (DataW H)} {d : DataW H}, d ∈ ds → ∀ n ∈ d.weights P e, n ∈ DataW.weightsAll P e ds
  | d0 :: ds, d, hd, n, hn => by
    rw [DataW.weightsAll, List.mem_append]
    rcases List.mem_cons.1 hd with rfl | h
    · exact .inl hn
    · exact .inr (weightsAll_mem h n hn)
theorem weights_slice {H : Type} {t e : TypeId} (ht : Tryd.prog.underlying t = some (.slice e)) {ds es : List (DataW H)} {d : DataW H} (hd : d ∈ ds) : ∀ n ∈ d.weights Tryd.prog e, n ∈ (DataW.slice ds es).weights Tryd.prog t := by
  intro n hn
  rw [DataW.weights, ht]
  simp only [List.mem_cons, List.mem_append]
  exact .inr (.inl (weightsAll_mem hd n hn))
/-- No text of it is longer than a machine can hold. -/
def Reach {H : Type} (t : TypeId) (d : DataW H) : Prop := ∀ n ∈ d.weights Tryd.prog t, n ≤ 140737488355328
theorem reach_all {H : Type} {ts : List TypeId} {ds : List (DataW H)} (h : (DataW.weightsEach Tryd.prog ts ds).all (· ≤ reachBytes) = true) {j : Nat} {t : TypeId} {d : DataW H} (ht : ts[j]? = some t) (hd : ds[j]? = some d) : Reach t d := fun n hn => by
  have h1 := List.all_eq_true.1 h _ (DataW.weights_mem_each ht hd n hn)
  have h2 : n ≤ reachBytes := of_decide_eq_true h1
  have := reachBytes_lt
  have e3 : (2 : Nat) ^ 47 = 140737488355328 := by decide
  omega
theorem reach_string {H : Type} {t : TypeId} {s : ByteArray} (h : Reach (H := H) t (.lit (.string s.data.toList))) : s.size ≤ 140737488355328 := by
  have := h s.data.toList.length (by simp [DataW.weights])
  rw [Array.length_toList] at this
  exact this
def strOf : Value → ByteArray
  | .string s => s
  | _ => ⟨#[]⟩
end Go.Proofs.YtihhabidfcgogaaDoor

/- Parameters that came in: one, and a row of them. -/
namespace Go.Proofs.YtihhabidfcgogaaDoor
open Go.ChangeShapes Go.WideShapes Go.ChangeAt Go.RowKit Go.Joins

theorem cellsP : Tryd.prog.cellsOf 71 = 2 := by kernel_rfl
section
variable {H : Type} {enc : TypeId × Value → H} {W : World}
theorem open_pars {fuel : Nat} {v : Value} {x : DataW H × List MemPlace} (h : DataW.trod enc Tryd.prog W 0 (fun _ => true) true fuel 37 [v] = some x) :
    ∃ (a0 : Option Addr) (len cap b off : Nat) (ps : List Par), v = .slice a0 len cap ∧ (len ≤ cap ∧ cap ≤ 9223372036854775807) ∧ Pars W a0 len b off ps ∧ (Reach 37 x.1 → ∀ p ∈ ps, p.1.size ≤ 140737488355328 ∧ p.2.size ≤ 140737488355328) := by
  rcases Go.Deep.open_slice_pairs Tryd.underlying37 Tryd.underlying71 cellsP rfl rfl (by kernel_rfl) (by kernel_rfl) h with ⟨hcs, hx⟩ | ⟨a, len, cap, m, n, V0, V1, D0, D1, P0, P1, hcs, _, hl, hm, hmm, hx, hall⟩
  · simp only [List.cons.injEq, and_true] at hcs
    exact ⟨none, 0, 0, 0, 0, [], hcs, ⟨by omega, by omega⟩, ⟨rfl, fun h => absurd h (by omega), (fun j p hp => by simp at hp), (fun j p hp => by simp at hp)⟩, fun _ p hp => by cases hp⟩
  · simp only [List.cons.injEq, and_true] at hcs
    simp only [if_true] at hmm
    obtain rfl := hmm.symm
    unfold maxLen at hm
    have hS : ∀ i, i < len → V0 i = .string (strOf (V0 i)) ∧ V1 i = .string (strOf (V1 i)) ∧ D0 i = .lit (.string (strOf (V0 i)).data.toList) ∧ D1 i = .lit (.string (strOf (V1 i)).data.toList) := fun i hi => by
      obtain ⟨_, _, t0, t1⟩ := hall i (by omega)
      obtain ⟨s0, e0, x0, _⟩ := DataW.trod_string Tryd.underlying9 t0
      obtain ⟨s1, e1, x1, _⟩ := DataW.trod_string Tryd.underlying9 t1
      simp only [List.cons.injEq, and_true] at e0 e1
      simp only [Prod.mk.injEq] at x0 x1
      rw [e0, e1, x0.1, x1.1]
      exact ⟨rfl, rfl, rfl, rfl⟩
    obtain ⟨b, off, spot⟩ := a
    have hget : ∀ (j : Nat) (p : Par), ((List.range len).map fun i => ((strOf (V0 i), strOf (V1 i)) : Par))[j]? = some p → j < len ∧ p = (strOf (V0 j), strOf (V1 j)) := fun j p hp => by
      rw [List.getElem?_map] at hp
      by_cases hj : j < len
      · rw [List.getElem?_range hj] at hp
        simp only [Option.map_some, Option.some.injEq] at hp
        exact ⟨hj, hp.symm⟩
      · rw [List.getElem?_eq_none (by simp; omega)] at hp
        cases hp
    have hspot : 0 < len → spot = none := fun h0 => by simpa [Addr.add] using World.cell?_spot (hall 0 (by omega)).1
    refine ⟨some ⟨b, off, spot⟩, len, cap, b, off, (List.range len).map fun i => (strOf (V0 i), strOf (V1 i)), hcs, ⟨by omega, by omega⟩, ⟨by simp, fun h0 => ?_, fun j p hp => ?_, fun j p hp => ?_⟩, fun hr p hp => ?_⟩
    · obtain rfl := hspot h0
      refine ⟨rfl, ?_⟩
      have hc := (hall 0 (by omega)).1
      rcases Nat.lt_or_ge b W.heap.size with h1 | h1
      · exact h1
      · simp [World.cell?, Addr.add, Array.getElem?_eq_none h1] at hc
    · obtain ⟨hj, rfl⟩ := hget j p hp
      obtain rfl := hspot (by omega)
      rw [← add_plain]
      exact (hall j (by omega)).1.trans (congrArg some (hS j hj).1)
    · obtain ⟨hj, rfl⟩ := hget j p hp
      obtain rfl := hspot (by omega)
      rw [Nat.add_assoc, ← add_plain]
      exact (hall j (by omega)).2.1.trans (congrArg some (hS j hj).2.1)
    · obtain ⟨i, hi, rfl⟩ := List.mem_map.1 hp
      have hi' : i < len := List.mem_range.1 hi
      have hw : ∀ n ∈ (DataW.agg [D0 i, D1 i]).weights Tryd.prog 71, n ≤ 140737488355328 := fun n hn => by
        refine hr n ?_
        rw [hx]
        exact weights_slice Tryd.underlying37 (List.mem_map.2 ⟨i, hi, rfl⟩) n hn
      rw [(hS i hi').2.2.1, (hS i hi').2.2.2] at hw
      have w0 := hw (strOf (V0 i)).data.toList.length (by simp [DataW.weights, DataW.weightsEach, Tryd.underlying71])
      have w1 := hw (strOf (V1 i)).data.toList.length (by simp [DataW.weights, DataW.weightsEach, Tryd.underlying71])
      rw [Array.length_toList] at w0 w1
      exact ⟨w0, w1⟩
set_option maxRecDepth 100000 in
/-- A parameter that came in. -/
theorem open_param {b0 : Nat} {v : Value} {d : DataW H} {p : List MemPlace} (hv : Value.okWide Tryd.prog W .any b0 71 v) (h : DataW.Trod enc Tryd.prog W 0 (fun _ => true) true 71 v d p) :
    ∃ x y : ByteArray, v = .agg #[.string x, .string y] ∧ (Reach 71 d → x.size ≤ 140737488355328 ∧ y.size ≤ 140737488355328) := by
  obtain ⟨c0, c1, y0, y1, m, rfl, rfl, rfl, g0, g1⟩ := open_agg2 Tryd.underlying71 (by kernel_rfl) (by kernel_rfl) hv h
  obtain ⟨s0, e0, rfl, _⟩ := DataW.trod_string Tryd.underlying9 g0
  obtain ⟨s1, e1, rfl, _⟩ := DataW.trod_string Tryd.underlying9 g1
  simp only [List.cons.injEq, and_true] at e0 e1
  subst e0 e1
  refine ⟨s0, s1, rfl, fun hw => ?_⟩
  have w0 := hw s0.data.toList.length (by simp [DataW.weights, DataW.weightsEach, Tryd.underlying71])
  have w1 := hw s1.data.toList.length (by simp [DataW.weights, DataW.weightsEach, Tryd.underlying71])
  rw [Array.length_toList] at w0 w1
  exact ⟨w0, w1⟩
/-- A row of parameters that came in. -/
theorem open_parsT {v : Value} {d : DataW H} {p : List MemPlace} {a0 : Option Addr} {len cap : Nat} (h : DataW.Trod enc Tryd.prog W 0 (fun _ => true) true 37 v d p) (hv : v = .slice a0 len cap) :
    ∃ (b off : Nat) (ps : List Par), (len ≤ cap ∧ cap ≤ 9223372036854775807) ∧ Pars W a0 len b off ps ∧ (Reach 37 d → ∀ q ∈ ps, q.1.size ≤ 140737488355328 ∧ q.2.size ≤ 140737488355328) := by
  subst hv
  obtain ⟨fuel, hf⟩ := h
  obtain ⟨a1, n1, c1, b, off, ps, e, hl, hp, hr⟩ := open_pars (v := .slice a0 len cap) hf
  injection e with e1 e2 e3
  subst e1 e2 e3
  exact ⟨b, off, ps, hl, hp, hr⟩
end
end Go.Proofs.YtihhabidfcgogaaDoor

/- A request that came in: opened, with its numbers' bounds. -/
namespace Go.Proofs.YtihhabidfcgogaaDoor
open Go.ChangeShapes Go.WideShapes Go.ChangeAt Go.RowKit Go.Joins

theorem array13q {α : Type} {cs : Array α} (h : cs.size = 13) : ∃ c0 c1 c2 c3 c4 c5 c6 c7 c8 c9 c10 c11 c12, cs = #[c0, c1, c2, c3, c4, c5, c6, c7, c8, c9, c10, c11, c12] := by
  obtain ⟨l⟩ := cs
  match l, h with
  | [c0, c1, c2, c3, c4, c5, c6, c7, c8, c9, c10, c11, c12], _ => exact ⟨c0, c1, c2, c3, c4, c5, c6, c7, c8, c9, c10, c11, c12, rfl⟩
theorem list3q {α : Type} {l : List α} (h : l.length = 3) : ∃ c0 c1 c2, l = [c0, c1, c2] := by
  match l, h with
  | [c0, c1, c2], _ => exact ⟨c0, c1, c2, rfl⟩
theorem list7q {α : Type} {l : List α} (h : l.length = 7) : ∃ c0 c1 c2 c3 c4 c5 c6, l = [c0, c1, c2, c3, c4, c5, c6] := by
  match l, h with
  | [c0, c1, c2, c3, c4, c5, c6], _ => exact ⟨c0, c1, c2, c3, c4, c5, c6, rfl⟩
section
variable {H : Type} {enc : TypeId × Value → H} {W : World}
set_option maxRecDepth 100000 in
/-- An origin among the cells of a greater thing. -/
theorem open_orgAt9 {fuel : Nat} {c0 c1 c2 : Value} {x : DataW H × List MemPlace} (h : DataW.trod enc Tryd.prog W 0 (fun _ => true) true fuel 31 [c0, c1, c2] = some x) :
    ∃ (s : Bool) (t : ByteArray) (p : Int), c0 = .bool s ∧ c1 = .string t ∧ c2 = .int .i64 p ∧ x.1 = .agg [.lit (.bool s), .lit (.string t.data.toList), .lit (.int .i64 p)] ∧ (Lit.int .i64 p).wf = true := by
  obtain ⟨xs, n, rfl, rfl, _, hlen, hff⟩ := DataW.trod_struct Tryd.underlying31 h
  obtain ⟨y0, y1, y2, rfl⟩ := list3q (hlen.trans rfl)
  have g0 : DataW.trod enc Tryd.prog W 0 (fun _ => true) true n 4 [c0] = some y0 := hff 0 _ rfl
  have g1 : DataW.trod enc Tryd.prog W 0 (fun _ => true) true n 9 [c1] = some y1 := hff 1 _ rfl
  have g2 : DataW.trod enc Tryd.prog W 0 (fun _ => true) true n 3 [c2] = some y2 := hff 2 _ rfl
  obtain ⟨s, e0, rfl⟩ := DataW.trod_bool Tryd.underlying4 g0
  obtain ⟨t, e1, rfl, _⟩ := DataW.trod_string Tryd.underlying9 g1
  obtain ⟨p, e2, rfl, wp⟩ := DataW.trod_int Tryd.underlying3 g2
  simp only [List.cons.injEq, and_true] at e0 e1 e2
  exact ⟨s, t, p, e0, e1, e2, rfl, wp⟩
set_option maxRecDepth 100000 in
set_option maxHeartbeats 2000000 in
theorem open_req9 {b0 : Nat} {v : Value} {d : DataW H} {p : List MemPlace} (hv : Value.okWide Tryd.prog W .any b0 39 v) (h : DataW.Trod enc Tryd.prog W 0 (fun _ => true) true 39 v d p) :
    ∃ (pt fp up : Int) (fs us wi : Bool) (fh uh pa qu me bo : ByteArray) (a0 : Option Addr) (len cap b off : Nat) (ps : List Par),
      v = .agg #[.int .i64 pt, .bool fs, .string fh, .int .i64 fp, .bool us, .string uh, .int .i64 up, .string pa, .string qu, .string me, .slice a0 len cap, .bool wi, .string bo] ∧
      ((Lit.int .i64 pt).wf = true ∧ (Lit.int .i64 fp).wf = true ∧ (Lit.int .i64 up).wf = true) ∧ (len ≤ cap ∧ cap ≤ 9223372036854775807) ∧ Pars W a0 len b off ps ∧
      (Reach 39 d → (fh.size ≤ 140737488355328 ∧ uh.size ≤ 140737488355328 ∧ pa.size ≤ 140737488355328 ∧ qu.size ≤ 140737488355328 ∧ me.size ≤ 140737488355328 ∧ bo.size ≤ 140737488355328) ∧ ∀ q ∈ ps, q.1.size ≤ 140737488355328 ∧ q.2.size ≤ 140737488355328) := by
  obtain ⟨cs, rfl, hsz⟩ := okWide_struct Tryd.underlying39 hv
  obtain ⟨c0, c1, c2, c3, c4, c5, c6, c7, c8, c9, c10, c11, c12, rfl⟩ := array13q (hsz.trans (by kernel_rfl))
  obtain ⟨fuel, hf⟩ := h
  obtain ⟨xs, n, _, hx, _, hlen, hff⟩ := DataW.trod_struct Tryd.underlying39 hf
  obtain ⟨y0, y1, y2, y3, y4, y5, y6, rfl⟩ := list7q (hlen.trans rfl)
  simp only [Prod.mk.injEq] at hx
  have g0 : DataW.trod enc Tryd.prog W 0 (fun _ => true) true n 3 [c0] = some y0 := hff 0 _ rfl
  have g1 : DataW.trod enc Tryd.prog W 0 (fun _ => true) true n 31 [c1, c2, c3] = some y1 := hff 1 _ rfl
  have g2 : DataW.trod enc Tryd.prog W 0 (fun _ => true) true n 33 [c4, c5, c6, c7, c8] = some y2 := hff 2 _ rfl
  have g3 : DataW.trod enc Tryd.prog W 0 (fun _ => true) true n 9 [c9] = some y3 := hff 3 _ rfl
  have g4 : DataW.trod enc Tryd.prog W 0 (fun _ => true) true n 37 [c10] = some y4 := hff 4 _ rfl
  have g5 : DataW.trod enc Tryd.prog W 0 (fun _ => true) true n 4 [c11] = some y5 := hff 5 _ rfl
  have g6 : DataW.trod enc Tryd.prog W 0 (fun _ => true) true n 9 [c12] = some y6 := hff 6 _ rfl
  obtain ⟨pt, e0, rfl, wpt⟩ := DataW.trod_int Tryd.underlying3 g0
  obtain ⟨fs, fh, fp, rfl, rfl, rfl, x1, wfp⟩ := open_orgAt9 g1
  obtain ⟨us', m, rfl, hx2, _, hlen2, hff2⟩ := DataW.trod_struct Tryd.underlying33 g2
  obtain ⟨u0, u1, u2, rfl⟩ := list3q (hlen2.trans rfl)
  have q0 : DataW.trod enc Tryd.prog W 0 (fun _ => true) true m 31 [c4, c5, c6] = some u0 := hff2 0 _ rfl
  have q1 : DataW.trod enc Tryd.prog W 0 (fun _ => true) true m 9 [c7] = some u1 := hff2 1 _ rfl
  have q2 : DataW.trod enc Tryd.prog W 0 (fun _ => true) true m 9 [c8] = some u2 := hff2 2 _ rfl
  obtain ⟨us, uh, up, rfl, rfl, rfl, z0, wup⟩ := open_orgAt9 q0
  obtain ⟨pa, e7, rfl, _⟩ := DataW.trod_string Tryd.underlying9 q1
  obtain ⟨qu, e8, rfl, _⟩ := DataW.trod_string Tryd.underlying9 q2
  obtain ⟨me, e9, rfl, _⟩ := DataW.trod_string Tryd.underlying9 g3
  obtain ⟨a0, len, cap, b, off, ps, rfl, hl, hp, hr⟩ := open_pars g4
  obtain ⟨wi, e11, rfl⟩ := DataW.trod_bool Tryd.underlying4 g5
  obtain ⟨bo, e12, rfl, _⟩ := DataW.trod_string Tryd.underlying9 g6
  simp only [List.cons.injEq, and_true] at e0 e7 e8 e9 e11 e12
  subst e0 e7 e8 e9 e11 e12
  refine ⟨pt, fp, up, fs, us, wi, fh, uh, pa, qu, me, bo, a0, len, cap, b, off, ps, rfl, ⟨wpt, wfp, wup⟩, hl, hp, fun hw => ?_⟩
  have hd := hx.1
  simp only [List.map_cons, List.map_nil, x1, hx2, z0] at hd
  subst hd
  have w1 := hw fh.data.toList.length (by simp [DataW.weights, DataW.weightsEach, Tryd.underlying39, Tryd.underlying31])
  have w2 := hw uh.data.toList.length (by simp [DataW.weights, DataW.weightsEach, Tryd.underlying39, Tryd.underlying31, Tryd.underlying33])
  have w3 := hw pa.data.toList.length (by simp [DataW.weights, DataW.weightsEach, Tryd.underlying39, Tryd.underlying31, Tryd.underlying33])
  have w4 := hw qu.data.toList.length (by simp [DataW.weights, DataW.weightsEach, Tryd.underlying39, Tryd.underlying31, Tryd.underlying33])
  have w5 := hw me.data.toList.length (by simp [DataW.weights, DataW.weightsEach, Tryd.underlying39])
  have w6 := hw bo.data.toList.length (by simp [DataW.weights, DataW.weightsEach, Tryd.underlying39])
  rw [Array.length_toList] at w1 w2 w3 w4 w5 w6
  refine ⟨⟨w1, w2, w3, w4, w5, w6⟩, hr fun k hk => hw k ?_⟩
  simp only [DataW.weights, Tryd.underlying39]
  simp [DataW.weightsEach, hk]
end
end Go.Proofs.YtihhabidfcgogaaDoor

/- (whatever any call hands in) Rows of passes that came in: opened. -/
namespace Go.Proofs.YtihhabidfcgogaaDoor
open Go.ChangeShapes Go.WideShapes Go.ChangeAt Go.RowKit Go.Joins

theorem list6b {α : Type} {l : List α} (h : l.length = 6) : ∃ c0 c1 c2 c3 c4 c5, l = [c0, c1, c2, c3, c4, c5] := by
  match l, h with
  | [c0, c1, c2, c3, c4, c5], _ => exact ⟨c0, c1, c2, c3, c4, c5, rfl⟩
instance : Inhabited PsV := ⟨⟨false, ⟨#[]⟩, 0, false, ⟨#[]⟩, 0, ⟨#[]⟩, ⟨#[]⟩, false, ⟨#[]⟩, ⟨#[]⟩, 0⟩⟩
theorem cells12b : Tryd.prog.cellsOf 35 = 12 := by kernel_rfl
section
variable {H : Type} {enc : TypeId × Value → H} {W : World}
set_option maxRecDepth 100000 in
theorem open_passAtG {fuel : Nat} {c0 c1 c2 c3 c4 c5 c6 c7 c8 c9 c10 c11 : Value} {x : DataW H × List MemPlace} (h : DataW.trod enc Tryd.prog W 0 (fun _ => true) true fuel 35 [c0, c1, c2, c3, c4, c5, c6, c7, c8, c9, c10, c11] = some x) :
    ∃ v : PsV, [c0, c1, c2, c3, c4, c5, c6, c7, c8, c9, c10, c11] = v.vals ∧ (Reach 35 x.1 → GoodP v) := by
  obtain ⟨xs, n, rfl, hx, _, hlen, hff⟩ := DataW.trod_struct Tryd.underlying35 h
  obtain ⟨y0, y1, y2, y3, y4, y5, rfl⟩ := list6b (hlen.trans rfl)
  have g0 : DataW.trod enc Tryd.prog W 0 (fun _ => true) true n 31 [c0, c1, c2] = some y0 := hff 0 _ rfl
  have g1 : DataW.trod enc Tryd.prog W 0 (fun _ => true) true n 33 [c3, c4, c5, c6, c7] = some y1 := hff 1 _ rfl
  have g2 : DataW.trod enc Tryd.prog W 0 (fun _ => true) true n 4 [c8] = some y2 := hff 2 _ rfl
  have g3 : DataW.trod enc Tryd.prog W 0 (fun _ => true) true n 9 [c9] = some y3 := hff 3 _ rfl
  have g4 : DataW.trod enc Tryd.prog W 0 (fun _ => true) true n 9 [c10] = some y4 := hff 4 _ rfl
  have g5 : DataW.trod enc Tryd.prog W 0 (fun _ => true) true n 3 [c11] = some y5 := hff 5 _ rfl
  obtain ⟨fs, fh, fp, rfl, rfl, rfl, x1, wfp⟩ := open_orgAt9 g0
  obtain ⟨us', m, rfl, hx2, _, hlen2, hff2⟩ := DataW.trod_struct Tryd.underlying33 g1
  obtain ⟨u0, u1, u2, rfl⟩ := list3q (hlen2.trans rfl)
  have q0 : DataW.trod enc Tryd.prog W 0 (fun _ => true) true m 31 [c3, c4, c5] = some u0 := hff2 0 _ rfl
  have q1 : DataW.trod enc Tryd.prog W 0 (fun _ => true) true m 9 [c6] = some u1 := hff2 1 _ rfl
  have q2 : DataW.trod enc Tryd.prog W 0 (fun _ => true) true m 9 [c7] = some u2 := hff2 2 _ rfl
  obtain ⟨us, uh, up, rfl, rfl, rfl, z0, wup⟩ := open_orgAt9 q0
  obtain ⟨pa, e7, rfl, _⟩ := DataW.trod_string Tryd.underlying9 q1
  obtain ⟨qu, e8, rfl, _⟩ := DataW.trod_string Tryd.underlying9 q2
  obtain ⟨wi, e9, rfl⟩ := DataW.trod_bool Tryd.underlying4 g2
  obtain ⟨me, e10, rfl, _⟩ := DataW.trod_string Tryd.underlying9 g3
  obtain ⟨he, e11, rfl, _⟩ := DataW.trod_string Tryd.underlying9 g4
  obtain ⟨un, e12, rfl, wun⟩ := DataW.trod_int Tryd.underlying3 g5
  simp only [List.cons.injEq, and_true] at e7 e8 e9 e10 e11 e12
  subst e7 e8 e9 e10 e11 e12
  refine ⟨⟨fs, fh, fp, us, uh, up, pa, qu, wi, me, he, un⟩, rfl, fun hw => ?_⟩
  have hd := hx
  simp only [List.map_cons, List.map_nil, x1, hx2, z0] at hd
  subst hd
  have w1 := hw fh.data.toList.length (by simp [DataW.weights, DataW.weightsEach, Tryd.underlying35, Tryd.underlying31])
  have w2 := hw uh.data.toList.length (by simp [DataW.weights, DataW.weightsEach, Tryd.underlying35, Tryd.underlying31, Tryd.underlying33])
  have w3 := hw pa.data.toList.length (by simp [DataW.weights, DataW.weightsEach, Tryd.underlying35, Tryd.underlying33])
  have w4 := hw qu.data.toList.length (by simp [DataW.weights, DataW.weightsEach, Tryd.underlying35, Tryd.underlying33])
  have w5 := hw me.data.toList.length (by simp [DataW.weights, DataW.weightsEach, Tryd.underlying35])
  have w6 := hw he.data.toList.length (by simp [DataW.weights, DataW.weightsEach, Tryd.underlying35])
  rw [Array.length_toList] at w1 w2 w3 w4 w5 w6
  have hM : (140737488355328 : Nat) ≤ maxLen := by unfold maxLen; omega
  exact ⟨⟨Nat.le_trans w1 hM, Nat.le_trans w2 hM, Nat.le_trans w3 hM, Nat.le_trans w4 hM, Nat.le_trans w5 hM, Nat.le_trans w6 hM, wfp, wup, wun⟩, ⟨w1, w2, w3, w4, w5, w6⟩⟩
theorem open_passesB {fuel : Nat} {v : Value} {x : DataW H × List MemPlace} (h : DataW.trod enc Tryd.prog W 0 (fun _ => true) true fuel 22 [v] = some x) :
    ∃ (a0 : Option Addr) (len cap b off : Nat) (gs : List PsV), v = .slice a0 len cap ∧ (len ≤ cap ∧ cap ≤ 9223372036854775807) ∧ Pss W a0 len b off gs ∧ (Reach 22 x.1 → ∀ p ∈ gs, GoodP p) := by
  rcases Go.Deep.open_slice Tryd.underlying22 h with ⟨hcs, hx⟩ | ⟨a, len, cap, m, n, D, Pl, hcs, _, hl, hm, hmm, hx, hall⟩
  · simp only [List.cons.injEq, and_true] at hcs
    exact ⟨none, 0, 0, 0, 0, [], hcs, ⟨by omega, by omega⟩, pss_nil W, fun _ p hp => by cases hp⟩
  · simp only [List.cons.injEq, and_true] at hcs
    simp only [if_true] at hmm
    obtain rfl := hmm.symm
    unfold maxLen at hm
    rw [cells12b] at hall
    have each : ∀ i, i < cap → ∃ g : PsV, (∀ (j : Nat) (u : Value), g.vals[j]? = some u → W.cell? (a.add (i * 12 + j)) = some u) ∧ (Reach 35 (D i) → GoodP g) := fun i hi => by
      obtain ⟨cs', h1, h2⟩ := hall i hi
      obtain ⟨_, hlen, hcell⟩ := World.cells?_some h1
      match cs', hlen with
      | [c0, c1, c2, c3, c4, c5, c6, c7, c8, c9, c10, c11], _ =>
        obtain ⟨g, e, hg⟩ := open_passAtG h2
        refine ⟨g, fun j u hj => ?_, hg⟩
        have hj12 : j < 12 := (List.getElem?_eq_some_iff.1 hj).1
        have e0 := hcell j hj12
        rw [Go.Deep.add_add] at e0
        rw [e0, e, hj]
    obtain ⟨C, hC⟩ := Go.Deep.choose_lt each
    obtain ⟨b, off, spot⟩ := a
    have hget : ∀ (j : Nat) (c : PsV), ((List.range len).map C)[j]? = some c → j < len ∧ c = C j := fun j p hp => by
      rw [List.getElem?_map] at hp
      by_cases hj : j < len
      · rw [List.getElem?_range hj] at hp
        simp only [Option.map_some, Option.some.injEq] at hp
        exact ⟨hj, hp.symm⟩
      · rw [List.getElem?_eq_none (by simp; omega)] at hp
        cases hp
    have hspot : 0 < len → spot = none := fun h0 => by simpa [Addr.add] using World.cell?_spot ((hC 0 (by omega)).1 0 _ rfl)
    refine ⟨some ⟨b, off, spot⟩, len, cap, b, off, (List.range len).map C, hcs, ⟨by omega, by omega⟩, ⟨by simp, fun h0 => ?_, fun j c hc i u hu => ?_⟩, fun hr p hp => ?_⟩
    · obtain rfl := hspot h0
      refine ⟨rfl, ?_⟩
      have hc := (hC 0 (by omega)).1 0 _ rfl
      rcases Nat.lt_or_ge b W.heap.size with h1 | h1
      · exact h1
      · simp [World.cell?, Addr.add, Array.getElem?_eq_none h1] at hc
    · obtain ⟨hj, rfl⟩ := hget j c hc
      obtain rfl := hspot (by omega)
      rw [Nat.add_assoc, ← add_plain]
      exact (hC j (by omega)).1 i u hu
    · obtain ⟨i, hi, rfl⟩ := List.mem_map.1 hp
      have hi' : i < len := List.mem_range.1 hi
      refine (hC i (by omega)).2 fun n hn => ?_
      refine hr n ?_
      rw [hx]
      exact weights_slice Tryd.underlying22 (List.mem_map.2 ⟨i, hi, rfl⟩) n hn
/-- A row of passes that came in. -/
theorem open_passesG {v : Value} {d : DataW H} {p : List MemPlace} {a : Option Addr} {n k : Nat} (h : DataW.Trod enc Tryd.prog W 0 (fun _ => true) true 22 v d p) (hv : v = .slice a n k) :
    ∃ (b off : Nat) (gs : List PsV), (n ≤ k ∧ k ≤ 9223372036854775807) ∧ Pss W a n b off gs ∧ (Reach 22 d → ∀ p ∈ gs, GoodP p) := by
  subst hv
  obtain ⟨fuel, hf⟩ := h
  obtain ⟨a0, len, cap, b, off, gs, e, h1, h2, h3⟩ := open_passesB (v := .slice a n k) hf
  injection e with e1 e2 e3
  subst e1 e2 e3
  exact ⟨b, off, gs, h1, h2, h3⟩
end
end Go.Proofs.YtihhabidfcgogaaDoor
