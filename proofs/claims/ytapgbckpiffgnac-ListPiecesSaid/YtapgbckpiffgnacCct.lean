/- Two rows of texts behind each other, by the library's own functions. -/
import Derived.Test.YtapgbckpiffgnacWrd
import Derived.Shelf.Spec.SlicesGrow
import Derived.Deep.Upon
namespace Go.Proofs.Ytapgbckpiffgnac
open Go.RowKit Go.Shelf

def grow_ren : Go.Shelf.Ren := ⟨fun | 4 => 37 | n => n, fun | 22 => 22 | 25 => 9 | 20 => 20 | n => n, fun | n => n⟩
theorem growL : Go.Proofs.Lays8.n4 Try.prog grow_ren := {
  mixed := by kernel_rfl
  f4 := ⟨"slices.Grow[[]string,string]", by kernel_rfl, Try.func37.trans (congrArg some (by kernel_rfl))⟩
  t0 := Try.underlying0
  a0 := Try.isAgg0
  z0 := Try.sizeOf0
  v0 := Try.zeroValue0
  t3 := Try.underlying3
  a3 := Try.isAgg3
  z3 := Try.sizeOf3
  v3 := Try.zeroValue3
  t4 := Try.underlying4
  a4 := Try.isAgg4
  z4 := Try.sizeOf4
  v4 := Try.zeroValue4
  t9 := Try.underlying9
  a9 := Try.isAgg9
  z9 := Try.sizeOf9
  v9 := Try.zeroValue9
  t20 := Try.underlying20
  a20 := Try.isAgg20
  z20 := Try.sizeOf20
  v20 := Try.zeroValue20
  t22 := Try.underlying22
  a22 := Try.isAgg22
  z22 := Try.sizeOf22
  v22 := Try.zeroValue22 }
theorem append_none (W : World) (ty : TypeId) (base a : Option Addr) (sl sc c : Nat) (hle : sl ≤ sc) : (Builtin.append_ #[22, 22] ty #[.slice base sl sc, .slice a 0 c]).run Try.prog W = .ok (.slice base sl sc) W := by
  obtain ⟨i0, hi0, hz0, hz1, hz2⟩ := info_parts info9
  refine run_append_nothing W 22 22 ty 9 i0 Try.underlying22 hi0 base sl sc hle _ ?_
  cases a with
  | none => exact Src.ofNil _ Try.underlying22 c
  | some a => exact Src.ofSlice _ Try.underlying22 a 0 c [] (by simp) (fun j u h => by simp at h) (fun u h => absurd h (by simp))
/-- A row of texts behind a row that is owned. -/
theorem wp_appr {ops : Array Oper} {rest : List Oper} {o : Oper} {a : Act} {Q : Exit → Act → World → Prop} (hgd : o.guard = none) (s x : Operand)
    (ho : o.op = .call { callee := .builtin .append, args := #[s, x], argTypes := #[22, 22] })
    (B : Nat) (wr : World) (v : Value) (xs : List ByteArray) (hs : a.eval s = v) (hown : OwnS wr B v xs) (hl : xs.length ≤ 1000) (hB : B ≤ wr.heap.size)
    (a2 : Option Addr) (m c b off : Nat) (ys : List ByteArray) (hx : a.eval x = .slice a2 m c) (hy : Strs wr a2 m b off ys) (hm : m ≤ 1000)
    (h : ∀ v' w', OwnS w' B v' (xs ++ ys) → wr.grownBy w' v.ownBlock → wpList Try.prog ops Q rest (a.put o.dst v') w') :
    wpList Try.prog ops Q (o :: rest) a wr := by
  obtain ⟨i0, hi0, hz0, hz1, hz2⟩ := info_parts info9
  have hym := hy.len_eq
  by_cases h0 : m = 0
  · subst h0
    have e : ys = [] := List.eq_nil_of_length_eq_zero hym
    subst e
    rcases hown.2 with ⟨rfl, hz⟩ | ⟨g, cap, cur, rfl, _, _, hle, _⟩
    · refine Lib.wpList_append_run _ hgd s x _ _ ho _ _ hs hx _ _ (append_none wr _ none a2 0 0 c (Nat.le_refl _)) (h _ _ ?_ (World.grownBy.refl _ _))
      rw [List.append_nil]
      exact hown
    · refine Lib.wpList_append_run _ hgd s x _ _ ho _ _ hs hx _ _ (append_none wr _ _ a2 _ _ c hle) (h _ _ ?_ (World.grownBy.refl _ _))
      rw [List.append_nil]
      exact hown
  · obtain ⟨rfl, _⟩ := hy.lies (by omega)
    refine wpList_append_lies _ hgd s x 22 ho B 9 i0 (.string ⟨#[]⟩) 1 16 Try.underlying22 hi0 hz0 hz1 hz2 rfl (by omega) v xs.length _ hs hown ⟨b, off, none⟩ m c (ys.map Value.string) hx (by rw [List.length_map, hym, Nat.mul_one])
      (fun j u hu => ?_) (fun u hu => ?_) (by omega) (by unfold maxLen; omega) (by omega) hB _ rfl ?_
    · rw [List.getElem?_map] at hu
      obtain ⟨z, hz, rfl⟩ := Option.map_eq_some_iff.1 hu
      rw [WideShapes.add_plain]
      exact hy.cells j z hz
    · obtain ⟨z, _, rfl⟩ := List.mem_map.1 hu
      simp [Value.oneCell']
    · intro g cap w' hown1 hgrow _ hlt
      refine h _ w' ?_ hgrow
      unfold OwnS
      rw [List.length_append, List.map_append, hym]
      exact hown1
theorem grow_nil (n : Nat) (hn : n ≤ 1000) (w : World) :
    Calls Try.prog 37 #[.slice none 0 0, .int .i64 (n : Int)] w fun e w' => ∃ v, e = .returned v ∧ OwnS w' w.heap.size v [] ∧ Below w.heap.size w w' := by
  obtain ⟨i0, hi0, hz0, hz1, hz2⟩ := info_parts info9
  by_cases h0 : n = 0
  · subst h0
    refine (Any8.slices_Grow_room growL none 0 0 0 w (Nat.le_refl _) (by omega) (by omega) (by omega)).mono ?_
    rintro e w' ⟨rfl, rfl⟩
    exact ⟨_, rfl, ownS_nil _ _, Below.refl _ _⟩
  · refine (Any8.slices_Grow_grow growL i0 (.string ⟨#[]⟩) hi0 hz0 (by omega) none 0 0 n [] w (Nat.le_refl _) (by omega) (by rw [hz2]; omega) (by omega) (by simp) (fun _ => rfl) (fun a ha => by cases ha)).mono ?_
    rintro e w' ⟨rfl, rfl⟩
    have hge : 0 + n ≤ grownCap w (0 + n) 0 (grow_ren.t 25) := grownCap_ge w _ _ _
    have hle : grownCap w (0 + n) 0 (grow_ren.t 25) ≤ maxLen := grownCap_le_maxLen w (0 + n) 0 _ (by unfold maxLen; omega)
    refine ⟨_, rfl, ?_, ((Below.refl _ _).drew).alloc (Nat.le_refl _) _⟩
    generalize grownCap w (0 + n) 0 (grow_ren.t 25) = G at hge hle
    refine ⟨rfl, .inr ⟨_, _, _, rfl, Nat.le_refl _, heap_alloc_new w.drew _, Nat.zero_le _, hle, ?_, ?_⟩⟩
    · simp [Builtin.zeroCells, Value.cells]
      omega
    · simp
set_option maxRecDepth 100000 in
set_option maxHeartbeats 2000000 in
theorem concat_two (g : Nat) (a1 a2 : Option Addr) (n1 c1 b1 o1 n2 c2 b2 o2 : Nat) (xs ys : List ByteArray) (w : World) (hg : g < w.heap.size) (h1 : w.cell? ⟨g, 0, none⟩ = some (.slice a1 n1 c1)) (h2 : w.cell? ⟨g, 0 + 1, none⟩ = some (.slice a2 n2 c2))
    (hx : Strs w a1 n1 b1 o1 xs) (hy : Strs w a2 n2 b2 o2 ys) (hn1 : n1 ≤ 100) (hn2 : n2 ≤ 100) :
    Calls Try.prog 16 #[.slice (some ⟨g, 0, none⟩) 2 2] w fun e w' => ∃ v, e = .returned v ∧ OwnS w' w.heap.size v (xs ++ ys) ∧ Below w.heap.size w w' := by
  have HX : Hid (Strs w a1 n1 b1 o1 xs) := hx
  have HY : Hid (Strs w a2 n2 b2 o2 ys) := hy
  clear hx hy
  go_enter Try.func16, Try.ntmps16
  have s1 : IntKind.i64.wrap (0 + (n1 : Int)) = (n1 : Int) := by unfold IntKind.wrap; simp [IntKind.bits, IntKind.signed]; omega
  have hgr : ∀ w, Calls Try.prog 37 #[.slice none 0 0, .int .i64 ((n1 : Int) + (n2 : Int))] w fun e w' => ∃ v, e = .returned v ∧ OwnS w' w.heap.size v [] ∧ Below w.heap.size w w' := fun w => by
    have := grow_nil (n1 + n2) (by omega) w
    push_cast at this
    exact this
  have hl1 := HX.out.len_eq
  have hl2 := HY.out.len_eq
  go_wp2
  refine wp_loop_rounds 3 ?_
  rw [rounds_succ]
  go_wp2
  rw [rounds_succ]
  go_wp2
  rw [rounds_succ]
  go_wp2_with fail
  refine (hgr _).mono ?_
  rintro e w3 ⟨v3, rfl, hown3, hb3⟩
  have HO3 : Hid (OwnS w3 w.heap.size v3 []) := hown3
  have f1 : w3.cell? ⟨g, 0, none⟩ = some (.slice a1 n1 c1) := (hb3.cell (p := ⟨g, 0, none⟩) hg).trans h1
  have z3 := hb3.size
  have HX3 : Hid (Strs w3 a1 n1 b1 o1 xs) := HX.out.below hb3
  have HF2 : Hid (w3.cell? ⟨g, 0 + 1, none⟩ = some (.slice a2 n2 c2)) := (hb3.cell (p := ⟨g, 0 + 1, none⟩) hg).trans h2
  clear hown3
  go_wp2
  refine wp_loop_rounds 3 ?_
  rw [rounds_succ]
  go_wp2_with (at_builtin; refine wp_appr rfl _ _ rfl w.heap.size w3 v3 [] rfl HO3.out (by simp) z3 a1 n1 c1 b1 o1 xs rfl HX3.out (by omega) ?_; intro v4 w4 hown4 hg4; have HO4 : Hid (OwnS w4 w.heap.size v4 xs) := hown4; clear hown4)
  have hb4 : Below w.heap.size w w4 := hb3.grown hg4 z3 (fun i hi => (HO3.out.lt i hi).1)
  have z4 := hb4.size
  have f2 : w4.cell? ⟨g, 1, none⟩ = some (.slice a2 n2 c2) := (hb4.cell (p := ⟨g, 1, none⟩) hg).trans h2
  have HY4 : Hid (Strs w4 a2 n2 b2 o2 ys) := HY.out.below hb4
  clear hg4 HF2 f1
  rw [rounds_succ]
  go_wp2_with (at_builtin; refine wp_appr rfl _ _ rfl w.heap.size w4 v4 xs rfl HO4.out (by omega) z4 a2 n2 c2 b2 o2 ys rfl HY4.out (by omega) ?_; intro v5 w5 hown5 hg5; have HO5 : Hid (OwnS w5 w.heap.size v5 (xs ++ ys)) := hown5; clear hown5)
  have hb5 : Below w.heap.size w w5 := hb4.grown hg5 z4 (fun i hi => (HO4.out.lt i hi).1)
  clear hg5
  rw [rounds_succ]
  go_wp2
  go_ret
  exact ⟨v5, rfl, HO5, hb5⟩
end Go.Proofs.Ytapgbckpiffgnac
