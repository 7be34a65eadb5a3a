/- Rows of structs: the first element of a kind, by the library's own function; whatever the program. -/
import Derived.Test.YtdnnlfklanaliabRk
import Derived.Test.YtdnnlfklanaliabEnt
import Derived.Deep.Draws
import Derived.Deep.LoopGhost
namespace Go.Proofs.Ytdnnlfklanaliab
open Go.RowKit
set_option linter.unusedVariables false

/-- A predicate, and what it leaves, in whatever world that holds what lay there but for a row. -/
def PredK (P : Program) (fn : Nat) (lb : Array Value) (p : List Value → Bool) (xs : List (List Value)) (w : World) (row : Option Nat) : Prop :=
  ∀ W x, x ∈ xs → w.grownBy W row → Calls P fn (#[.agg x.toArray] ++ lb) W fun e w' => e = .returned (.bool (p x)) ∧ Below W.heap.size W w'
theorem below_grown {w w' : World} (hb : Below w.heap.size w w') (row : Option Nat) : w.grownBy w' row := ⟨hb.os, hb.tape, hb.output, hb.size, fun i hi _ => hb.block i hi⟩
def fidx (p : List Value → Bool) (xs : List (List Value)) : Int := match xs.findIdx? p with
  | none => -1
  | some i => (i : Int)
theorem fidx_hit {p : List Value → Bool} {xs : List (List Value)} {k : Nat} {x : List Value} (h : (xs.take k).all (fun y => !p y) = true) (hk : xs[k]? = some x) (hx : p x = true) : fidx p xs = k := by
  have e : xs.findIdx? p = some k := by
    obtain ⟨hk1, e⟩ := List.getElem?_eq_some_iff.1 hk
    rw [List.findIdx?_eq_some_iff_getElem]
    refine ⟨hk1, by rw [e]; exact hx, fun j hj => ?_⟩
    have := List.all_eq_true.1 h xs[j] (by
      rw [List.mem_take_iff_getElem]
      exact ⟨j, by omega, rfl⟩)
    simpa using this
  unfold fidx
  rw [e]
theorem fidx_miss {p : List Value → Bool} {xs : List (List Value)} (h : xs.all (fun y => !p y) = true) : fidx p xs = -1 := by
  have e : xs.findIdx? p = none := by
    rw [List.findIdx?_eq_none_iff]
    intro x hx
    have := List.all_eq_true.1 h x hx
    simpa using this
  unfold fidx
  rw [e]
theorem miss_step {p : List Value → Bool} {xs : List (List Value)} {k : Nat} {x : List Value} (h : (xs.take k).all (fun y => !p y) = true) (hk : xs[k]? = some x) (hx : p x = false) : (xs.take (k + 1)).all (fun y => !p y) = true := by
  obtain ⟨hk1, e⟩ := List.getElem?_eq_some_iff.1 hk
  rw [List.take_succ_eq_append_getElem hk1, List.all_append, h, e]
  simp [hx]
set_option maxRecDepth 100000 in
set_option maxHeartbeats 2000000 in
theorem idxG_of (P : Program) (hf : P.funcs[44]? = some Try.f44) (mixed : P.follows .mixedOrders = true)
    (tS : P.underlying 22 = some (TypeDesc.slice 36)) (aS : ∀ w, (isAgg 22).run P w = .ok false w) (zS : ∀ w, (Go.sizeOf 22).run P w = .ok 1 w)
    (t3 : P.underlying 3 = some (TypeDesc.int IntKind.i64)) (a3 : ∀ w, (isAgg 3).run P w = .ok false w) (z3 : ∀ w, (Go.sizeOf 3).run P w = .ok 1 w) (v3 : ∀ w, (zeroValue 3).run P w = .ok (Value.int IntKind.i64 0) w)
    (t4 : P.underlying 4 = some TypeDesc.bool) (a4 : ∀ w, (isAgg 4).run P w = .ok false w) (z4 : ∀ w, (Go.sizeOf 4).run P w = .ok 1 w)
    (k : Nat) (aE : ∀ w, (isAgg 36).run P w = .ok true w) (zE : ∀ w, (Go.sizeOf 36).run P w = .ok k w)
    (g n cap B : Nat) (xs : List (List Value)) (hn : xs.length = n) (hbig : n ≤ 9223372036854775807) (w : World) (hown : OwnK k 36 w B (.slice (some ⟨g, 0, none⟩) n cap) xs)
    (p : List Value → Bool) (fn : Nat) (lb : Array Value) (eg : ∀ args w, (callFunc fn args).run P w = .ok (.enter fn args) w) (hp : PredK P fn lb p xs w (some g)) :
    Calls P 44 #[.slice (some ⟨g, 0, none⟩) n cap, .func (.func fn) #[] lb] w fun e w' => e = .returned (.int .i64 (fidx p xs)) ∧ Below w.heap.size w w' := by
  have HO : Hid (OwnK k 36 w B (.slice (some ⟨g, 0, none⟩) n cap) xs) := hown
  have HN : Hid (xs.length = n) := hn
  have HP : Hid (PredK P fn lb p xs w (some g)) := hp
  clear hown hn hp
  go_enter hf, Try.ntmps44
  go_wp2
  go_loopg [5, 8] n (fun gg _ s8 wr => ∃ kk : Nat, kk ≤ n ∧ n - kk ≤ gg ∧ s8 = .int .i64 kk ∧ Hid (Below w.heap.size w wr) ∧ Hid ((xs.take kk).all (fun y => !p y) = true))
  case atStart => exact ⟨0, Nat.zero_le _, by omega, rfl, Below.refl _ w, rfl⟩
  case round =>
    obtain ⟨kk, hkk, hg, rfl, BW, A⟩ := hrel
    by_cases hlt : kk < n
    · have hltz : (kk : Int) < (n : Int) := by omega
      obtain ⟨x, hx⟩ : ∃ x, xs[kk]? = some x := ⟨xs[kk]'(by have := HN.out; omega), List.getElem?_eq_getElem _⟩
      have HX : Hid (xs[kk]? = some x) := hx
      have l2 := (HO.out.below BW.out).load P hx
      have hcall := HP.out wr x (List.mem_of_getElem? hx) (below_grown BW.out _)
      clear hx
      cases hq : p x with
      | true =>
        rw [hq] at hcall
        have HQ : Hid (p x = true) := hq
        clear hq
        go_wp2_with (go_at_fn fn; refine hcall.mono ?_; rintro e w' ⟨rfl, hb'⟩)
        go_ret
        refine ⟨?_, BW.out.trans (hb'.mono BW.out.size)⟩
        rw [fidx_hit A.out HX.out HQ.out]
        rfl
      | false =>
        rw [hq] at hcall
        have HQ : Hid (p x = false) := hq
        clear hq
        go_wp2_with (go_at_fn fn; refine hcall.mono ?_; rintro e w' ⟨rfl, hb'⟩)
        go_roundg (n - (kk + 1))
        case measure => omega
        case rel => exact ⟨kk + 1, by omega, by omega, by go_num, BW.out.trans (hb'.mono BW.out.size), miss_step A.out HX.out HQ.out⟩
    · have hltz : ¬ (kk : Int) < (n : Int) := by omega
      have : kk = n := by omega
      subst this
      go_wp2
      go_ret
      refine ⟨?_, BW.out⟩
      rw [fidx_miss (by have := A.out; rw [List.take_of_length_le (by rw [HN.out]; exact Nat.le_refl _)] at this; exact this)]
      rfl
set_option maxHeartbeats 2000000 in
theorem idxG_any (g n cap B : Nat) (xs : List (List Value)) (hn : xs.length = n) (hbig : n ≤ 9223372036854775807) (w : World) (hown : OwnK 16 36 w B (.slice (some ⟨g, 0, none⟩) n cap) xs)
    (p : List Value → Bool) (fn : Nat) (lb : Array Value) (eg : ∀ args w, (callFunc fn args).run Try.prog w = .ok (.enter fn args) w) (hp : PredK Try.prog fn lb p xs w (some g)) :
    Calls Try.prog 44 #[.slice (some ⟨g, 0, none⟩) n cap, .func (.func fn) #[] lb] w fun e w' => e = .returned (.int .i64 (fidx p xs)) ∧ Below w.heap.size w w' :=
  idxG_of Try.prog Try.func44 (by kernel_rfl) Try.underlying22 Try.isAgg22 Try.sizeOf22 Try.underlying3 Try.isAgg3 Try.sizeOf3 Try.zeroValue3 Try.underlying4 Try.isAgg4 Try.sizeOf4 16 Try.isAgg36 Try.sizeOf36 g n cap B xs hn hbig w hown p fn lb eg hp
set_option maxHeartbeats 1000000 in
theorem idxG_none (w : World) (F : Value) : Calls Try.prog 44 #[.slice none 0 0, F] w fun e w' => e = .returned (.int .i64 (-1)) ∧ w' = w := by
  go_enter Try.func44, Try.ntmps44
  go_wp2
  refine wp_loop_rounds 1 ?_
  rw [rounds_succ]
  go_wp2
  go_ret
  exact ⟨rfl, rfl⟩
end Go.Proofs.Ytdnnlfklanaliab
