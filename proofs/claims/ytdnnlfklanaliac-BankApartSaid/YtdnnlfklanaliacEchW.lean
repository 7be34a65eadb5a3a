/- A row of structs, each made anew by a function; whatever the program. -/
import Derived.Test.YtdnnlfklanaliacDlfW
import Derived.Deep.AppendLies
import Derived.Test.YtdnnlfklanaliacEchG
namespace Go.Proofs.Ytdnnlfklanaliac
open Go.RowKit
set_option linter.unusedVariables false

set_option maxRecDepth 100000 in
set_option maxHeartbeats 4000000 in
theorem echW_of (P : Program) (hf : P.funcs[37]? = some Try.f37) (mixed : P.follows .mixedOrders = true)
    (tS : P.underlying 43 = some (TypeDesc.slice 67)) (aS : ∀ w, (isAgg 43).run P w = .ok false w) (zS : ∀ w, (Go.sizeOf 43).run P w = .ok 1 w)
    (t3 : P.underlying 3 = some (TypeDesc.int IntKind.i64)) (a3 : ∀ w, (isAgg 3).run P w = .ok false w) (z3 : ∀ w, (Go.sizeOf 3).run P w = .ok 1 w) (v3 : ∀ w, (zeroValue 3).run P w = .ok (Value.int IntKind.i64 0) w)
    (t4 : P.underlying 4 = some TypeDesc.bool) (a4 : ∀ w, (isAgg 4).run P w = .ok false w) (z4 : ∀ w, (Go.sizeOf 4).run P w = .ok 1 w)
    (k : Nat) (hk0 : 0 < k) (hk1 : k ≤ 1000) (aE : ∀ w, (isAgg 67).run P w = .ok true w) (zE : ∀ w, (Go.sizeOf 67).run P w = .ok k w) (zc : Array Value) (vE : ∀ w, (zeroValue 67).run P w = .ok (.agg zc) w) (hzc : zc.size = k) (hz1 : ∀ u ∈ zc, u.oneCell' = true)
    (i0 : TypeInfo) (hi0 : P.info? 67 = some i0) (hi1 : i0.size = k) (hi2 : i0.zero = some (.agg zc)) (by0 : Nat) (hi3 : i0.bytes = by0) (hi4 : by0 ≤ 1000)
    {α β : Type} (cl : α → List Value) (f : α → β) (hcl : ∀ v, (cl v).length = k) (Q : World → α → Prop) (hQ : Stays 67 Q) (hQ1 : ∀ W u, Q W u → ∀ x ∈ cl u, x.oneCell' = true)
    (g n cap B : Nat) (vs : List α) (hn : vs.length = n) (hbig : n ≤ 1000) (w : World) (hown : OwnK k 67 w B (.slice (some ⟨g, 0, none⟩) n cap) (vs.map cl))
    (fn : Nat) (eg : ∀ args w, (callFunc fn args).run P w = .ok (.enter fn args) w)
    (hm : ∀ W v, v ∈ vs → Below w.heap.size w W → Calls P fn #[.agg (cl v).toArray] W fun e w' => (∃ u, e = .returned (.agg (cl u).toArray) ∧ f u = f v ∧ Q w' u) ∧ Below W.heap.size W w') :
    Calls P 37 #[.slice (some ⟨g, 0, none⟩) n cap, .func (.func fn) #[] #[]] w fun e w' => (∃ (val : Value) (us : List α), e = .returned val ∧ OwnK k 67 w' w.heap.size val (us.map cl) ∧ us.map f = vs.map f ∧ ∀ u ∈ us, Q w' u) ∧ Below w.heap.size w w' := by
  have HO : Hid (OwnK k 67 w B (.slice (some ⟨g, 0, none⟩) n cap) (vs.map cl)) := hown
  have HN : Hid (vs.length = n) := hn
  have HM : Hid (∀ W v, v ∈ vs → Below w.heap.size w W → Calls P fn #[.agg (cl v).toArray] W fun e w' => (∃ u, e = .returned (.agg (cl u).toArray) ∧ f u = f v ∧ Q w' u) ∧ Below W.heap.size W w') := hm
  have HZ : Hid (zc.size = k ∧ (∀ u ∈ zc, u.oneCell' = true) ∧ i0.size = k ∧ i0.zero = some (.agg zc) ∧ i0.bytes = by0) := ⟨hzc, hz1, hi1, hi2, hi3⟩
  have HC : Hid ((∀ v, (cl v).length = k) ∧ Stays 67 Q ∧ (∀ W u, Q W u → ∀ x ∈ cl u, x.oneCell' = true)) := ⟨hcl, hQ, hQ1⟩
  clear hown hn hm hzc hz1 hi1 hi2 hi3 hcl hQ hQ1
  go_enter hf, Try.ntmps37
  go_wp2
  go_loopw [5, 10] (fun o i wr => ∃ (kk cap2 : Nat) (a : Option Addr), kk ≤ n ∧ i = .int .i64 kk ∧ o = .slice a kk cap2 ∧ Hid (Below w.heap.size w wr ∧ ∃ us : List α, us.length = kk ∧ OwnK k 67 wr w.heap.size (.slice a kk cap2) (us.map cl) ∧ us.map f = (vs.take kk).map f ∧ ∀ u ∈ us, Q wr u)) (fun _ i _ => n - (intOf i).toNat)
  case atStart => exact ⟨0, 0, none, Nat.zero_le _, rfl, rfl, ⟨Below.refl _ _, [], rfl, ownK_nil _ _ _ _, by simp, fun u hu => by cases hu⟩⟩
  case round =>
    obtain ⟨kk, cap2, a, hkk, rfl, rfl, HI⟩ := hrel
    by_cases hlt : kk < n
    · have hltz : (kk : Int) < (n : Int) := by omega
      obtain ⟨v, hv⟩ : ∃ v, vs[kk]? = some v := ⟨vs[kk]'(by have := HN.out; omega), List.getElem?_eq_getElem _⟩
      have HV : Hid (vs[kk]? = some v) := hv
      have hvm : (vs.map cl)[kk]? = some (cl v) := by rw [List.getElem?_map, hv]; rfl
      obtain ⟨x, hx⟩ : ∃ x, cl v = x := ⟨_, rfl⟩
      have HXV : Hid (cl v = x) := hx
      rw [hx] at hvm
      have hxm : x ∈ vs.map cl := List.mem_of_getElem? hvm
      have hxl : x.length = k := HO.out.len x hxm
      have hx1 : ∀ u ∈ x, u.oneCell' = true := HO.out.one x hxm
      have l1 := (HO.out.below HI.out.1).load P hvm
      have hb1 : Below wr.heap.size wr (wr.alloc (.cells x.toArray 67)) := (Below.refl _ _).alloc (Nat.le_refl _) _
      have s1 := run_boxed P wr zc 67 x (by rw [HZ.out.1, hxl]) hx1
      have l2 := run_unboxed P (w := wr.alloc (.cells x.toArray 67)) (w' := wr.alloc (.cells x.toArray 67)) (b := wr.heap.size) hxl (heap_alloc_new wr _) (Below.refl _ _)
      have HB1 : Hid (Below w.heap.size w (wr.alloc (.cells x.toArray 67)) ∧ Below wr.heap.size wr (wr.alloc (.cells x.toArray 67))) := ⟨HI.out.1.trans (hb1.mono HI.out.1.size), hb1⟩
      have hcall := HM.out _ v (List.mem_of_getElem? hv) HB1.out.1
      rw [hx] at hcall
      have hxa : x.toArray.size = k := by simp [hxl]
      clear hv hvm hxm hx hb1 hx1
      generalize hWX : wr.alloc (.cells x.toArray 67) = WX at s1 l2 HB1 hcall
      obtain ⟨hi1, hi2, hi3⟩ := HZ.out.2.2
      obtain ⟨us, hul, huo, huf, huq⟩ := HI.out.2
      have HU : Hid (us.length = kk ∧ OwnK k 67 wr w.heap.size (.slice a kk cap2) (us.map cl) ∧ us.map f = (vs.take kk).map f ∧ ∀ u ∈ us, Q wr u) := ⟨hul, huo, huf, huq⟩
      clear hul huo huf huq
      have HH : Hid (i0.size = k ∧ i0.zero = some (.agg zc) ∧ i0.bytes ≤ 1000) := ⟨hi1, hi2, by omega⟩
      clear hi1 hi2 hi3
      go_wp2_with (first
        | (go_at_fn fn; refine hcall.mono ?_; rintro e w2 ⟨⟨u, rfl, hfu, hqu⟩, hb2⟩; have HB2 : Hid (Below w.heap.size w w2 ∧ OwnK k 67 w2 w.heap.size (.slice a kk cap2) (us.map cl) ∧ f u = f v ∧ Q w2 u ∧ ∀ u ∈ us, Q w2 u) := ⟨HB1.out.1.trans (hb2.mono HB1.out.1.size), (HU.out.2.1.below HB1.out.2).below hb2, hfu, hqu, fun u hu => HC.out.2.1.below hb2 (HC.out.2.1.below HB1.out.2 (HU.out.2.2.2 u hu))⟩; clear hb2 hfu hqu)
        | (at_builtin; refine wpList_appK rfl _ _ 43 rfl 67 k hk0 zc tS HZ.out.1 i0 hi0 HH.out.1 HH.out.2.1 HH.out.2.2 w.heap.size w2 (.slice a kk cap2) (us.map cl) kk rfl HB2.out.2.1 (by rw [List.length_map]; exact HU.out.1) (by omega) HB2.out.1.size (cl u) (HC.out.1 u) (HC.out.2.2 w2 u HB2.out.2.2.2.1) rfl ?_; intro g4 cap4 w4 hown4 hg4 hlt4; have HF : Hid (Below w.heap.size w w4 ∧ ∃ us : List α, us.length = kk + 1 ∧ OwnK k 67 w4 w.heap.size (.slice (some ⟨g4, 0, none⟩) (kk + 1) cap4) (us.map cl) ∧ us.map f = (vs.take (kk + 1)).map f ∧ ∀ u ∈ us, Q w4 u) := ech_step HB2.out.1 HB2.out.2.1 hown4 hg4 HU.out.1 HU.out.2.2.1 HV.out HB2.out.2.2.1 HB2.out.2.2.2.1 HB2.out.2.2.2.2 HC.out.2.1; clear hown4 hg4 hlt4)
        | (refine wpList_bs1 rfl 43 _ rfl 67 k hk0 hk1 zc tS zE vE HZ.out.1 (cl u) rfl (HC.out.1 u) ?_))
      go_roundw
      case rel => exact ⟨kk + 1, _, _, by omega, by go_num, rfl, HF⟩
      case measure => simp [intOf]; omega
    · have hltz : ¬ (kk : Int) < (n : Int) := by omega
      go_wp2
      go_ret
      obtain ⟨us, hul, huo, huf, huq⟩ := HI.out.2
      exact ⟨⟨_, rfl, us, huo, by rw [huf, List.take_of_length_le (by rw [HN.out]; omega)], huq⟩, HI.out.1⟩
end Go.Proofs.Ytdnnlfklanaliac
