/- A list of words with commas between, by the program. -/
import Derived.Test.YtapgbckpiffgnacShBld
import Derived.Test.YtapgbckpiffgnacTkQ
import Derived.Deep.Cut
namespace Go.Proofs.Ytapgbckpiffgnac
open Go.RowKit

/-- A row of texts that lies somewhere. -/
structure Strs (w : World) (a0 : Option Addr) (len b off : Nat) (xs : List ByteArray) : Prop where
  len_eq : xs.length = len
  lies : 0 < len → a0 = some ⟨b, off, none⟩ ∧ b < w.heap.size
  cells : ∀ (j : Nat) (x : ByteArray), xs[j]? = some x → w.cell? ⟨b, off + j, none⟩ = some (.string x)
theorem Strs.below {w w' : World} {a0 : Option Addr} {len b off : Nat} {xs : List ByteArray} (h : Strs w a0 len b off xs) (hb : Below w.heap.size w w') : Strs w' a0 len b off xs := by
  refine ⟨h.len_eq, fun h0 => ⟨(h.lies h0).1, Nat.lt_of_lt_of_le (h.lies h0).2 hb.size⟩, fun j x hx => ?_⟩
  have hj := (List.getElem?_eq_some_iff.1 hx).1
  have hl := h.len_eq
  rw [hb.cell (p := ⟨b, off + j, none⟩) (h.lies (by omega)).2]
  exact h.cells j x hx
def datas (xs : List ByteArray) : List (List UInt8) := xs.map (·.data.toList)
theorem joinC_snoc (l : List (List UInt8)) (x : List UInt8) : joinC (l ++ [x]) = if l = [] then x else joinC l ++ ([44, 32] ++ x) := by
  induction l with
  | nil => rfl
  | cons p r ih =>
    rw [if_neg (by simp)]
    cases r with
    | nil => simp [joinC]
    | cons q t =>
      have e1 : joinC (p :: q :: t) = p ++ 44 :: 32 :: joinC (q :: t) := rfl
      have e2 : joinC (p :: q :: t ++ [x]) = p ++ 44 :: 32 :: joinC (q :: t ++ [x]) := rfl
      rw [e2, e1, ih, if_neg (by simp)]
      simp
theorem joinC_one (xs : List ByteArray) (x : ByteArray) (k : Nat) (h : xs[k]? = some x) (h0 : k = 0) : joinC (datas (xs.take (k + 1))) = joinC (datas (xs.take k)) ++ x.data.toList := by
  subst h0
  obtain ⟨hk, e⟩ := List.getElem?_eq_some_iff.1 h
  rw [List.take_succ_eq_append_getElem hk, e]
  simp [datas, joinC]
theorem joinC_more (xs : List ByteArray) (x : ByteArray) (k : Nat) (h : xs[k]? = some x) (h0 : 0 < k) : joinC (datas (xs.take (k + 1))) = joinC (datas (xs.take k)) ++ [44, 32] ++ x.data.toList := by
  obtain ⟨hk, e⟩ := List.getElem?_eq_some_iff.1 h
  rw [List.take_succ_eq_append_getElem hk, e]
  unfold datas
  rw [List.map_append, List.map_singleton, joinC_snoc, if_neg, List.append_assoc]
  intro h1
  have := congrArg List.length h1
  rw [List.length_map, List.length_take, List.length_nil] at this
  omega
theorem joinC_length (xs : List ByteArray) (m : Nat) (h : ∀ x ∈ xs, x.size ≤ m) : (joinC (datas xs)).length ≤ xs.length * (m + 2) := by
  induction xs with
  | nil => simp [datas, joinC]
  | cons x r ih =>
    have hx := h x (by simp)
    have hr := ih (fun y hy => h y (by simp [hy]))
    have hl : x.data.toList.length = x.size := Array.length_toList
    cases r with
    | nil => simp [datas, joinC]; omega
    | cons y t =>
      have e : joinC (datas (x :: y :: t)) = x.data.toList ++ 44 :: 32 :: joinC (datas (y :: t)) := rfl
      rw [e]
      simp only [List.length_append, List.length_cons] at hr ⊢
      rw [hl, Nat.add_mul]
      omega
set_option maxRecDepth 100000 in
set_option maxHeartbeats 2000000 in
theorem join_any (a0 : Option Addr) (len cap b off : Nat) (xs : List ByteArray) (m : Nat) (hm : ∀ x ∈ xs, x.size ≤ m) (hn : xs.length * (m + 2) ≤ 30000) (hlen : len ≤ 1000) (w : World) (hx : Strs w a0 len b off xs) :
    Calls Try.prog 9 #[.slice a0 len cap] w fun e w' => e = .returned (.string (bs (joinC (datas xs)))) ∧ Below w.heap.size w w' := by
  obtain ⟨i0, hi0, hz0, hz1, hz2⟩ := info_parts info5
  have hl := hx.len_eq
  have HX : Hid (Strs w a0 len b off xs) := hx
  clear hx
  go_enter Try.func9, Try.ntmps9
  go_wp2
  have hB0 : Below w.heap.size w (w.alloc (.cells #[.pointer none, .slice none 0 0] 58)) := (Below.refl _ _).alloc (Nat.le_refl _) _
  go_loopw [8] (fun i wr => ∃ (k : Nat), k ≤ len ∧ i = .int .i64 k ∧ Hid (Lib.IsBuilder 58 5 w.heap.size w.heap.size (Lib.byteCells (joinC (datas (xs.take k)))) wr) ∧ Below w.heap.size w wr) (fun i _ => len - (intOf i).toNat)
  case atStart => exact ⟨0, Nat.zero_le _, rfl, Lib.fresh_isBuilder _ _ _, hB0⟩
  case round =>
    obtain ⟨k, hk, rfl, HI, hb⟩ := hrel
    have hwz : w.heap.size ≤ wr.heap.size := hb.size
    by_cases hlt : k < len
    · obtain ⟨x, hxk⟩ : ∃ x, xs[k]? = some x := ⟨xs[k]'(by omega), List.getElem?_eq_getElem (by omega)⟩
      have HK : Hid (xs[k]? = some x) := hxk
      have hxm : x.size ≤ m := hm x (List.mem_of_getElem? hxk)
      obtain ⟨ha0, hbl⟩ := HX.out.lies (by omega)
      subst ha0
      have hcell : wr.cell? ⟨b, off + k, none⟩ = some (.string x) := (hb.cell (p := ⟨b, off + k, none⟩) hbl).trans (HX.out.cells k x hxk)
      have hjl : (joinC (datas (xs.take k))).length + m + 4 ≤ 70000 := by
        have h1 := joinC_length (xs.take k) m (fun y hy => hm y (List.mem_of_mem_take hy))
        have h2 : (xs.take k).length ≤ xs.length := by rw [List.length_take]; omega
        have h3 := Nat.mul_le_mul_right (m + 2) h2
        have h4 : 1 * (m + 2) ≤ xs.length * (m + 2) := Nat.mul_le_mul_right _ (by omega)
        omega
      have hxm2 : (joinC (datas (xs.take k))).length + x.size + 4 ≤ 70000 := by omega
      have HJ : Hid ((joinC (datas (xs.take k))).length + x.size + 4 ≤ 70000) := hxm2
      clear hjl hxm hxm2 hm hn hxk
      by_cases h0 : k = 0
      · have HE : Hid (joinC (datas (xs.take (k + 1))) = joinC (datas (xs.take k)) ++ x.data.toList) := joinC_one xs x k HK h0
        have hk0 : ¬ (0 : Int) < (k : Int) := by omega
        clear h0
        go_wp2_with fail
        refine (bld_write w.heap.size w.heap.size _ x _ HI.out (by have := HJ.out; omega) hwz).mono ?_
        rintro e w2 ⟨rfl, hi2, hb2⟩
        rw [← HE.out] at hi2
        have HI2 : Hid (Lib.IsBuilder 58 5 w.heap.size w.heap.size (Lib.byteCells (joinC (datas (xs.take (k + 1))))) w2) := hi2
        clear hi2
        go_wp2
        go_roundw
        case rel => exact ⟨k + 1, by omega, by go_num, HI2, hb.trans hb2⟩
        case measure => simp [intOf]; omega
      · have HE : Hid (joinC (datas (xs.take (k + 1))) = joinC (datas (xs.take k)) ++ [44, 32] ++ x.data.toList) := joinC_more xs x k HK (by omega)
        have hkp : (0 : Int) < (k : Int) := by omega
        go_wp2_with fail
        refine (bld_write w.heap.size w.heap.size _ ⟨#[44, 32]⟩ _ HI.out (by have := HJ.out; have : (⟨#[44, 32]⟩ : ByteArray).size = 2 := rfl; omega) hwz).mono ?_
        rintro e w2 ⟨rfl, hi2, hb2⟩
        have HI2 : Hid (Lib.IsBuilder 58 5 w.heap.size w.heap.size (Lib.byteCells (joinC (datas (xs.take k)) ++ [44, 32])) w2) := hi2
        clear hi2
        go_wp2_with fail
        refine (bld_write w.heap.size w.heap.size _ x _ HI2.out (by have := HJ.out; rw [List.length_append]; have : ([44, 32] : List UInt8).length = 2 := rfl; omega) (Nat.le_trans hwz hb2.size)).mono ?_
        rintro e w3 ⟨rfl, hi3, hb3⟩
        rw [← HE.out] at hi3
        have HI3 : Hid (Lib.IsBuilder 58 5 w.heap.size w.heap.size (Lib.byteCells (joinC (datas (xs.take (k + 1))))) w3) := hi3
        clear hi3
        go_wp2
        go_roundw
        case rel => exact ⟨k + 1, by omega, by go_num, HI3, (hb.trans hb2).trans hb3⟩
        case measure => simp [intOf]; omega
    · have HE : Hid (xs.take k = xs) := List.take_of_length_le (by omega)
      have HI2 := HI.out
      rw [HE.out] at HI2
      have HI3 : Hid (Lib.IsBuilder 58 5 w.heap.size w.heap.size (Lib.byteCells (joinC (datas xs))) wr) := HI2
      clear HI2 HI
      go_wp2_with fail
      refine (bld_string w.heap.size w.heap.size _ _ HI3.out hwz).mono ?_
      rintro e w2 ⟨rfl, hb2⟩
      go_wp2
      go_ret
      exact ⟨rfl, hb.trans hb2⟩
end Go.Proofs.Ytapgbckpiffgnac
