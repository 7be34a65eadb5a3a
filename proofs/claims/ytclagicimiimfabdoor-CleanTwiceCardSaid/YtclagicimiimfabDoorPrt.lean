/- A URL as text, whole and without its origin, by the program. -/
import Derived.Test.YtclagicimiimfabDoorTxt
import Derived.Test.YtclagicimiimfabDoorShClone
namespace Go.Proofs.YtclagicimiimfabDoor
open Go.RowKit Go.Shelf

/-- What is sent of a URL. -/
def tgt (path query : ByteArray) : ByteArray := if query.size = 0 then path else path ++ bs [63] ++ query
theorem tgt_none (path : ByteArray) : tgt path ⟨#[]⟩ = path := rfl
theorem tgt_some (path query : ByteArray) (h : query.size ≠ 0) : tgt path query = path ++ bs [63] ++ query := if_neg h
theorem tgt_size (path query : ByteArray) : (tgt path query).size ≤ path.size + query.size + 1 := by
  unfold tgt
  split
  · omega
  · rw [ByteArray.size_append, ByteArray.size_append, bs_size]
    simp
    omega
theorem clone_of (s : ByteArray) (w : World) (hs : s.size ≤ 5000) :
    Calls Tryd.prog 26 #[.string s] w fun e w' => e = .returned (.string s) ∧ Below w.heap.size w w' := by
  have hc : ∀ w, Calls Tryd.prog 53 #[.string s] w fun e w' => e = .returned (.string s) ∧ Below w.heap.size w w' := fun w => Any.stringslite_Clone laysM316 s w (by omega)
  go_enter Tryd.func26, Tryd.ntmps26
  go_wp2_with (go_at_call 53; refine (hc _).mono ?_; rintro e w' ⟨rfl, hb⟩)
  go_ret
  exact ⟨rfl, hb⟩
theorem full_str (s : ByteArray) (h : s.size ≠ 0) : s.toList.isEmpty = false := by
  rw [ByteArray.toList_eq]
  cases e : s.data.toList with
  | nil =>
    exfalso
    apply h
    have := congrArg List.length e
    rw [Array.length_toList] at this
    exact this
  | cons c t => rfl
theorem target_any (sec : Bool) (host : ByteArray) (port : Int) (path query : ByteArray) (hs : path.size + query.size ≤ 4000) (w : World) :
    Calls Tryd.prog 17 #[.agg #[.bool sec, .string host, .int .i64 port, .string path, .string query]] w fun e w' => e = .returned (.string (tgt path query)) ∧ Below w.heap.size w w' := by
  by_cases hq : query.size = 0
  · obtain rfl : query = ⟨#[]⟩ := by
      apply ByteArray.ext
      exact Array.eq_empty_of_size_eq_zero hq
    rw [tgt_none]
    have hs : path.size ≤ 5000 := by have : (⟨#[]⟩ : ByteArray).size = 0 := rfl; omega
    go_enter Tryd.func17, Tryd.ntmps17
    go_wp2_with (go_at_call 26; refine (clone_of path _ hs).mono ?_; rintro e w' ⟨rfl, hb⟩)
    go_ret
    exact ⟨rfl, ((Below.refl _ _).alloc (Nat.le_refl _) _).trans (hb.mono (by simp))⟩
  · have hie := full_str query hq
    rw [tgt_some path query hq]
    go_enter Tryd.func17, Tryd.ntmps17
    go_wp2
    go_ret
    exact ⟨rfl, (Below.refl _ _).alloc (Nat.le_refl _) _⟩

theorem keep5 {w W W' : World} {a : Nat} {v0 v1 v2 v3 v4 : Value} (h : W.cell? ⟨a, 0, none⟩ = some v0 ∧ W.cell? ⟨a, 1, none⟩ = some v1 ∧ W.cell? ⟨a, 2, none⟩ = some v2 ∧ W.cell? ⟨a, 3, none⟩ = some v3 ∧ W.cell? ⟨a, 4, none⟩ = some v4 ∧ TKeep w W) (hb : Below W.heap.size W W') :
    W'.cell? ⟨a, 0, none⟩ = some v0 ∧ W'.cell? ⟨a, 1, none⟩ = some v1 ∧ W'.cell? ⟨a, 2, none⟩ = some v2 ∧ W'.cell? ⟨a, 3, none⟩ = some v3 ∧ W'.cell? ⟨a, 4, none⟩ = some v4 ∧ TKeep w W' := by
  obtain ⟨h0, h1, h2, h3, h4, h5⟩ := h
  exact ⟨(hb.cell (p := ⟨a, 0, none⟩) (lt_of_cell h0)).trans h0, (hb.cell (p := ⟨a, 1, none⟩) (lt_of_cell h1)).trans h1, (hb.cell (p := ⟨a, 2, none⟩) (lt_of_cell h2)).trans h2, (hb.cell (p := ⟨a, 3, none⟩) (lt_of_cell h3)).trans h3, (hb.cell (p := ⟨a, 4, none⟩) (lt_of_cell h4)).trans h4, h5.step hb⟩
theorem begin5 (w : World) (h : Env w) (v0 v1 v2 v3 v4 : Value) (t : TypeId) (W : World) (hW : W = (w.alloc (.cells #[v0, v1, v2, v3, v4] t)).drew) :
    W.cell? ⟨w.heap.size, 0, none⟩ = some v0 ∧ W.cell? ⟨w.heap.size, 1, none⟩ = some v1 ∧ W.cell? ⟨w.heap.size, 2, none⟩ = some v2 ∧ W.cell? ⟨w.heap.size, 3, none⟩ = some v3 ∧ W.cell? ⟨w.heap.size, 4, none⟩ = some v4 ∧ TKeep w W := by
  subst hW
  have hb : Below w.heap.size w (w.alloc (.cells #[v0, v1, v2, v3, v4] t)).drew := ((Below.refl _ _).alloc (Nat.le_refl _) _).drew
  exact ⟨cells_new _ _ _ 0, cells_new _ _ _ 1, cells_new _ _ _ 2, cells_new _ _ _ 3, cells_new _ _ _ 4, h.below hb (Nat.le_refl _), hb, by simp⟩
theorem textL_length (sec : Bool) (host : List UInt8) (port : Int) (h0 : -9223372036854775808 ≤ port) (h1 : port ≤ 9223372036854775807) : (textL sec host port).length ≤ host.length + 30 := by
  have := Lib.itoa_length_le port h0 h1
  have hm : (markOf sec).data.toList.length ≤ 8 := by cases sec <;> decide
  have ht : (tailT sec port).length ≤ 22 := by
    unfold tailT
    split
    · simp
    · simp; omega
  unfold textL
  rw [List.length_append, List.length_append]
  omega
def printB (sec : Bool) (host : ByteArray) (port : Int) (path query : ByteArray) : ByteArray := bs (textL sec host.data.toList port) ++ tgt path query

set_option maxRecDepth 100000 in
set_option maxHeartbeats 1000000 in
theorem print_any (sec : Bool) (host : ByteArray) (port : Int) (path query : ByteArray) (hh : host.size ≤ 4000) (hs : path.size + query.size ≤ 4000) (h0 : -9223372036854775808 ≤ port) (h1 : port ≤ 9223372036854775807) (w : World) (h : Env w) :
    Calls Tryd.prog 10 #[.agg #[.bool sec, .string host, .int .i64 port, .string path, .string query]] w fun e w' => e = .returned (.string (printB sec host port path query)) ∧ Below w.heap.size w w' := by
  obtain ⟨x, HX⟩ : ∃ x : ByteArray, Hid (bs (textL sec host.data.toList port) = x) := ⟨_, rfl⟩
  obtain ⟨y, HY⟩ : ∃ y : ByteArray, Hid (tgt path query = y) := ⟨_, rfl⟩
  have hx : x.size ≤ 4100 := by
    rw [← HX.out, bs_size]
    have := textL_length sec host.data.toList port h0 h1
    have e : host.data.toList.length = host.size := Array.length_toList
    omega
  have hy : y.size ≤ 4100 := by rw [← HY.out]; have := tgt_size path query; omega
  have a1 := fun W => run_string_add_sum (P := Tryd.prog) W x y (by omega)
  have hQ := begin5 w h (.bool sec) (.string host) (.int .i64 port) (.string path) (.string query) 26 _ rfl
  go_enter Tryd.func10, Tryd.ntmps10
  go_wp2_with fail
  go_region_held3 (fun W => W.cell? ⟨w.heap.size, 0, none⟩ = some (.bool sec) ∧ W.cell? ⟨w.heap.size, 1, none⟩ = some (.string host) ∧ W.cell? ⟨w.heap.size, 2, none⟩ = some (.int .i64 port) ∧ W.cell? ⟨w.heap.size, 3, none⟩ = some (.string path) ∧ W.cell? ⟨w.heap.size, 4, none⟩ = some (.string query) ∧ TKeep w W) (first | assumption | exact hQ) (first
    | (go_at_call 16; refine (text_any sec host port hh h0 h1 _ (TKeep.env (And.right (And.right (And.right (And.right (And.right (by assumption)))))))).mono ?_; rintro e w3 ⟨rfl, hb3⟩; rw [HX.out]; have hQ3 := keep5 (by assumption) hb3)
    | (go_at_call 17; refine (target_any sec host port path query hs _).mono ?_; rintro e w4 ⟨rfl, hb4⟩; rw [HY.out]; have hQ4 := keep5 (by assumption) hb4))
  go_wp2
  go_ret
  exact ⟨ret_str (by unfold printB; rw [HX.out, HY.out]), hQ4.2.2.2.2.2.bel⟩
end Go.Proofs.YtclagicimiimfabDoor
