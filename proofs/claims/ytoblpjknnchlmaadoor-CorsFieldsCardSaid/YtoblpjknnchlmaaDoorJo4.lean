/- Texts of one claim, joined: each begins with what it proves. -/
import Derived.Test.YtoblpjknnchlmaaDoorJo3
import Derived.Test.YtoblpjknnchlmaaDoorJo1
import Derived.Deep.QuietTactic
import Derived.BigQuiet
import Derived.Shelf.LaysM
import Derived.Shelf.Strings.Search3
import Derived.Shelf.Strings.Shaped
import Derived.Below
import Derived.Handed
import Derived.Lay
import Derived.LaidHandle
import Derived.LaidMore
/- Which number an error with a place is. -/
namespace Go.Proofs.YtoblpjknnchlmaaDoor
open Go.RowKit Go.Extern.Stop Go.Stop Go.Extern

set_option maxHeartbeats 800000 in
theorem tell_at (g : Nat) (n : Int) (w : World) (hg : ErrT w) (hat : w.cell? ⟨g, 0, none⟩ = some (.int .i64 n)) (hgl : g < w.heap.size) : Calls Tryd.prog 35 #[.iface 45 (.pointer (some ⟨g, 0, none⟩))] w fun e w' => e = .returned (.int .i64 n) ∧ Below w.heap.size w w' := by
  have HG : Hid (ErrT w) := hg
  have HA : Hid (w.cell? ⟨g, 0, none⟩ = some (.int .i64 n)) := hat
  clear hg hat
  go_enter Tryd.func35, Tryd.ntmps35
  go_wp2_with fail
  refine (as_at g n ⟨w.heap.size, 0, none⟩ (.int .i64 0) _ ?_ ?_ ?_ ?_ ?_ ?_ ?_).mono ?_
  · exact (HG.out.below ((Below.refl _ _).alloc (Nat.le_refl _) _)).1
  · have := HG.out.2; first | (simp; done) | (simp; omega)
  · simp
  · simp
  · simp
  · rw [World.cell?_alloc_lt _ _ ⟨g, 0, none⟩ hgl]; exact HA
  · simp; omega
  · rintro e w1 ⟨rfl, hw⟩
    have hc : w1.cell? ⟨w.heap.size, 0, none⟩ = some (.int .i64 n) := by
      rw [hw]
      refine World.cell?_setCell_same (u := .int .i64 0) _ _ _ ?_
      rw [World.cell?_alloc_lt _ _ _ (by simp; omega), World.cell?_alloc_lt _ _ _ (by simp; omega), World.cell?_alloc_lt _ _ _ (by simp; omega), World.cell?_alloc_lt _ _ _ (by simp)]
      simp
    have hb : Below w.heap.size w w1 := by
      rw [hw]
      exact (((((((Below.refl _ _).alloc (Nat.le_refl _) _).alloc (by simp) _).alloc (by simp; omega) _).alloc (by simp; omega) _).alloc (by simp; omega) _).setCell (Nat.le_refl _) _)
    clear hw
    go_wp2
    go_ret
    exact ⟨rfl, hb⟩
end Go.Proofs.YtoblpjknnchlmaaDoor

/- An error taken apart: of none it is OK, of a bare number that number; and there is no place. -/
namespace Go.Proofs.YtoblpjknnchlmaaDoor
open Go.RowKit Go.Extern.Stop Go.Stop Go.Extern

theorem noAt (n : Int) (w : World) : (Instr.typeAssert (.iface 24 (.int .i64 n)) 30 45 true).run Tryd.prog w = .ok (.tuple #[.pointer none, .bool false]) w := by kernel_rfl
theorem noUnwrap (n : Int) (w : World) : (Instr.typeAssert (.iface 24 (.int .i64 n)) 30 63 true).run Tryd.prog w = .ok (.tuple #[.nilIface, .bool false]) w := by
  refine run_typeAssert_lacksB Tryd.underlying63 ?_ ?_ _ _ _
  · kernel_rfl
  · kernel_rfl

set_option maxHeartbeats 800000 in
theorem place_nil (w : World) : Calls Tryd.prog 19 #[.nilIface] w fun e w' => e = .returned (.tuple #[.int .i64 0, .int .i64 (-1)]) ∧ Below w.heap.size w w' := by
  go_enter Tryd.func19, Tryd.ntmps19
  go_wp2_with (go_at_call 35; refine (tell_nil _).mono ?_; rintro e w1 ⟨rfl, rfl⟩)
  refine wp_loop_rounds 1 ?_
  rw [rounds_succ]
  go_wp2
  go_ret2
  exact ⟨rfl, Below.refl _ _⟩

set_option maxHeartbeats 800000 in
theorem place_no (n : Int) (w : World) (hg : ErrT w) : Calls Tryd.prog 19 #[.iface 24 (.int .i64 n)] w fun e w' => e = .returned (.tuple #[.int .i64 n, .int .i64 (-1)]) ∧ Below w.heap.size w w' := by
  have a1 := noAt n
  have a2 := noUnwrap n
  go_enter Tryd.func19, Tryd.ntmps19
  go_wp2_with (go_at_call 35; refine (tell_no n _ hg).mono ?_; rintro e w1 ⟨rfl, hb⟩)
  clear hg
  refine wp_loop_rounds 1 ?_
  rw [rounds_succ]
  go_wp2
  go_ret2
  exact ⟨rfl, hb⟩

end Go.Proofs.YtoblpjknnchlmaaDoor

/- An error taken apart and held against the document's: none, a bare number, a number at a place. -/
namespace Go.Proofs.YtoblpjknnchlmaaDoor
open Go.RowKit Go.Extern.Stop Go.Stop Go.Extern

theorem isAt (v : Value) (w : World) : (Instr.typeAssert (.iface 45 v) 30 45 true).run Tryd.prog w = .ok (.tuple #[v, .bool true]) w := by kernel_rfl
set_option maxHeartbeats 800000 in
theorem place_at (g : Nat) (n p : Int) (w : World) (hg : ErrT w) (hat : w.cell? ⟨g, 0, none⟩ = some (.int .i64 n)) (hat2 : w.cell? ⟨g, 1, none⟩ = some (.int .i64 p)) (hgl : g < w.heap.size) :
    Calls Tryd.prog 19 #[.iface 45 (.pointer (some ⟨g, 0, none⟩))] w fun e w' => e = .returned (.tuple #[.int .i64 n, .int .i64 p]) ∧ Below w.heap.size w w' := by
  have a1 := isAt (.pointer (some ⟨g, 0, none⟩))
  go_enter Tryd.func19, Tryd.ntmps19
  go_wp2_with (go_at_call 35; refine (tell_at g n _ hg hat hgl).mono ?_; rintro e w1 ⟨rfl, hb⟩)
  have h2 : w1.cell? ⟨g, 1, none⟩ = some (.int .i64 p) := (hb.cell (p := ⟨g, 1, none⟩) hgl).trans hat2
  clear hg hat hat2
  refine wp_loop_rounds 1 ?_
  rw [rounds_succ]
  go_wp2
  go_quiet (fail)
  go_wp2
  go_ret2
  exact ⟨rfl, hb.trans ⟨rfl, rfl, rfl, Nat.le_refl _, fun _ _ => rfl⟩⟩
set_option maxHeartbeats 800000 in
theorem placed_nil (w : World) : Calls Tryd.prog 7 #[.nilIface, .agg #[.int .i64 0, .int .i64 (-1)]] w fun e w' => e = .returned (.bool true) ∧ Below w.heap.size w w' := by
  go_enter Tryd.func7, Tryd.ntmps7
  go_wp2_with fail
  refine (place_nil _).mono ?_
  rintro e w1 ⟨rfl, hb⟩
  have c0 : w1.cell? ⟨w.heap.size, 0, none⟩ = some (.int .i64 0) := (hb.cell (p := ⟨w.heap.size, 0, none⟩) (by simp)).trans (by simp)
  have c1 : w1.cell? ⟨w.heap.size, 1, none⟩ = some (.int .i64 (-1)) := (hb.cell (p := ⟨w.heap.size, 1, none⟩) (by simp)).trans (by simp)
  go_wp2
  go_ret
  exact ⟨rfl, ((Below.refl _ _).alloc (Nat.le_refl _) _).trans (hb.mono (by simp))⟩
set_option maxHeartbeats 800000 in
theorem placed_no (n : Int) (w : World) (hg : ErrT w) : Calls Tryd.prog 7 #[.iface 24 (.int .i64 n), .agg #[.int .i64 n, .int .i64 (-1)]] w fun e w' => e = .returned (.bool true) ∧ Below w.heap.size w w' := by
  have HG : Hid (ErrT w) := hg
  clear hg
  go_enter Tryd.func7, Tryd.ntmps7
  go_wp2_with fail
  refine (place_no n _ (HG.out.below ((Below.refl _ _).alloc (Nat.le_refl _) _))).mono ?_
  rintro e w1 ⟨rfl, hb⟩
  have c0 : w1.cell? ⟨w.heap.size, 0, none⟩ = some (.int .i64 n) := (hb.cell (p := ⟨w.heap.size, 0, none⟩) (by simp)).trans (by simp)
  have c1 : w1.cell? ⟨w.heap.size, 1, none⟩ = some (.int .i64 (-1)) := (hb.cell (p := ⟨w.heap.size, 1, none⟩) (by simp)).trans (by simp)
  have hnn : (n == n) = true := by simp
  go_wp2
  go_ret
  exact ⟨by simp, ((Below.refl _ _).alloc (Nat.le_refl _) _).trans (hb.mono (by simp))⟩
set_option maxHeartbeats 800000 in
theorem placed_at (g : Nat) (n p : Int) (w : World) (hg : ErrT w) (hat : w.cell? ⟨g, 0, none⟩ = some (.int .i64 n)) (hat2 : w.cell? ⟨g, 1, none⟩ = some (.int .i64 p)) (hgl : g < w.heap.size) :
    Calls Tryd.prog 7 #[.iface 45 (.pointer (some ⟨g, 0, none⟩)), .agg #[.int .i64 n, .int .i64 p]] w fun e w' => e = .returned (.bool true) ∧ Below w.heap.size w w' := by
  have HG : Hid (ErrT w) := hg
  have H1 : Hid (w.cell? ⟨g, 0, none⟩ = some (.int .i64 n)) := hat
  have H2 : Hid (w.cell? ⟨g, 1, none⟩ = some (.int .i64 p)) := hat2
  clear hg hat hat2
  go_enter Tryd.func7, Tryd.ntmps7
  go_wp2_with fail
  refine (place_at g n p _ (HG.out.below ((Below.refl _ _).alloc (Nat.le_refl _) _)) ?_ ?_ ?_).mono ?_
  · rw [World.cell?_alloc_lt _ _ ⟨g, 0, none⟩ hgl]; exact H1
  · rw [World.cell?_alloc_lt _ _ ⟨g, 1, none⟩ hgl]; exact H2
  · simp; omega
  rintro e w1 ⟨rfl, hb⟩
  have c0 : w1.cell? ⟨w.heap.size, 0, none⟩ = some (.int .i64 n) := (hb.cell (p := ⟨w.heap.size, 0, none⟩) (by simp)).trans (by simp)
  have c1 : w1.cell? ⟨w.heap.size, 1, none⟩ = some (.int .i64 p) := (hb.cell (p := ⟨w.heap.size, 1, none⟩) (by simp)).trans (by simp)
  have hnn : (n == n) = true := by simp
  have hpp : (p == p) = true := by simp
  go_wp2
  go_ret
  exact ⟨by simp, ((Below.refl _ _).alloc (Nat.le_refl _) _).trans (hb.mono (by simp))⟩
end Go.Proofs.YtoblpjknnchlmaaDoor

/- The law CorsFields, walked. -/
namespace Go.Proofs.YtoblpjknnchlmaaDoor
open Go.RowKit

theorem lt_cell9f {W : World} {g i : Nat} {v : Value} (h : W.cell? ⟨g, i, none⟩ = some v) : g < W.heap.size := by
  rcases Nat.lt_or_ge g W.heap.size with h1 | h1
  · exact h1
  · simp [World.cell?, Array.getElem?_eq_none h1] at h
theorem eqPar9 (x y : ByteArray) (w : World) :
    (Op.equalIn 10000 41 (.agg #[.string x, .string y]) (.agg #[.string x, .string y])).run Tryd.prog w = .ok true w := by
  have u9 := Tryd.underlying9
  have hS : Tryd.prog.underlying 41 = some (.struct (Tryd.prog.fieldsOf 41)) := by kernel_rfl
  have hp : Tryd.prog.stoodInHeld 41 = false := by kernel_rfl
  rw [show (10000 : Nat) = 9999 + 1 from rfl, run_equalIn_agg w 9999 41 _ _ hS hp]
  simp only [Program.fieldsOf, Tryd.underlying41]
  go_simp
set_option maxRecDepth 100000 in
set_option maxHeartbeats 4000000 in
theorem sameParams_same (a1 a2 : Option Addr) (n c b1 o1 d b2 o2 : Nat) (xs : List Par) (w : World) (hn : n ≤ 1000) (h1 : Pars w a1 n b1 o1 xs) (h2 : Pars w a2 n b2 o2 xs) :
    Calls Tryd.prog 8 #[.slice a1 n c, .slice a2 n d] w fun e w' => e = .returned (.bool true) ∧ ∃ q, w' = w.drewN q := by
  have H1 : Hid (Pars w a1 n b1 o1 xs) := h1
  have H2 : Hid (Pars w a2 n b2 o2 xs) := h2
  have HL : Hid (xs.length = n) := h1.len_eq
  clear h1 h2
  go_enter Tryd.func8, Tryd.ntmps8
  go_wp2
  go_loopw [5] (fun i wr => ∃ (k q : Nat), k ≤ n ∧ i = .int .i64 k ∧ wr = w.drewN q) (fun i _ => n - (intOf i).toNat)
  case atStart => exact ⟨0, 0, Nat.zero_le _, rfl, rfl⟩
  case round =>
    obtain ⟨k, q, hk, rfl, rfl⟩ := hrel
    by_cases hlt : k < n
    · have hltz : (k : Int) < (n : Int) := by omega
      obtain ⟨x, hx⟩ : ∃ x, xs[k]? = some x := ⟨xs[k]'(by have := HL.out; omega), List.getElem?_eq_getElem _⟩
      obtain ⟨ha1, _⟩ := H1.out.lies (by omega)
      obtain ⟨ha2, _⟩ := H2.out.lies (by omega)
      subst ha1 ha2
      obtain ⟨xn, xv⟩ := x
      have c1 : w.cell? ⟨b1, o1 + k * 2, none⟩ = some (.string xn) := H1.out.one k _ hx
      have c2 : w.cell? ⟨b1, o1 + k * 2 + 1, none⟩ = some (.string xv) := H1.out.two k _ hx
      have d1 : w.cell? ⟨b2, o2 + k * 2, none⟩ = some (.string xn) := H2.out.one k _ hx
      have d2 : w.cell? ⟨b2, o2 + k * 2 + 1, none⟩ = some (.string xv) := H2.out.two k _ hx
      have ep := fun W => eqPar9 xn xv W
      clear hx
      go_wp2
      go_quiet (fail)
      go_wp2
      go_roundw
      case rel => exact ⟨k + 1, _, by omega, by go_num, rfl⟩
      case measure => simp [intOf]; omega
    · have hltz : ¬ (k : Int) < (n : Int) := by omega
      go_wp2
      go_ret
      exact ⟨rfl, q, rfl⟩
set_option maxHeartbeats 1000000 in
theorem fields_long (s : ByteArray) (hs : (3000 : Int) < (s.size : Int)) (w : World) :
    Calls Tryd.prog 6 #[.string s] w fun e w' => e = .returned (.tuple #[.slice none 0 0, .iface 24 (.int .i64 4)]) ∧ w' = w := by
  go_enter Tryd.func6, Tryd.ntmps6
  go_wp2
  go_ret2
  exact ⟨rfl, rfl⟩
set_option maxHeartbeats 2000000 in
theorem refFields_long (s : ByteArray) (hs : (3000 : Int) < (s.size : Int)) (w : World) :
    Calls Tryd.prog 5 #[.string s] w fun e w' => e = .returned (.tuple #[.slice none 0 0, .agg #[.int .i64 4, .int .i64 (-1)]]) ∧ Below w.heap.size w w' := by
  have HB1 : Hid (Below w.heap.size w (w.alloc (.cells #[.int .i64 0, .int .i64 0] 26))) := (Below.refl _ _).alloc (Nat.le_refl _) _
  have HF1 : Hid ((w.alloc (.cells #[.int .i64 0, .int .i64 0] 26)).heap[w.heap.size]? = some (.cells #[.int .i64 0, .int .i64 0] 26 (0, 0))) := heap_alloc_new w _
  go_enter Tryd.func5, Tryd.ntmps5
  go_wp2_with fail
  refine (bareG_any 4 _).mono ?_
  rintro e w5 ⟨rfl, hb5⟩
  have HFB5 : Hid (w5.heap[w.heap.size]? = some (.cells #[.int .i64 0, .int .i64 0] 26 (0, 0))) := (by show _ = _; rw [hb5.block _ (by simp)]; exact HF1.out)
  have HB5 : Hid (Below w.heap.size w w5) := HB1.out.trans (hb5.mono HB1.out.size)
  clear hb5
  have f0 := cells_of HFB5.out 0 _ rfl
  have f1 := cells_of HFB5.out 1 _ rfl
  have g0 : w5.frozen? ⟨w.heap.size, 0, none⟩ = false := by simp [World.frozen?, HFB5.out]
  have g1 : w5.frozen? ⟨w.heap.size, 1, none⟩ = false := by simp [World.frozen?, HFB5.out]
  obtain ⟨e0, e1⟩ := fault_end f0 f1 (.int .i64 4) (.int .i64 (-1))
  go_wp2
  exact bodyPost_ret (v := .tuple #[.slice none 0 0, .agg #[.int .i64 4, .int .i64 (-1)]]) (by simp [results, Tryd.f5, go_sem, e0, e1]) rfl ⟨rfl, (HB5.out.setCell (p := ⟨w.heap.size, 0, none⟩) (Nat.le_refl _) _).setCell (p := ⟨w.heap.size, 1, none⟩) (Nat.le_refl _) _⟩
def wordyL (s : ByteArray) : Bool := (decide ((800 : Int) < (s.size : Int)) && decide ((s.size : Int) ≤ 3000)) || decide ((3009 : Int) < (s.size : Int))
set_option maxHeartbeats 2000000 in
theorem wordy_any (s : ByteArray) (w : World) : Calls Tryd.prog 4 #[.string s] w fun e w' => e = .returned (.bool (wordyL s)) ∧ w' = w := by
  have HW : Hid (wordyL s = ((decide ((800 : Int) < (s.size : Int)) && decide ((s.size : Int) ≤ 3000)) || decide ((3009 : Int) < (s.size : Int)))) := rfl
  by_cases h1 : (800 : Int) < (s.size : Int)
  · by_cases h2 : (s.size : Int) ≤ 3000
    · have e1 := decide_eq_true h1
      have e2 := decide_eq_true h2
      go_enter Tryd.func4, Tryd.ntmps4
      go_wp2
      go_ret
      exact ⟨ret_bool (by rw [HW.out, e1, e2]; rfl), rfl⟩
    · have e2 := decide_eq_false h2
      go_enter Tryd.func4, Tryd.ntmps4
      go_wp2
      go_ret
      exact ⟨ret_bool (by rw [HW.out, e2, Bool.and_false, Bool.false_or]), rfl⟩
  · have e1 := decide_eq_false h1
    go_enter Tryd.func4, Tryd.ntmps4
    go_wp2
    go_ret
    exact ⟨ret_bool (by rw [HW.out, e1, Bool.false_and, Bool.false_or]), rfl⟩
set_option maxRecDepth 100000 in
set_option maxHeartbeats 8000000 in
theorem corsFields_walk (s : ByteArray) (_hs : s.size ≤ 140737488355328) (w : World) (hg : ErrT w) :
    Calls Tryd.prog 3 #[.string s] w fun e w' => e = .returned (.bool true) ∧ Below w.heap.size w w' := by
  have HG : Hid (ErrT w) := hg
  clear _hs hg
  obtain ⟨z, HZ⟩ : ∃ z, Hid (wordyL s = z) := ⟨_, rfl⟩
  have hwd := fun W => wordy_any s W
  rw [HZ.out] at hwd
  have HSP : Hid (∀ (a1 a2 : Option Addr) (n c b1 o1 d b2 o2 : Nat) (xs : List Par) (W : World), n ≤ 1000 → Pars W a1 n b1 o1 xs → Pars W a2 n b2 o2 xs → Calls Tryd.prog 8 #[.slice a1 n c, .slice a2 n d] W fun e w' => e = .returned (.bool true) ∧ ∃ q, w' = W.drewN q) := fun a1 a2 n c b1 o1 d b2 o2 xs W h1 h2 h3 => sameParams_same a1 a2 n c b1 o1 d b2 o2 xs W h1 h2 h3
  go_enter Tryd.func3, Tryd.ntmps3
  go_wp2_with fail
  refine (hwd _).mono ?_
  rintro e w1 ⟨rfl, hw1⟩
  obtain rfl := hw1.symm
  clear hwd
  cases z
  case' true =>
    go_wp2
    go_ret
    exact ⟨rfl, Below.refl _ _⟩
  by_cases hbig : (3000 : Int) < (s.size : Int)
  · go_wp2_with fail
    refine (refFields_long s hbig _).mono ?_
    rintro e w2 ⟨rfl, hb2⟩
    have HB2 : Hid (Below w.heap.size w w2) := hb2
    have HBA : Hid (Below w2.heap.size w2 (w2.alloc (.cells #[.int .i64 4, .int .i64 (-1)] 26))) := (Below.refl _ _).alloc (Nat.le_refl _) _
    have k0 : (w2.alloc (.cells #[.int .i64 4, .int .i64 (-1)] 26)).cell? ⟨w2.heap.size, 0, none⟩ = some (.int .i64 4) := World.cell?_alloc_mark _ _ _ _ _
    have k1 : (w2.alloc (.cells #[.int .i64 4, .int .i64 (-1)] 26)).cell? ⟨w2.heap.size, 1, none⟩ = some (.int .i64 (-1)) := World.cell?_alloc_mark _ _ _ _ _
    clear hb2
    go_wp2_with fail
    refine (fields_long s hbig _).mono ?_
    rintro e w3 ⟨rfl, hw3⟩
    obtain rfl := hw3.symm
    go_wp2_with fail
    refine (placed_no 4 _ (HG.out.below (HB2.out.trans (HBA.out.mono HB2.out.size)))).mono ?_
    rintro e w4 ⟨rfl, hb4⟩
    have HB4 : Hid (Below w.heap.size w w4) := (HB2.out.trans (HBA.out.mono HB2.out.size)).trans (hb4.mono (Nat.le_trans HB2.out.size HBA.out.size))
    clear hb4 k0 k1
    go_wp2_with fail
    refine (HSP.out none none 0 0 0 0 0 0 0 [] _ (by omega) ⟨rfl, fun h => absurd h (by omega), fun j p hp => by simp at hp, fun j p hp => by simp at hp⟩ ⟨rfl, fun h => absurd h (by omega), fun j p hp => by simp at hp, fun j p hp => by simp at hp⟩).mono ?_
    rintro e w5 ⟨rfl, q, rfl⟩
    go_wp2
    go_ret
    exact ⟨rfl, HB4.out.trans ⟨rfl, rfl, rfl, Nat.le_refl _, fun _ _ => rfl⟩⟩
  · have hs3 : s.size ≤ 3000 := by omega
    obtain ⟨o, HO⟩ : ∃ o, Hid (fieldsF s.data.toList = o) := ⟨_, rfl⟩
    have hrf := refFields9_any s hs3 w
    have HPF : Hid (∀ W, Calls Tryd.prog 6 #[.string s] W fun e w' => FldAns o W.heap.size e w' ∧ Below W.heap.size W w') := fun W => by
      have := fields9_any s hs3 W
      rw [HO.out] at this
      exact this
    rw [HO.out] at hrf
    clear hbig
    go_wp2_with fail
    refine hrf.mono ?_
    rintro e w2 ⟨ha2, hb2⟩
    have HB2 : Hid (Below w.heap.size w w2) := hb2
    clear hrf hb2
    rcases ha2 with ⟨acc, v, ho, h40, rfl, hown⟩ | ⟨ho, rfl⟩ | ⟨i, ho, rfl⟩
    · obtain ⟨a, cap, g, rfl, hps, _⟩ := hown.pars
      obtain ⟨n, HN⟩ : ∃ n, Hid (acc.length = n) := ⟨_, rfl⟩
      rw [HN.out] at hps h40
      have HP2 : Hid (Pars w2 a n g 0 acc) := hps
      have HOO : Hid (o = .ok acc) := ho
      clear hown hps ho
      rw [HN.out]
      have HBA : Hid (Below w2.heap.size w2 (w2.alloc (.cells #[.int .i64 0, .int .i64 (-1)] 26))) := (Below.refl _ _).alloc (Nat.le_refl _) _
      have HK0 : Hid ((w2.alloc (.cells #[.int .i64 0, .int .i64 (-1)] 26)).heap[w2.heap.size]? = some (.cells #[.int .i64 0, .int .i64 (-1)] 26 (0, 0))) := heap_alloc_new _ _
      go_wp2_with fail
      refine (HPF.out _).mono ?_
      rintro e w3 ⟨ha3, hb3⟩
      have HB3 : Hid (Below w2.heap.size w2 w3) := HBA.out.trans (hb3.mono HBA.out.size)
      have HK3 : Hid (w3.heap[w2.heap.size]? = some (.cells #[.int .i64 0, .int .i64 (-1)] 26 (0, 0))) := (by show _ = _; rw [hb3.block _ (by simp)]; exact HK0.out)
      clear hb3
      rcases ha3 with ⟨acc2, v3, ho3, _, rfl, hown3⟩ | ⟨ho3, rfl⟩ | ⟨i, g3, ho3, rfl, _⟩
      case' inr.inl => exact absurd (HOO.out.symm.trans ho3) (by simp)
      case' inr.inr => exact absurd (HOO.out.symm.trans ho3) (by simp)
      have e2 : acc2 = acc := by
        have := HOO.out.symm.trans ho3
        injection this with this
        exact this.symm
      subst e2
      obtain ⟨a3, cap3, g3, rfl, hps3, _⟩ := hown3.pars
      rw [HN.out] at hps3
      have HP3 : Hid (Pars w3 a3 n g3 0 acc2 ∧ Pars w3 a n g 0 acc2) := ⟨hps3, HP2.out.below HB3.out⟩
      clear hown3 hps3 ho3
      rw [HN.out]
      have k0 := cells_of HK3.out 0 _ rfl
      have k1 := cells_of HK3.out 1 _ rfl
      go_wp2_with fail
      refine (placed_nil _).mono ?_
      rintro e w4 ⟨rfl, hb4⟩
      have HP4 : Hid (Pars w4 a3 n g3 0 acc2 ∧ Pars w4 a n g 0 acc2) := ⟨HP3.out.1.below hb4, HP3.out.2.below hb4⟩
      have HB4 : Hid (Below w.heap.size w w4) := HB2.out.trans ((HB3.out.trans (hb4.mono HB3.out.size)).mono HB2.out.size)
      clear hb4 k0 k1
      go_wp2_with fail
      refine (HSP.out a3 a n _ g3 0 _ g 0 acc2 _ (by omega) HP4.out.1 HP4.out.2).mono ?_
      rintro e w5 ⟨rfl, q, rfl⟩
      go_wp2
      go_ret
      exact ⟨rfl, HB4.out.trans ⟨rfl, rfl, rfl, Nat.le_refl _, fun _ _ => rfl⟩⟩
    · have HOO : Hid (o = .error none) := ho
      clear ho
      have HBA : Hid (Below w2.heap.size w2 (w2.alloc (.cells #[.int .i64 4, .int .i64 (-1)] 26))) := (Below.refl _ _).alloc (Nat.le_refl _) _
      have HK0 : Hid ((w2.alloc (.cells #[.int .i64 4, .int .i64 (-1)] 26)).heap[w2.heap.size]? = some (.cells #[.int .i64 4, .int .i64 (-1)] 26 (0, 0))) := heap_alloc_new _ _
      go_wp2_with fail
      refine (HPF.out _).mono ?_
      rintro e w3 ⟨ha3, hb3⟩
      have HB3 : Hid (Below w2.heap.size w2 w3) := HBA.out.trans (hb3.mono HBA.out.size)
      have HK3 : Hid (w3.heap[w2.heap.size]? = some (.cells #[.int .i64 4, .int .i64 (-1)] 26 (0, 0))) := (by show _ = _; rw [hb3.block _ (by simp)]; exact HK0.out)
      clear hb3
      rcases ha3 with ⟨acc2, v3, ho3, _, rfl, hown3⟩ | ⟨ho3, rfl⟩ | ⟨i, g3, ho3, rfl, _⟩
      case' inl => exact absurd (HOO.out.symm.trans ho3) (by simp)
      case' inr.inr => exact absurd (HOO.out.symm.trans ho3) (by simp)
      have k0 := cells_of HK3.out 0 _ rfl
      have k1 := cells_of HK3.out 1 _ rfl
      go_wp2_with fail
      refine (placed_no 4 _ (HG.out.below (HB2.out.trans (HB3.out.mono HB2.out.size)))).mono ?_
      rintro e w4 ⟨rfl, hb4⟩
      have HB4 : Hid (Below w.heap.size w w4) := HB2.out.trans ((HB3.out.trans (hb4.mono HB3.out.size)).mono HB2.out.size)
      clear hb4 k0 k1
      go_wp2_with fail
      refine (HSP.out none none 0 0 0 0 0 0 0 [] _ (by omega) ⟨rfl, fun h => absurd h (by omega), fun j p hp => by simp at hp, fun j p hp => by simp at hp⟩ ⟨rfl, fun h => absurd h (by omega), fun j p hp => by simp at hp, fun j p hp => by simp at hp⟩).mono ?_
      rintro e w5 ⟨rfl, q, rfl⟩
      go_wp2
      go_ret
      exact ⟨rfl, HB4.out.trans ⟨rfl, rfl, rfl, Nat.le_refl _, fun _ _ => rfl⟩⟩
    · have HOO : Hid (o = .error (some i)) := ho
      clear ho
      have HBA : Hid (Below w2.heap.size w2 (w2.alloc (.cells #[.int .i64 3, .int .i64 (i : Int)] 26))) := (Below.refl _ _).alloc (Nat.le_refl _) _
      have HK0 : Hid ((w2.alloc (.cells #[.int .i64 3, .int .i64 (i : Int)] 26)).heap[w2.heap.size]? = some (.cells #[.int .i64 3, .int .i64 (i : Int)] 26 (0, 0))) := heap_alloc_new _ _
      go_wp2_with fail
      refine (HPF.out _).mono ?_
      rintro e w3 ⟨ha3, hb3⟩
      have HB3 : Hid (Below w2.heap.size w2 w3) := HBA.out.trans (hb3.mono HBA.out.size)
      have HK3 : Hid (w3.heap[w2.heap.size]? = some (.cells #[.int .i64 3, .int .i64 (i : Int)] 26 (0, 0))) := (by show _ = _; rw [hb3.block _ (by simp)]; exact HK0.out)
      clear hb3
      rcases ha3 with ⟨acc2, v3, ho3, _, rfl, hown3⟩ | ⟨ho3, rfl⟩ | ⟨i2, g3, ho3, rfl, hc0, hc1, _⟩
      case' inl => exact absurd (HOO.out.symm.trans ho3) (by simp)
      case' inr.inl => exact absurd (HOO.out.symm.trans ho3) (by simp)
      have e2 : i2 = i := by
        have := HOO.out.symm.trans ho3
        injection this with this
        injection this with this
        exact this.symm
      subst e2
      have HC : Hid (w3.cell? ⟨g3, 0, none⟩ = some (.int .i64 3) ∧ w3.cell? ⟨g3, 1, none⟩ = some (.int .i64 (i2 : Int))) := ⟨hc0, hc1⟩
      clear hc0 hc1 ho3
      have k0 := cells_of HK3.out 0 _ rfl
      have k1 := cells_of HK3.out 1 _ rfl
      go_wp2_with fail
      refine (placed_at g3 3 (i2 : Int) _ (HG.out.below (HB2.out.trans (HB3.out.mono HB2.out.size))) HC.out.1 HC.out.2 (lt_cell9f HC.out.1)).mono ?_
      rintro e w4 ⟨rfl, hb4⟩
      have HB4 : Hid (Below w.heap.size w w4) := HB2.out.trans ((HB3.out.trans (hb4.mono HB3.out.size)).mono HB2.out.size)
      clear hb4 k0 k1
      go_wp2_with fail
      refine (HSP.out none none 0 0 0 0 0 0 0 [] _ (by omega) ⟨rfl, fun h => absurd h (by omega), fun j p hp => by simp at hp, fun j p hp => by simp at hp⟩ ⟨rfl, fun h => absurd h (by omega), fun j p hp => by simp at hp, fun j p hp => by simp at hp⟩).mono ?_
      rintro e w5 ⟨rfl, q, rfl⟩
      go_wp2
      go_ret
      exact ⟨rfl, HB4.out.trans ⟨rfl, rfl, rfl, Nat.le_refl _, fun _ _ => rfl⟩⟩
end Go.Proofs.YtoblpjknnchlmaaDoor

/- The library's contracts that are leant on, laid at this program's numbers. -/
namespace Go.Proofs.YtoblpjknnchlmaaDoor
open Go.Shelf Go.RowKit
def laysM143_ren : Go.Shelf.Ren := ⟨fun | 143 => 38 | 219 => 46 | 217 => 21 | 225 => 54 | 224 => 55 | 267 => 56 | 266 => 39 | 314 => 62 | n => n, fun | 9 => 9 | 3 => 3 | 4 => 4 | 5 => 5 | 46 => 80 | 146 => 100 | 51 => 99 | n => n, fun | 1 => 0 | n => n⟩
theorem laysM143 : Go.Proofs.LaysM.n143 Tryd.prog laysM143_ren := {
  mixed := by kernel_rfl
  f143 := Tryd.func38.trans (congrArg some (by kernel_rfl))
  f217 := Tryd.func21.trans (congrArg some (by kernel_rfl))
  f219 := Tryd.func46.trans (congrArg some (by kernel_rfl))
  f224 := Tryd.func55.trans (congrArg some (by kernel_rfl))
  f225 := Tryd.func54.trans (congrArg some (by kernel_rfl))
  f266 := Tryd.func39.trans (congrArg some (by kernel_rfl))
  f267 := Tryd.func56.trans (congrArg some (by kernel_rfl))
  f314 := Tryd.func62.trans (congrArg some (by kernel_rfl))
  t3 := Tryd.underlying3
  a3 := Tryd.isAgg3
  z3 := Tryd.sizeOf3
  v3 := Tryd.zeroValue3
  t4 := Tryd.underlying4
  a4 := Tryd.isAgg4
  z4 := Tryd.sizeOf4
  v4 := Tryd.zeroValue4
  t5 := Tryd.underlying5
  a5 := Tryd.isAgg5
  z5 := Tryd.sizeOf5
  v5 := Tryd.zeroValue5
  t9 := Tryd.underlying9
  a9 := Tryd.isAgg9
  z9 := Tryd.sizeOf9
  v9 := Tryd.zeroValue9
  t46 := Tryd.underlying80
  a46 := Tryd.isAgg80
  z46 := Tryd.sizeOf80
  v46 := Tryd.zeroValue80
  t51 := Tryd.underlying99
  a51 := Tryd.isAgg99
  z51 := Tryd.sizeOf99
  v51 := Tryd.zeroValue99
  t146 := Tryd.underlying100
  a146 := Tryd.isAgg100
  z146 := Tryd.sizeOf100
  v146 := Tryd.zeroValue100
  g1 := by kernel_rfl
  i3 := by kernel_rfl
  i4 := by kernel_rfl
  i5 := by kernel_rfl
  i9 := by kernel_rfl
  i46 := by kernel_rfl
  i51 := by kernel_rfl
  i146 := by kernel_rfl
  m1 := by kernel_rfl
  s1_3 := fun w h => Go.Proofs.cell_of_shapedOpen_int (zero := #[.int .i64 0]) (t := 3) h (of_decide_eq_true (by kernel_rfl)) (by kernel_rfl) rfl (by kernel_rfl) (by kernel_rfl) Tryd.underlying3 }
end Go.Proofs.YtoblpjknnchlmaaDoor

/- Where a text begins in another one, by the library: its own bound is read from the world's shape, and is of no account. -/
namespace Go.Proofs.YtoblpjknnchlmaaDoor
open Go.RowKit Go.Shelf

/-- The library's own bound, whatever it is. -/
def MaxL (w : World) : Prop := (∃ m : Int, w.cell? ⟨0, 0, none⟩ = some (.int .i64 m)) ∧ 0 < w.heap.size
theorem MaxL.below {w w' : World} (h : MaxL w) (hb : Below w.heap.size w w') : MaxL w' := by
  obtain ⟨⟨m, hm⟩, hl⟩ := h
  exact ⟨⟨m, (hb.cell (p := ⟨0, 0, none⟩) hl).trans hm⟩, Nat.lt_of_lt_of_le hl hb.size⟩
theorem index_any (s sub : ByteArray) (hs : s.size ≤ 20000) (w : World) (h : MaxL w) :
    Calls Tryd.prog 38 #[.string s, .string sub] w fun e w' => e = .returned (.int .i64 (Lib.index s.data.toList sub.data.toList)) ∧ w' = w := by
  obtain ⟨⟨m, hm⟩, _⟩ := h
  exact Any.strings_Index { laysM143 with } s sub m w (by omega) hm
theorem maxL_of_shape {W : World} (h : W.ShapedOpen Tryd.prog) : MaxL W := by
  obtain ⟨m, hm⟩ := laysM143.s1_3 W h
  refine ⟨⟨m, hm⟩, ?_⟩
  have hm' : W.cell? ⟨0, 0, none⟩ = some (.int .i64 m) := hm
  rcases Nat.lt_or_ge 0 W.heap.size with h | h
  · exact h
  · simp [World.cell?, Array.getElem?_eq_none h] at hm'
end Go.Proofs.YtoblpjknnchlmaaDoor

/- A tied card whose walk wants the world's shape (the cell of a variable that no row lays), and a witness that has a pinned table beside a handle: the door's world, with the tables laid in it. -/
namespace Go.Proofs.YtoblpjknnchlmaaDoor

section
variable {H : Type} {enc : TypeId × Value → H}
theorem handed_shaped {a : Assume} {C : Checked} {os : Os} {f : FuncId} {fn : Func} {s : ChangeSpec} {conds : List PathCond} {apart fresh handsOn again : Bool} {X : World → Array Value → Prop}
    (hX : ∀ (w w' : World) (args : Array Value), w.heap = w'.heap → X w args → X w' args)
    (own : ownKnob C.prog.godebug = none) (started : os.Started) (noInit : C.prog.inits.idxOf? f = none) (hfn : C.prog.funcs[f]? = some fn)
    (witness : ∃ (w : World) (tape : Tape) (i : Input), w.os = os ∧ (w.forCall tape i).Shaped C.prog ∧ i.vars = [] ∧ Input.okWide C.prog (w.forCall tape i) .any w.heap.size f i ∧
      ((s.pre enc C.prog fn conds apart (w.forCall tape i).memory i.args ∧ X (w.forCall tape i).memory i.args) ∧ sizedMet enc C.prog fn (OpenSpec.ofChange s) apart (w.forCall tape i).memory i.args) ∧ a.holds C.prog (lone (Frame.enter C.prog f i.args .normal) [] (w.forCall tape i)))
    (walk : ∀ (W : World) (base : Nat) (args : Array Value) (ds gs : List (DataW H)) (before : List MemPlace), W.ShapedOpen C.prog →
      (∀ (j : Nat) t v, fn.params[j]? = some t → args[j]? = some v → Value.okWide C.prog W .any base t v) →
      DataW.Whole enc C.prog fn.params.toList s.vars apart W args.toList ds gs before →
      (DataW.weightsEach C.prog (fn.params.toList ++ s.plain.varTypes C.prog) (ds ++ gs)).all (· ≤ reachBytes) = true → X W args →
      Calls C.prog f args W fun e W' => ∃ v, e = .returned v ∧ s.post enc C.prog fn apart fresh handsOn again W args v W') :
    ReturnsInHanded a C os f .any (fun w args => (s.pre enc C.prog fn conds apart w args ∧ X w args) ∧ sizedMet enc C.prog fn (OpenSpec.ofChange s) apart w args) (s.post enc C.prog fn apart fresh handsOn again) :=
  returnsInHanded_of_calls own started noInit witness fun w tape i _ hsh _ ⟨_, _, _, _, hf', _, _, _, _, hval⟩ ⟨⟨⟨ds, gs, before, hw, _⟩, hx⟩, hz⟩ _ => by
    cases Option.some.inj (hf'.symm.trans hfn)
    exact (walk (w.forCall tape i) w.heap.size i.args ds gs before hsh hval (DataW.Whole.of_heap (w := (w.forCall tape i).memory) (w' := w.forCall tape i) rfl hw) (hz.weights hw) (hX (w.forCall tape i).memory _ _ rfl hx)).mono
      fun e W' ⟨v, he, hp⟩ => by cases he; exact ChangeSpec.post_blind hp
end

theorem laidMet_layOn {P : Program} {w0 : World} {laid : List (String × DataW Unit)} (args : Array Value) (hf : w0.layFits P laid [] = true) (hi : w0.layIfaces P laid (w0.layVars P laid) = true) :
    laidMet P laid ((w0.layVars P laid).forCall (fun _ _ => 0) ⟨#[], args, []⟩).memory := by
  have e1 : (laid.filter fun x => (laid.map (·.1)).contains x.1) = laid := List.filter_eq_self.2 fun x hx => List.contains_iff_mem.2 (List.mem_map.2 ⟨x, hx, rfl⟩)
  have e2 : (laid.filter fun x => !(laid.map (·.1)).contains x.1) = [] := List.filter_eq_nil_iff.2 fun x hx => by rw [List.contains_iff_mem.2 (List.mem_map.2 ⟨x, hx, rfl⟩)]; simp
  have h : laidMet P laid (w0.layVars P laid) := laidMet_layVars (w0 := w0) (laid.map (·.1)) [] (by rw [e1]) (by rw [e1]; exact hf) (by rw [e1]; exact hi) (by rw [e2]; exact LaidIn.none)
  exact h.of_heap (by simp [World.memory, World.forCall, Input.heap])

end Go.Proofs.YtoblpjknnchlmaaDoor

/- What the row lays of the library's own variable is what errors.As asks for. -/
namespace Go.Proofs.YtoblpjknnchlmaaDoor
open Go.RowKit

theorem etAt : Tryd.prog.globalNamed "errors.errorType" = some 1 := by kernel_rfl
theorem rtAt : (Tryd.prog.cutTypes.find? (·.1 == "internal/reflectlite.rtype")).map (·.2) = some 103 := by kernel_rfl
theorem oneError : ((List.range Tryd.prog.types.size).filter fun t => Tryd.prog.rowNamed t [101, 114, 114, 111, 114]) = [30] := by kernel_rfl
theorem errT_of_handles {W : World} (h : handlesMet Tryd.prog [("errors.errorType", Rows.laid_errors_errorType)] W) : ErrT W := by
  obtain ⟨name, u, ty, e1, e2, e3, e4, e5⟩ := h _ (List.mem_singleton.2 rfl)
  have en : name = [101, 114, 114, 111, 114] := (Option.some.inj e1).symm
  subst en
  obtain rfl := Option.some.inj (rtAt.symm.trans e2)
  have hm : ty ∈ (List.range Tryd.prog.types.size).filter fun t => Tryd.prog.rowNamed t [101, 114, 114, 111, 114] := List.mem_filter.2 ⟨List.mem_range.2 e3, e4⟩
  rw [oneError] at hm
  obtain rfl := List.mem_singleton.1 hm
  have hh : typeHandle Tryd.prog 30 = .pointer (some ⟨4, 30, none⟩) := by kernel_rfl
  rw [hh] at e5
  have hc : W.cell? ⟨1, 0, none⟩ = some (.iface 103 (.agg #[.pointer (some ⟨4, 30, none⟩)])) := by
    simpa using World.var?_cell etAt e5 0
  refine ⟨hc, ?_⟩
  rcases Nat.lt_or_ge 1 W.heap.size with h | h
  · exact h
  · simp [World.cell?, Array.getElem?_eq_none h] at hc
end Go.Proofs.YtoblpjknnchlmaaDoor
