/- An origin as text, by the document. -/
import Derived.Test.YtclagicimiimfaaFmtTxt
import Derived.Test.YtclagicimiimfaaFmtFmtP
import Derived.Test.YtclagicimiimfaaFmtRefPort
namespace Go.Proofs.YtclagicimiimfaaFmt
open Go.RowKit
open Go.Extern.Stop Go.Stop Go.Extern
attribute [local go_sem] callSprint fguard op3v op9v

theorem mark_false (h : ByteArray) : (⟨#[104, 116, 116, 112]⟩ : ByteArray) ++ ((⟨#[58, 47, 47]⟩ : ByteArray) ++ h) = markOf false ++ h := by
  rw [← ByteArray.append_assoc]
  rfl
theorem mark_true (h : ByteArray) : (⟨#[104, 116, 116, 112]⟩ : ByteArray) ++ (⟨#[115]⟩ : ByteArray) ++ ((⟨#[58, 47, 47]⟩ : ByteArray) ++ h) = markOf true ++ h := by
  rw [← ByteArray.append_assoc]
  rfl
theorem keepR {w W W' : World} {a : Nat} {x y z : Value} (h : W.cell? ⟨a, 0, none⟩ = some x ∧ W.cell? ⟨a, 1, none⟩ = some y ∧ W.cell? ⟨a, 2, none⟩ = some z ∧ Below w.heap.size w W) (hb : Below W.heap.size W W') :
    W'.cell? ⟨a, 0, none⟩ = some x ∧ W'.cell? ⟨a, 1, none⟩ = some y ∧ W'.cell? ⟨a, 2, none⟩ = some z ∧ Below w.heap.size w W' := by
  obtain ⟨h1, h2, h3, h4⟩ := h
  exact ⟨(hb.cell (p := ⟨a, 0, none⟩) (lt_of_cell h1)).trans h1, (hb.cell (p := ⟨a, 1, none⟩) (lt_of_cell h2)).trans h2, (hb.cell (p := ⟨a, 2, none⟩) (lt_of_cell h3)).trans h3, h4.trans (hb.mono h4.size)⟩

set_option maxRecDepth 100000 in
set_option maxHeartbeats 1000000 in
theorem refText (F : Interp) (sec : Bool) (host : ByteArray) (port : Int) (hs : host.size ≤ 4000) (hw : (Lit.int .i64 port).wf = true) (w : World) (hF : F.told.answers w.tape) :
    Calls Tryf.prog 6 #[.agg #[.bool sec, .string host, .int .i64 port]] w fun e w' => e = .returned (.string (bs (textL sec host.data.toList port))) ∧ Below w.heap.size w w' := by
  have hQ : (w.alloc (.cells #[.bool sec, .string host, .int .i64 port] 23)).drew.cell? ⟨w.heap.size, 0, none⟩ = some (.bool sec) ∧ (w.alloc (.cells #[.bool sec, .string host, .int .i64 port] 23)).drew.cell? ⟨w.heap.size, 1, none⟩ = some (.string host) ∧ (w.alloc (.cells #[.bool sec, .string host, .int .i64 port] 23)).drew.cell? ⟨w.heap.size, 2, none⟩ = some (.int .i64 port) ∧ Below w.heap.size w (w.alloc (.cells #[.bool sec, .string host, .int .i64 port] 23)).drew :=
    ⟨cells_new _ _ _ 0, cells_new _ _ _ 1, cells_new _ _ _ 2, ((Below.refl _ _).alloc (Nat.le_refl _) _).drew⟩
  have HM : Hid (∀ s, bs (textL s host.data.toList port) = markOf s ++ host ++ bs (tailT s port)) := by
    intro s
    unfold textL
    rw [bs_append, bs_append, bs_self, bs_self]
  obtain ⟨pt, HP⟩ : ∃ pt : Int, Hid (portI sec = pt) := ⟨_, rfl⟩
  obtain ⟨ex, hex⟩ : ∃ ex : ByteArray, bs (58 :: Lib.itoa port) = ex := ⟨_, rfl⟩
  have HX : Hid (bs (58 :: Lib.itoa port) = ex) := hex
  have hexz : ex.size ≤ 30 := by
    rw [← hex, bs_size]
    have := FmtText.itoa_length_le hw
    simp
    omega
  have HT : Hid (FmtStop.textOf (F.told "fmt.Sprint" [shape9, FmtStop.pack [58], shape3, Go.Extern.Stop.digits 8 (port % 18446744073709551616).toNat] 0) = ex) := by
    show _ = _
    rw [toldP F port hw, hex]
  clear hex
  by_cases hp : port = pt
  · subst hp
    have hpq : (port == port) = true := by simp
    have hpr : (port != port) = false := by simp
    cases sec
    · have HE : Hid (tailT false port = []) := by show _ = _; unfold tailT; rw [HP.out, if_pos rfl]
      go_enter Tryf.func6, Tryf.ntmps6
      go_wp2_with fail
      go_region_held3 (fun W => W.cell? ⟨w.heap.size, 0, none⟩ = some (.bool false) ∧ W.cell? ⟨w.heap.size, 1, none⟩ = some (.string host) ∧ W.cell? ⟨w.heap.size, 2, none⟩ = some (.int .i64 port) ∧ Below w.heap.size w W) (first | assumption | exact hQ) (
        (go_at_call 13; refine (refPort false _).mono ?_; rintro e w3 ⟨rfl, hb3⟩; rw [HP.out]; have hQ3 := keepR (by assumption) hb3))
      obtain ⟨q0, q1, q2, q3⟩ := hQ3
      go_wp2
      go_ret
      exact ⟨ret_str (by rw [HM.out false, HE.out, ← mark_false]; exact (ByteArray.append_empty (b := _)).symm), q3⟩
    · have HE : Hid (tailT true port = []) := by show _ = _; unfold tailT; rw [HP.out, if_pos rfl]
      go_enter Tryf.func6, Tryf.ntmps6
      go_wp2_with fail
      go_region_held3 (fun W => W.cell? ⟨w.heap.size, 0, none⟩ = some (.bool true) ∧ W.cell? ⟨w.heap.size, 1, none⟩ = some (.string host) ∧ W.cell? ⟨w.heap.size, 2, none⟩ = some (.int .i64 port) ∧ Below w.heap.size w W) (first | assumption | exact hQ) (
        (go_at_call 13; refine (refPort true _).mono ?_; rintro e w3 ⟨rfl, hb3⟩; rw [HP.out]; have hQ3 := keepR (by assumption) hb3))
      obtain ⟨q0, q1, q2, q3⟩ := hQ3
      go_wp2
      go_ret
      exact ⟨ret_str (by rw [HM.out true, HE.out, ← mark_true]; exact (ByteArray.append_empty (b := _)).symm), q3⟩
  · have hpq : (port == pt) = false := beq_eq_false_iff_ne.2 hp
    have hpr : (port != pt) = true := by rw [bne, hpq]; rfl
    cases sec
    · have HE : Hid (tailT false port = 58 :: Lib.itoa port) := by show _ = _; unfold tailT; rw [HP.out, if_neg hp]
      go_enter Tryf.func6, Tryf.ntmps6
      go_wp2_with fail
      go_region_held3 (fun W => W.cell? ⟨w.heap.size, 0, none⟩ = some (.bool false) ∧ W.cell? ⟨w.heap.size, 1, none⟩ = some (.string host) ∧ W.cell? ⟨w.heap.size, 2, none⟩ = some (.int .i64 port) ∧ Below w.heap.size w W) (first | assumption | exact hQ) (
        (go_at_call 13; refine (refPort false _).mono ?_; rintro e w3 ⟨rfl, hb3⟩; rw [HP.out]; have hQ3 := keepR (by assumption) hb3))
      obtain ⟨q0, q1, q2, q3⟩ := hQ3
      have ht := congrArg FmtStop.textOf (answers_open (show F.told.answers w3.tape by rw [q3.tape]; exact hF) w3.drawn "fmt.Sprint" [shape9, FmtStop.pack [58], shape3, Go.Extern.Stop.digits 8 (port % 18446744073709551616).toNat] 0 0)
      rw [HT.out] at ht
      go_wp2
      go_ret
      exact ⟨ret_str (by rw [HM.out false, HE.out, HX.out, ← mark_false]), (q3.alloc q3.size _).drew⟩
    · have HE : Hid (tailT true port = 58 :: Lib.itoa port) := by show _ = _; unfold tailT; rw [HP.out, if_neg hp]
      go_enter Tryf.func6, Tryf.ntmps6
      go_wp2_with fail
      go_region_held3 (fun W => W.cell? ⟨w.heap.size, 0, none⟩ = some (.bool true) ∧ W.cell? ⟨w.heap.size, 1, none⟩ = some (.string host) ∧ W.cell? ⟨w.heap.size, 2, none⟩ = some (.int .i64 port) ∧ Below w.heap.size w W) (first | assumption | exact hQ) (
        (go_at_call 13; refine (refPort true _).mono ?_; rintro e w3 ⟨rfl, hb3⟩; rw [HP.out]; have hQ3 := keepR (by assumption) hb3))
      obtain ⟨q0, q1, q2, q3⟩ := hQ3
      have ht := congrArg FmtStop.textOf (answers_open (show F.told.answers w3.tape by rw [q3.tape]; exact hF) w3.drawn "fmt.Sprint" [shape9, FmtStop.pack [58], shape3, Go.Extern.Stop.digits 8 (port % 18446744073709551616).toNat] 0 0)
      rw [HT.out] at ht
      go_wp2
      go_ret
      exact ⟨ret_str (by rw [HM.out true, HE.out, HX.out, ← mark_true]), (q3.alloc q3.size _).drew⟩
end Go.Proofs.YtclagicimiimfaaFmt
