/- The origin of a scheme and of a host with perhaps a port behind it, by the program. -/
import Derived.Test.YtpbipanafihabaaDoorScm
import Derived.Test.YtpbipanafihabaaDoorCutP
import Derived.Test.YtpbipanafihabaaDoorHst
import Derived.Deep.Cut
import Derived.Deep.CutRange
namespace Go.Proofs.YtpbipanafihabaaDoor
open Go.RowKit

/-- A host and a port, of what stands behind a scheme's mark. -/
def originL (sec : Bool) (l : List UInt8) : Option (List UInt8 × Int) :=
  if rightL ((cutL 58 l).1.map low) (if (cutL 58 l).2.2 then (numL (cutL 58 l).2.1 : Int) else portI sec) then some ((cutL 58 l).1.map low, if (cutL 58 l).2.2 then (numL (cutL 58 l).2.1 : Int) else portI sec) else none

theorem originL_of {sec : Bool} {l a b y : List UInt8} {f : Bool} {P : Int} {R : Bool} (hc : cutL 58 l = (a, b, f)) (hy : y = a.map low) (hp : (if f = true then (numL b : Int) else portI sec) = P) (hr : rightL y P = R) : originL sec l = if R then some (y, P) else none := by
  unfold originL
  subst hy
  rw [hc]
  dsimp only
  rw [hp, hr]
structure OKeep (w W : World) (sec : Bool) (pt : Int) : Prop where
  bel : Below w.heap.size w W
  siz : w.heap.size + 1 < W.heap.size
  s1 : W.cell? ⟨w.heap.size, 1, none⟩ = some (.bool sec)
  s2 : W.cell? ⟨w.heap.size, 2, none⟩ = some (.int .i64 pt)
  c0 : W.cell? ⟨w.heap.size + 1, 0, none⟩ = some (.bool false)
  c1 : W.cell? ⟨w.heap.size + 1, 1, none⟩ = some (.string ⟨#[]⟩)
  c2 : W.cell? ⟨w.heap.size + 1, 2, none⟩ = some (.int .i64 0)
  f0 : ∀ j, W.frozen? ⟨w.heap.size + 1, j, none⟩ = false
theorem OKeep.step {w W W' : World} {sec : Bool} {pt : Int} (h : OKeep w W sec pt) (hb : Below W.heap.size W W') : OKeep w W' sec pt :=
  have h0 : w.heap.size < W.heap.size := by have := h.siz; omega
  ⟨h.bel.trans (hb.mono h.bel.size), Nat.lt_of_lt_of_le h.siz hb.size, (hb.cell (p := ⟨w.heap.size, 1, none⟩) h0).trans h.s1, (hb.cell (p := ⟨w.heap.size, 2, none⟩) h0).trans h.s2, (hb.cell (p := ⟨w.heap.size + 1, 0, none⟩) h.siz).trans h.c0, (hb.cell (p := ⟨w.heap.size + 1, 1, none⟩) h.siz).trans h.c1, (hb.cell (p := ⟨w.heap.size + 1, 2, none⟩) h.siz).trans h.c2, fun j => (World.frozen?_of_block (hb.block (w.heap.size + 1) h.siz)).trans (h.f0 j)⟩

theorem OKeep.set {w W : World} {sec : Bool} {pt : Int} {B : Nat} (h : OKeep w W sec pt) (hB : w.heap.size + 1 < B) (j : Nat) (v : Value) : OKeep w (W.setCell ⟨B, j, none⟩ v) sec pt := by
  have ne : ∀ a i, a < B → (⟨B, j, none⟩ : Addr) ≠ ⟨a, i, none⟩ := fun a i ha e => by injection e with e _; omega
  refine ⟨h.bel.setCell (p := ⟨B, j, none⟩) (by show w.heap.size ≤ B; omega) _, by simp [World.setCell]; exact h.siz, ?_, ?_, ?_, ?_, ?_, fun i => by rw [World.frozen?_setCell]; exact h.f0 i⟩
  · rw [World.cell?_setCell_other _ _ _ _ (ne _ _ (by omega))]; exact h.s1
  · rw [World.cell?_setCell_other _ _ _ _ (ne _ _ (by omega))]; exact h.s2
  · rw [World.cell?_setCell_other _ _ _ _ (ne _ _ (by omega))]; exact h.c0
  · rw [World.cell?_setCell_other _ _ _ _ (ne _ _ (by omega))]; exact h.c1
  · rw [World.cell?_setCell_other _ _ _ _ (ne _ _ (by omega))]; exact h.c2
theorem keepO3 {w W : World} {sec : Bool} {pt : Int} {B : Nat} {a c d : Value} (h : OKeep w W sec pt) (hB : w.heap.size + 1 < B) : (((W.setCell ⟨B, 0, none⟩ a).setCell ⟨B, 1, none⟩ c).setCell ⟨B, 2, none⟩ d).cell? ⟨w.heap.size, 1, none⟩ = some (.bool sec) ∧ (((W.setCell ⟨B, 0, none⟩ a).setCell ⟨B, 1, none⟩ c).setCell ⟨B, 2, none⟩ d).cell? ⟨w.heap.size, 2, none⟩ = some (.int .i64 pt) ∧ OKeep w (((W.setCell ⟨B, 0, none⟩ a).setCell ⟨B, 1, none⟩ c).setCell ⟨B, 2, none⟩ d) sec pt := by
  have hk := ((h.set hB 0 a).set hB 1 c).set hB 2 d
  exact ⟨hk.s1, hk.s2, hk⟩
theorem keepO4 {w W : World} {sec : Bool} {pt : Int} {o : Obj} (h : OKeep w W sec pt) : (W.alloc o).cell? ⟨w.heap.size, 1, none⟩ = some (.bool sec) ∧ (W.alloc o).cell? ⟨w.heap.size, 2, none⟩ = some (.int .i64 pt) ∧ OKeep w (W.alloc o) sec pt := by
  have hk := h.step ((Below.refl _ _).alloc (Nat.le_refl _) o)
  exact ⟨hk.s1, hk.s2, hk⟩
theorem freshC (b : Nat) {X w2 : World} (hb : Below X.heap.size X w2) : ∀ j, b < X.heap.size → w2.cell? ⟨b, j, none⟩ = X.cell? ⟨b, j, none⟩ := fun j hl => hb.cell (p := ⟨b, j, none⟩) hl
theorem freshF (b : Nat) {X w2 : World} (hb : Below X.heap.size X w2) : ∀ j, b < X.heap.size → w2.frozen? ⟨b, j, none⟩ = X.frozen? ⟨b, j, none⟩ := fun _ hl => World.frozen?_of_block (hb.block b hl)
theorem keepO {w W W' : World} {sec : Bool} {pt : Int} {a : Nat} {u v : Value} (h : W.cell? ⟨a, 1, none⟩ = some u ∧ W.cell? ⟨a, 2, none⟩ = some v ∧ OKeep w W sec pt) (hb : Below W.heap.size W W') : W'.cell? ⟨a, 1, none⟩ = some u ∧ W'.cell? ⟨a, 2, none⟩ = some v ∧ OKeep w W' sec pt :=
  ⟨(hb.cell (p := ⟨a, 1, none⟩) (lt_of_cell h.1)).trans h.1, (hb.cell (p := ⟨a, 2, none⟩) (lt_of_cell h.2.1)).trans h.2.1, h.2.2.step hb⟩
set_option maxRecDepth 100000 in
set_option maxHeartbeats 1000000 in
theorem originOf_any (sec : Bool) (mk s : ByteArray) (hs : s.size ≤ 900) (w : World) (pt : Int) (HP : Hid (portI sec = pt)) :
    Calls Tryd.prog 21 #[.agg #[.string mk, .bool sec, .int .i64 pt], .string s] w fun e w' => Below w.heap.size w w' ∧
      ((∃ (h : ByteArray) (n : Int), e = .returned (.tuple #[.agg #[.bool sec, .string h, .int .i64 n], .nilIface]) ∧ h.size ≤ 60 ∧ originL sec s.data.toList = some (h.data.toList, n)) ∨
       (e = .returned (.tuple #[.agg #[.bool false, .string ⟨#[]⟩, .int .i64 0], .iface 24 (.int .i64 3)]) ∧ originL sec s.data.toList = none)) := by
  have hK0 : OKeep w ((w.alloc (.cells #[.string mk, .bool sec, .int .i64 pt] 48)).alloc (.cells #[.bool false, .string ⟨#[]⟩, .int .i64 0] 23)) sec pt := by
    refine ⟨((Below.refl _ _).alloc (Nat.le_refl _) _).alloc (by simp) _, by simp, by simp, by simp, by simp, by simp, by simp, fun j => by simp⟩
  go_enter Tryd.func21, Tryd.ntmps21
  go_wp2_with (go_at_call 26; refine (cut_any s 58 (by omega) _).mono ?_; rintro e w1 ⟨a, b, f, rfl, haz, hbz, HC, hb1⟩; have HK1 : Hid (OKeep w w1 sec pt) := hK0.step hb1; clear hK0 hb1)
  obtain ⟨y, HY⟩ : ∃ y : ByteArray, Hid (bs (a.data.toList.map low) = y) := ⟨_, rfl⟩
  have hQ : w1.drew.cell? ⟨w.heap.size, 1, none⟩ = some (.bool sec) ∧ w1.drew.cell? ⟨w.heap.size, 2, none⟩ = some (.int .i64 pt) ∧ OKeep w w1.drew sec pt := ⟨HK1.out.s1, HK1.out.s2, HK1.out.step (Below.refl _ _).drew⟩
  go_cut [9] from 16 (fun v wc => ∃ B : Nat, v = .pointer (some ⟨B, 0, none⟩) ∧ w.heap.size + 1 < B ∧ B < wc.heap.size ∧ wc.cell? ⟨B, 0, none⟩ = some (.bool sec) ∧ wc.cell? ⟨B, 1, none⟩ = some (.string y) ∧ wc.cell? ⟨B, 2, none⟩ = some (.int .i64 pt) ∧ (∀ j, wc.frozen? ⟨B, j, none⟩ = false) ∧ Hid (OKeep w wc sec pt))
  case first =>
    go_region_held3 (fun W => W.cell? ⟨w.heap.size, 1, none⟩ = some (.bool sec) ∧ W.cell? ⟨w.heap.size, 2, none⟩ = some (.int .i64 pt) ∧ OKeep w W sec pt) (first | assumption | exact hQ | exact keepO (by assumption) ((Below.refl _ _).alloc (Nat.le_refl _) _) | exact keepO3 (And.right (And.right (by assumption))) HK1.out.siz | exact keepO4 (And.right (And.right (by assumption)))) (
      (go_at_call 44; refine (lower_any a _ (by omega)).mono ?_; rintro e w2 ⟨rfl, hb2⟩; rw [HY.out]; have hQ2 := keepO (by assumption) hb2; have t0 := freshC w1.heap.size hb2; have t1 := freshF w1.heap.size hb2))
    · go_wp2_with fail
      go_meet
      case rel =>
        exact ⟨w2.heap.size, rfl, hQ2.2.2.siz, by simp, cells_new _ _ _ 0, cells_new _ _ _ 1, cells_new _ _ _ 2, fun j => by simp, hQ2.2.2.step ((Below.refl _ _).alloc (Nat.le_refl _) _)⟩
    · go_wp2_with fail
      go_meet
      case rel =>
        have hlt : w1.heap.size < (w1.alloc (.cells #[.bool false, .string ⟨#[]⟩, .int .i64 0] 23)).drew.heap.size := by simp
        obtain ⟨y0, y1, y2⟩ := set3 (.bool sec) (.string y) (.int .i64 pt) ((t0 0 hlt).trans (cells_new _ _ _ 0)) ((t0 1 hlt).trans (cells_new _ _ _ 1)) ((t0 2 hlt).trans (cells_new _ _ _ 2))
        exact ⟨w1.heap.size, rfl, HK1.out.siz, by simp [World.setCell]; have := hb2.size; simp at this; omega, y0, y1, y2, fun j => by simp only [World.frozen?_setCell]; rw [t1 j hlt]; simp, (keepO3 hQ2.2.2 HK1.out.siz).2.2⟩
  case rest =>
    obtain ⟨B, rfl, hB1, hB2, b0, b1, b2, bf, HK⟩ := hcut
    clear hQ HK1
    have HYL : Hid (y.data.toList = a.data.toList.map low) := by show _ = _; rw [← HY.out, bs_data]
    have hyz : y.size ≤ 900 := by
      have h1 := congrArg List.length HYL.out
      rw [List.length_map, data_len, data_len] at h1
      omega
    obtain ⟨nn, HNum⟩ : ∃ nn : Nat, Hid (numL b.data.toList = nn) := ⟨_, rfl⟩
    cases f
    · have HV : (if false = true then (numL b.data.toList : Int) else portI sec) = pt := by rw [if_neg (by simp), HP.out]
      have q0 := b0
      have q1 := b1
      have q2 := b2
      have HQ : Hid (OKeep w wc sec pt) := HK
      obtain ⟨R, HR⟩ : ∃ R : Bool, Hid (rightL y.data.toList pt = R) := ⟨_, rfl⟩
      cases R
      · have HO : Hid (originL sec s.data.toList = none) := by
          show _ = _
          rw [originL_of HC.out HYL.out HV HR.out]
          rfl
        go_wp2_with (first
          | (go_at_call 45; refine (number_any b (by omega) _).mono ?_; rintro e w' ⟨rfl, rfl⟩; rw [HNum.out])
          | (go_at_call 46; refine (right_any sec y pt (by omega) _).mono ?_; rintro e w5 ⟨rfl, hb5⟩; rw [HR.out]; have hK5 := (HQ.out).step hb5; have c0 := hK5.c0; have c1 := hK5.c1; have c2 := hK5.c2; have cf := hK5.f0))
        obtain ⟨y0, y1, y2⟩ := set3 (.bool false) (.string ⟨#[]⟩) (.int .i64 0) c0 c1 c2
        (try simp only [Exit.inBlock, Exit.then])
        refine bodyPost_ret (v := .tuple #[.agg #[.bool false, .string ⟨#[]⟩, .int .i64 0], .iface 24 (.int .i64 3)]) ?_ rfl ⟨set3_below hK5.bel (by omega) _ _ _, .inr ⟨rfl, HO⟩⟩
        simp [results, Tryd.f21, go_sem, y0, y1, y2]
      · have HO : Hid (originL sec s.data.toList = some (y.data.toList, pt) ∧ y.size ≤ 60) := by
          refine ⟨?_, ?_⟩
          · rw [originL_of HC.out HYL.out HV HR.out]
            rfl
          · have h1 := HR.out
            unfold rightL at h1
            rw [Bool.and_eq_true, Bool.and_eq_true] at h1
            have h2 := of_decide_eq_true h1.1.1
            rw [data_len] at h2
            exact h2
        go_wp2_with (first
          | (go_at_call 45; refine (number_any b (by omega) _).mono ?_; rintro e w' ⟨rfl, rfl⟩; rw [HNum.out])
          | (go_at_call 46; refine (right_any sec y pt (by omega) _).mono ?_; rintro e w5 ⟨rfl, hb5⟩; rw [HR.out]; have hK5 := (HQ.out).step hb5; have c0 := hK5.c0; have c1 := hK5.c1; have c2 := hK5.c2; have cf := hK5.f0; have o0 := (freshC B hb5 0 hB2).trans q0; have o1 := (freshC B hb5 1 hB2).trans q1; have o2 := (freshC B hb5 2 hB2).trans q2))
        obtain ⟨y0, y1, y2⟩ := set3 (.bool sec) (.string y) (.int .i64 pt) c0 c1 c2
        (try simp only [Exit.inBlock, Exit.then])
        refine bodyPost_ret (v := .tuple #[.agg #[.bool sec, .string y, .int .i64 pt], .nilIface]) ?_ rfl ⟨set3_below hK5.bel (by omega) _ _ _, .inl ⟨y, pt, rfl, HO.out.2, HO.out.1⟩⟩
        simp [results, Tryd.f21, go_sem, y0, y1, y2]
    · have HV : (if true = true then (numL b.data.toList : Int) else portI sec) = (nn : Int) := by rw [if_pos rfl, HNum.out]
      have HQ : Hid (OKeep w (wc.setCell ⟨B, 2, none⟩ (.int .i64 (nn : Int))) sec pt) := HK.out.set hB1 2 _
      have hB3 : B < (wc.setCell ⟨B, 2, none⟩ (.int .i64 (nn : Int))).heap.size := by simp [World.setCell]; exact hB2
      have q0 : (wc.setCell ⟨B, 2, none⟩ (.int .i64 (nn : Int))).cell? ⟨B, 0, none⟩ = some (.bool sec) := by rw [World.cell?_setCell_other _ _ _ _ (by simp)]; exact b0
      have q1 : (wc.setCell ⟨B, 2, none⟩ (.int .i64 (nn : Int))).cell? ⟨B, 1, none⟩ = some (.string y) := by rw [World.cell?_setCell_other _ _ _ _ (by simp)]; exact b1
      have q2 : (wc.setCell ⟨B, 2, none⟩ (.int .i64 (nn : Int))).cell? ⟨B, 2, none⟩ = some (.int .i64 (nn : Int)) := World.cell?_setCell_same _ _ _ b2
      obtain ⟨R, HR⟩ : ∃ R : Bool, Hid (rightL y.data.toList (nn : Int) = R) := ⟨_, rfl⟩
      cases R
      · have HO : Hid (originL sec s.data.toList = none) := by
          show _ = _
          rw [originL_of HC.out HYL.out HV HR.out]
          rfl
        go_wp2_with (first
          | (go_at_call 45; refine (number_any b (by omega) _).mono ?_; rintro e w' ⟨rfl, rfl⟩; rw [HNum.out])
          | (go_at_call 46; refine (right_any sec y (nn : Int) (by omega) _).mono ?_; rintro e w5 ⟨rfl, hb5⟩; rw [HR.out]; have hK5 := (HQ.out).step hb5; have c0 := hK5.c0; have c1 := hK5.c1; have c2 := hK5.c2; have cf := hK5.f0))
        obtain ⟨y0, y1, y2⟩ := set3 (.bool false) (.string ⟨#[]⟩) (.int .i64 0) c0 c1 c2
        (try simp only [Exit.inBlock, Exit.then])
        refine bodyPost_ret (v := .tuple #[.agg #[.bool false, .string ⟨#[]⟩, .int .i64 0], .iface 24 (.int .i64 3)]) ?_ rfl ⟨set3_below hK5.bel (by omega) _ _ _, .inr ⟨rfl, HO⟩⟩
        simp [results, Tryd.f21, go_sem, y0, y1, y2]
      · have HO : Hid (originL sec s.data.toList = some (y.data.toList, (nn : Int)) ∧ y.size ≤ 60) := by
          refine ⟨?_, ?_⟩
          · rw [originL_of HC.out HYL.out HV HR.out]
            rfl
          · have h1 := HR.out
            unfold rightL at h1
            rw [Bool.and_eq_true, Bool.and_eq_true] at h1
            have h2 := of_decide_eq_true h1.1.1
            rw [data_len] at h2
            exact h2
        go_wp2_with (first
          | (go_at_call 45; refine (number_any b (by omega) _).mono ?_; rintro e w' ⟨rfl, rfl⟩; rw [HNum.out])
          | (go_at_call 46; refine (right_any sec y (nn : Int) (by omega) _).mono ?_; rintro e w5 ⟨rfl, hb5⟩; rw [HR.out]; have hK5 := (HQ.out).step hb5; have c0 := hK5.c0; have c1 := hK5.c1; have c2 := hK5.c2; have cf := hK5.f0; have o0 := (freshC B hb5 0 hB3).trans q0; have o1 := (freshC B hb5 1 hB3).trans q1; have o2 := (freshC B hb5 2 hB3).trans q2))
        obtain ⟨y0, y1, y2⟩ := set3 (.bool sec) (.string y) (.int .i64 (nn : Int)) c0 c1 c2
        (try simp only [Exit.inBlock, Exit.then])
        refine bodyPost_ret (v := .tuple #[.agg #[.bool sec, .string y, .int .i64 (nn : Int)], .nilIface]) ?_ rfl ⟨set3_below hK5.bel (by omega) _ _ _, .inl ⟨y, (nn : Int), rfl, HO.out.2, HO.out.1⟩⟩
        simp [results, Tryd.f21, go_sem, y0, y1, y2]
end Go.Proofs.YtpbipanafihabaaDoor
