/- The origin that a text is, by the program. -/
import Derived.Test.YtpbipanafihabaaDoorOrg
namespace Go.Proofs.YtpbipanafihabaaDoor
open Go.RowKit

/-- The origin that a text is. -/
def originP (l : List UInt8) : Option (Bool × List UInt8 × Int) := match schemeL l with
  | none => none
  | some (sec, r) => match originL sec r with
    | none => none
    | some (h, n) => some (sec, h, n)
theorem originP_none {l : List UInt8} (h : schemeL l = none) : originP l = none := by unfold originP; rw [h]
theorem originP_no {l r : List UInt8} {sec : Bool} (h : schemeL l = some (sec, r)) (h2 : originL sec r = none) : originP l = none := by unfold originP; rw [h]; dsimp only; rw [h2]
theorem originP_yes {l r h : List UInt8} {sec : Bool} {n : Int} (h1 : schemeL l = some (sec, r)) (h2 : originL sec r = some (h, n)) : originP l = some (sec, h, n) := by unfold originP; rw [h1]; dsimp only; rw [h2]
theorem keepA {X : World} {b j : Nat} {v : Value} (o : Obj) (h : X.cell? ⟨b, j, none⟩ = some v) : (X.alloc o).cell? ⟨b, j, none⟩ = some v := (World.cell?_alloc_lt (w := X) (o := o) (a := ⟨b, j, none⟩) (h := lt_of_cell h)).trans h
structure ZKeep (w W : World) (v0 v1 v2 : Value) : Prop where
  bel : Below w.heap.size w W
  siz : w.heap.size < W.heap.size
  c0 : W.cell? ⟨w.heap.size, 0, none⟩ = some v0
  c1 : W.cell? ⟨w.heap.size, 1, none⟩ = some v1
  c2 : W.cell? ⟨w.heap.size, 2, none⟩ = some v2
  f0 : ∀ j, W.frozen? ⟨w.heap.size, j, none⟩ = false
theorem ZKeep.step {w W W' : World} {v0 v1 v2 : Value} (h : ZKeep w W v0 v1 v2) (hb : Below W.heap.size W W') : ZKeep w W' v0 v1 v2 :=
  ⟨h.bel.trans (hb.mono h.bel.size), Nat.lt_of_lt_of_le h.siz hb.size, (freshC w.heap.size hb 0 h.siz).trans h.c0, (freshC w.heap.size hb 1 h.siz).trans h.c1, (freshC w.heap.size hb 2 h.siz).trans h.c2, fun j => (freshF w.heap.size hb j h.siz).trans (h.f0 j)⟩
theorem zkeep_new (w : World) (v0 v1 v2 : Value) (t : TypeId) : ZKeep w (w.alloc (.cells #[v0, v1, v2] t)) v0 v1 v2 :=
  ⟨(Below.refl _ _).alloc (Nat.le_refl _) _, by simp, cells_new _ _ _ 0, cells_new _ _ _ 1, cells_new _ _ _ 2, fun j => by simp⟩

set_option maxRecDepth 100000 in
set_option maxHeartbeats 1000000 in
theorem origin_any (s : ByteArray) (hs : s.size ≤ 900) (w : World) (h : Schemes w) :
    Calls Tryd.prog 7 #[.string s] w fun e w' => Below w.heap.size w w' ∧
      ((∃ (sec : Bool) (x : ByteArray) (n : Int), e = .returned (.tuple #[.agg #[.bool sec, .string x, .int .i64 n], .nilIface]) ∧ x.size ≤ 60 ∧ originP s.data.toList = some (sec, x.data.toList, n)) ∨
       (e = .returned (.tuple #[.agg #[.bool false, .string ⟨#[]⟩, .int .i64 0], .iface 24 (.int .i64 3)]) ∧ originP s.data.toList = none)) := by
  have hZ := zkeep_new w (.bool false) (.string ⟨#[]⟩) (.int .i64 0) 23
  have hS : Schemes (w.alloc (.cells #[.bool false, .string ⟨#[]⟩, .int .i64 0] 23)) := h.below hZ.bel (Nat.le_refl _)
  go_enter Tryd.func7, Tryd.ntmps7
  go_wp2_with fail
  refine (scheme_any s (by omega) _ hS).mono ?_
  rintro e w1 ⟨hb1, ⟨sec, r, rfl, hrz, hsc⟩ | ⟨rfl, hsc⟩⟩
  · have HZ : Hid (ZKeep w w1 (.bool false) (.string ⟨#[]⟩) (.int .i64 0)) := hZ.step hb1
    have HSC : Hid (schemeL s.data.toList = some (sec, r.data.toList)) := hsc
    obtain ⟨mk, HM⟩ : ∃ mk : ByteArray, Hid (markOf sec = mk) := ⟨_, rfl⟩
    obtain ⟨pt, HP⟩ : ∃ pt : Int, Hid (portI sec = pt) := ⟨_, rfl⟩
    rw [HM.out, HP.out]
    clear hZ hS hb1 hsc
    go_wp2_with fail
    refine (originOf_any sec mk r (by omega) _ pt HP).mono ?_
    rintro e w2 ⟨hb2, ⟨x, n, rfl, hxz, hor⟩ | ⟨rfl, hor⟩⟩
    · have hZ2 := (HZ.out.step ((Below.refl _ _).alloc (Nat.le_refl _) _)).step hb2
      have HO : Hid (originP s.data.toList = some (sec, x.data.toList, n)) := originP_yes HSC.out hor
      have c0 := hZ2.c0
      have c1 := hZ2.c1
      have c2 := hZ2.c2
      have cf := hZ2.f0
      have hbel := hZ2.bel
      clear hor hb2 hZ2
      go_wp2
      obtain ⟨y0, y1, y2⟩ := set3 (.bool sec) (.string x) (.int .i64 n) c0 c1 c2
      (try simp only [Exit.inBlock, Exit.then])
      refine bodyPost_ret (v := .tuple #[.agg #[.bool sec, .string x, .int .i64 n], .nilIface]) ?_ rfl ⟨set3_below hbel (Nat.le_refl _) _ _ _, .inl ⟨sec, x, n, rfl, hxz, HO⟩⟩
      simp [results, Tryd.f7, go_sem, y0, y1, y2]
    · have hZ2 := (HZ.out.step ((Below.refl _ _).alloc (Nat.le_refl _) _)).step hb2
      have HO : Hid (originP s.data.toList = none) := originP_no HSC.out hor
      have c0 := hZ2.c0
      have c1 := hZ2.c1
      have c2 := hZ2.c2
      have cf := hZ2.f0
      have hbel := hZ2.bel
      clear hor hb2 hZ2
      go_wp2
      obtain ⟨y0, y1, y2⟩ := set3 (.bool false) (.string ⟨#[]⟩) (.int .i64 0) c0 c1 c2
      (try simp only [Exit.inBlock, Exit.then])
      refine bodyPost_ret (v := .tuple #[.agg #[.bool false, .string ⟨#[]⟩, .int .i64 0], .iface 24 (.int .i64 3)]) ?_ rfl ⟨set3_below hbel (Nat.le_refl _) _ _ _, .inr ⟨rfl, HO⟩⟩
      simp [results, Tryd.f7, go_sem, y0, y1, y2]
  · have hZ1 := hZ.step hb1
    have HO : Hid (originP s.data.toList = none) := originP_none hsc
    have c0 := hZ1.c0
    have c1 := hZ1.c1
    have c2 := hZ1.c2
    have cf := hZ1.f0
    have hlt := hZ1.siz
    have hbel := hZ1.bel
    clear hZ hS hb1 hsc hZ1
    go_wp2
    obtain ⟨y0, y1, y2⟩ := set3 (.bool false) (.string ⟨#[]⟩) (.int .i64 0) c0 c1 c2
    have hb3 := set3_below hbel (Nat.le_refl _) (.bool false) (.string ⟨#[]⟩) (.int .i64 0)
    (try simp only [Exit.inBlock, Exit.then])
    refine bodyPost_ret (v := .tuple #[.agg #[.bool false, .string ⟨#[]⟩, .int .i64 0], .iface 24 (.int .i64 3)]) ?_ rfl ⟨hb3.alloc hb3.size _, .inr ⟨rfl, HO⟩⟩
    have z0 := keepA (.cells #[.string ⟨#[]⟩, .bool false, .int .i64 0] 48) y0
    have z1 := keepA (.cells #[.string ⟨#[]⟩, .bool false, .int .i64 0] 48) y1
    have z2 := keepA (.cells #[.string ⟨#[]⟩, .bool false, .int .i64 0] 48) y2
    simp [results, Tryd.f7, go_sem, z0, z1, z2]
end Go.Proofs.YtpbipanafihabaaDoor
