/- The scheme with which a text begins, by the program. -/
import Derived.Test.YtpbipanafihabaaDoorSch
import Derived.Test.YtpbipanafihabaaDoorLw
import Derived.Test.YtpbipanafihabaaDoorSpl
namespace Go.Proofs.YtpbipanafihabaaDoor
open Go.RowKit

def httpL : List UInt8 := [104, 116, 116, 112, 58, 47, 47]
def httpsL : List UInt8 := [104, 116, 116, 112, 115, 58, 47, 47]
/-- The scheme with which a text begins, whichever letters, and what stands behind its mark. -/
def schemeL (l : List UInt8) : Option (Bool × List UInt8) :=
  if (l.take 7).map low = httpL then some (false, l.drop 7) else if (l.take 8).map low = httpsL then some (true, l.drop 8) else none
structure SKeep (w W : World) : Prop where
  sch : Schemes W
  bel : Below w.heap.size w W
  siz : w.heap.size < W.heap.size
  c0 : W.cell? ⟨w.heap.size, 0, none⟩ = some (.string ⟨#[]⟩)
  c1 : W.cell? ⟨w.heap.size, 1, none⟩ = some (.bool false)
  c2 : W.cell? ⟨w.heap.size, 2, none⟩ = some (.int .i64 0)
  f0 : ∀ j, W.frozen? ⟨w.heap.size, j, none⟩ = false
theorem SKeep.step {w W W' : World} (h : SKeep w W) (hb : Below W.heap.size W W') : SKeep w W' :=
  ⟨h.sch.below hb (Nat.le_refl _), h.bel.trans (hb.mono h.bel.size), Nat.lt_of_lt_of_le h.siz hb.size, (hb.cell (p := ⟨w.heap.size, 0, none⟩) h.siz).trans h.c0, (hb.cell (p := ⟨w.heap.size, 1, none⟩) h.siz).trans h.c1, (hb.cell (p := ⟨w.heap.size, 2, none⟩) h.siz).trans h.c2, fun j => (World.frozen?_of_block (hb.block w.heap.size h.siz)).trans (h.f0 j)⟩
theorem skeep_new (w : World) (h : Schemes w) : SKeep w (w.alloc (.cells #[.string ⟨#[]⟩, .bool false, .int .i64 0] 48)) := by
  have hb : Below w.heap.size w (w.alloc (.cells #[.string ⟨#[]⟩, .bool false, .int .i64 0] 48)) := (Below.refl _ _).alloc (Nat.le_refl _) _
  refine ⟨h.below hb (Nat.le_refl _), hb, by simp, cells_new _ _ _ 0, cells_new _ _ _ 1, cells_new _ _ _ 2, fun j => ?_⟩
  simp

theorem set3 {X : World} {b : Nat} {p q r : Value} (a c d : Value) (h0 : X.cell? ⟨b, 0, none⟩ = some p) (h1 : X.cell? ⟨b, 1, none⟩ = some q) (h2 : X.cell? ⟨b, 2, none⟩ = some r) :
    (((X.setCell ⟨b, 0, none⟩ a).setCell ⟨b, 1, none⟩ c).setCell ⟨b, 2, none⟩ d).cell? ⟨b, 0, none⟩ = some a ∧ (((X.setCell ⟨b, 0, none⟩ a).setCell ⟨b, 1, none⟩ c).setCell ⟨b, 2, none⟩ d).cell? ⟨b, 1, none⟩ = some c ∧ (((X.setCell ⟨b, 0, none⟩ a).setCell ⟨b, 1, none⟩ c).setCell ⟨b, 2, none⟩ d).cell? ⟨b, 2, none⟩ = some d := by
  have n01 : (⟨b, 0, none⟩ : Addr) ≠ ⟨b, 1, none⟩ := by simp
  have n02 : (⟨b, 0, none⟩ : Addr) ≠ ⟨b, 2, none⟩ := by simp
  have n12 : (⟨b, 1, none⟩ : Addr) ≠ ⟨b, 2, none⟩ := by simp
  refine ⟨?_, ?_, ?_⟩
  · rw [World.cell?_setCell_other _ _ _ _ n02.symm, World.cell?_setCell_other _ _ _ _ n01.symm, World.cell?_setCell_same _ _ _ h0]
  · rw [World.cell?_setCell_other _ _ _ _ n12.symm]
    exact World.cell?_setCell_same _ _ _ ((World.cell?_setCell_other _ _ _ _ n01).trans h1)
  · exact World.cell?_setCell_same _ _ _ ((World.cell?_setCell_other _ _ _ _ n12).trans ((World.cell?_setCell_other _ _ _ _ n02).trans h2))
theorem set3_below {N b : Nat} {w X : World} (h : Below N w X) (hb : N ≤ b) (a c d : Value) : Below N w (((X.setCell ⟨b, 0, none⟩ a).setCell ⟨b, 1, none⟩ c).setCell ⟨b, 2, none⟩ d) :=
  ((h.setCell (p := ⟨b, 0, none⟩) hb _).setCell (p := ⟨b, 1, none⟩) hb _).setCell (p := ⟨b, 2, none⟩) hb _
theorem keepS {w W W' : World} {a j : Nat} {v : Value} (h : W.cell? ⟨a, j, none⟩ = some v ∧ SKeep w W) (hb : Below W.heap.size W W') : W'.cell? ⟨a, j, none⟩ = some v ∧ SKeep w W' :=
  ⟨(hb.cell (p := ⟨a, j, none⟩) (lt_of_cell h.1)).trans h.1, h.2.step hb⟩
set_option maxRecDepth 100000 in
set_option maxHeartbeats 1000000 in
theorem scheme_any (s : ByteArray) (hs : s.size ≤ 5000) (w : World) (h : Schemes w) :
    Calls Tryd.prog 20 #[.string s] w fun e w' => Below w.heap.size w w' ∧
      ((∃ (sec : Bool) (r : ByteArray), e = .returned (.tuple #[.agg #[.string (markOf sec), .bool sec, .int .i64 (portI sec)], .string r, .bool true]) ∧ r.size ≤ s.size ∧ schemeL s.data.toList = some (sec, r.data.toList)) ∨
       (e = .returned (.tuple #[.agg #[.string ⟨#[]⟩, .bool false, .int .i64 0], .string ⟨#[]⟩, .bool false]) ∧ schemeL s.data.toList = none)) := by
  have hK0 := skeep_new w h
  go_enter Tryd.func20, Tryd.ntmps20
  go_wp2
  go_loopw [7] (fun i wr => ∃ (z : Int), i = .int .i64 z ∧ (z = 0 ∨ (z = 1 ∧ Hid ((s.data.toList.take 7).map low ≠ httpL)) ∨ (z = 2 ∧ Hid ((s.data.toList.take 7).map low ≠ httpL) ∧ Hid ((s.data.toList.take 8).map low ≠ httpsL))) ∧ Hid (SKeep w wr)) (fun i _ => (2 - intOf i).toNat)
  case atStart => exact ⟨0, rfl, .inl rfl, hK0⟩
  case round =>
    obtain ⟨z, rfl, hz, HK⟩ := hrel
    clear hK0
    have d0 := HK.out.sch.c0
    have d3 := HK.out.sch.c3
    rcases hz with rfl | ⟨rfl, H1⟩ | ⟨rfl, H1, H2⟩
    · by_cases h7 : 7 ≤ s.size
      · have hxz : (s.extract 0 7).size ≤ 1000 := by simp; omega
        obtain ⟨y, HY⟩ : ∃ y : ByteArray, Hid (bs ((s.extract 0 7).data.toList.map low) = y) := ⟨_, rfl⟩
        have HYL : Hid (y.toList = (s.data.toList.take 7).map low) := by
          show _ = _
          rw [← HY.out, ByteArray.toList_eq, bs_data, upto_data]
        have h7i : (7 : Int) ≤ (s.size : Int) := by omega
        have hd : decide ((7 : Int) ≤ (s.size : Int)) = true := decide_eq_true h7i
        have hQ : wr.drew.cell? ⟨0, 0, none⟩ = some (.string ⟨#[104, 116, 116, 112, 58, 47, 47]⟩) ∧ SKeep w wr.drew := ⟨d0, HK.out.step (Below.refl _ _).drew⟩
        go_wp2_with fail
        go_region_held3 (fun W => W.cell? ⟨0, 0, none⟩ = some (.string ⟨#[104, 116, 116, 112, 58, 47, 47]⟩) ∧ SKeep w W) (first | assumption | exact hQ) (
          (go_at_call 44; refine (lower_any (s.extract 0 7) _ hxz).mono ?_; rintro e w2 ⟨rfl, hb2⟩; rw [HY.out]; have hQ2 := keepS (by assumption) hb2))
        have HK2 : Hid (SKeep w w2) := hQ2.2
        by_cases he : y.toList = [104, 116, 116, 112, 58, 47, 47]
        · have hq : (y.toList == [104, 116, 116, 112, 58, 47, 47]) = true := by rw [he]; rfl
          have HS : Hid (schemeL s.data.toList = some (false, (s.extract 7 s.size).data.toList)) := by
            show _ = _
            rw [from_data]
            unfold schemeL
            rw [if_pos (by rw [← HYL.out, he]; rfl)]
          rw [hq]
          clear he hq hQ hQ2 hb2
          have z0 := HK2.out.c0
          have z1 := HK2.out.c1
          have z2 := HK2.out.c2
          have zf := HK2.out.f0
          have e0 := HK2.out.sch.c0
          have e1 := HK2.out.sch.c1
          have e2 := HK2.out.sch.c2
          have e3 := HK2.out.sch.c3
          have e4 := HK2.out.sch.c4
          have e5 := HK2.out.sch.c5
          go_wp2_with fail
          go_region
          all_goals go_wp2
          obtain ⟨y0, y1, y2⟩ := set3 (.string ⟨#[104, 116, 116, 112, 58, 47, 47]⟩) (.bool false) (.int .i64 80) z0 z1 z2
          (try simp only [Exit.inBlock, Exit.then])
          refine bodyPost_ret (v := .tuple #[.agg #[.string ⟨#[104, 116, 116, 112, 58, 47, 47]⟩, .bool false, .int .i64 80], .string (s.extract 7 s.size), .bool true]) ?_ rfl ⟨(set3_below HK2.out.bel (Nat.le_refl _) _ _ _).drew, .inl ⟨false, _, rfl, by simp, HS⟩⟩
          simp [results, Tryd.f20, go_sem, y0, y1, y2]
        · have hq : (y.toList == [104, 116, 116, 112, 58, 47, 47]) = false := beq_eq_false_iff_ne.2 he
          have HS : Hid ((s.data.toList.take 7).map low ≠ httpL) := by
            show ¬ _
            rw [← HYL.out]
            exact he
          rw [hq]
          clear he hq hQ hQ2
          go_wp2
          go_roundw
          case rel => exact ⟨1, rfl, .inr (.inl ⟨rfl, HS⟩), HK2⟩
          case measure => simp [intOf]
      · have HS : Hid ((s.data.toList.take 7).map low ≠ httpL) := by
          show ¬ _
          intro e
          have := congrArg List.length e
          rw [List.length_map, List.length_take] at this
          have hl : s.data.toList.length = s.size := Array.length_toList
          simp [httpL] at this
          omega
        have h7i : ¬ (7 : Int) ≤ (s.size : Int) := by omega
        have hd : decide ((7 : Int) ≤ (s.size : Int)) = false := decide_eq_false h7i
        go_wp2_with fail
        go_quiet (fail)
        go_wp2
        go_roundw
        case rel => exact ⟨1, rfl, .inr (.inl ⟨rfl, HS⟩), (HK.out.step (drewN_below (Below.refl _ _) _))⟩
        case measure => simp [intOf]
    · by_cases h7 : 8 ≤ s.size
      · have hxz : (s.extract 0 8).size ≤ 1000 := by simp; omega
        obtain ⟨y, HY⟩ : ∃ y : ByteArray, Hid (bs ((s.extract 0 8).data.toList.map low) = y) := ⟨_, rfl⟩
        have HYL : Hid (y.toList = (s.data.toList.take 8).map low) := by
          show _ = _
          rw [← HY.out, ByteArray.toList_eq, bs_data, upto_data]
        have h7i : (8 : Int) ≤ (s.size : Int) := by omega
        have hd : decide ((8 : Int) ≤ (s.size : Int)) = true := decide_eq_true h7i
        have hQ : wr.drew.cell? ⟨0, 3, none⟩ = some (.string ⟨#[104, 116, 116, 112, 115, 58, 47, 47]⟩) ∧ SKeep w wr.drew := ⟨d3, HK.out.step (Below.refl _ _).drew⟩
        go_wp2_with fail
        go_region_held3 (fun W => W.cell? ⟨0, 3, none⟩ = some (.string ⟨#[104, 116, 116, 112, 115, 58, 47, 47]⟩) ∧ SKeep w W) (first | assumption | exact hQ) (
          (go_at_call 44; refine (lower_any (s.extract 0 8) _ hxz).mono ?_; rintro e w2 ⟨rfl, hb2⟩; rw [HY.out]; have hQ2 := keepS (by assumption) hb2))
        have HK2 : Hid (SKeep w w2) := hQ2.2
        by_cases he : y.toList = [104, 116, 116, 112, 115, 58, 47, 47]
        · have hq : (y.toList == [104, 116, 116, 112, 115, 58, 47, 47]) = true := by rw [he]; rfl
          have HS : Hid (schemeL s.data.toList = some (true, (s.extract 8 s.size).data.toList)) := by
            show _ = _
            rw [from_data]
            unfold schemeL
            rw [if_neg H1.out, if_pos (by rw [← HYL.out, he]; rfl)]
          rw [hq]
          clear he hq hQ hQ2 hb2
          have z0 := HK2.out.c0
          have z1 := HK2.out.c1
          have z2 := HK2.out.c2
          have zf := HK2.out.f0
          have e0 := HK2.out.sch.c0
          have e1 := HK2.out.sch.c1
          have e2 := HK2.out.sch.c2
          have e3 := HK2.out.sch.c3
          have e4 := HK2.out.sch.c4
          have e5 := HK2.out.sch.c5
          go_wp2_with fail
          go_region
          all_goals go_wp2
          obtain ⟨y0, y1, y2⟩ := set3 (.string ⟨#[104, 116, 116, 112, 115, 58, 47, 47]⟩) (.bool true) (.int .i64 443) z0 z1 z2
          (try simp only [Exit.inBlock, Exit.then])
          refine bodyPost_ret (v := .tuple #[.agg #[.string ⟨#[104, 116, 116, 112, 115, 58, 47, 47]⟩, .bool true, .int .i64 443], .string (s.extract 8 s.size), .bool true]) ?_ rfl ⟨(set3_below HK2.out.bel (Nat.le_refl _) _ _ _).drew, .inl ⟨true, _, rfl, by simp, HS⟩⟩
          simp [results, Tryd.f20, go_sem, y0, y1, y2]
        · have hq : (y.toList == [104, 116, 116, 112, 115, 58, 47, 47]) = false := beq_eq_false_iff_ne.2 he
          have HS : Hid ((s.data.toList.take 8).map low ≠ httpsL) := by
            show ¬ _
            rw [← HYL.out]
            exact he
          rw [hq]
          clear he hq hQ hQ2
          go_wp2
          go_roundw
          case rel => exact ⟨2, rfl, .inr (.inr ⟨rfl, H1, HS⟩), HK2⟩
          case measure => simp [intOf]
      · have HS : Hid ((s.data.toList.take 8).map low ≠ httpsL) := by
          show ¬ _
          intro e
          have := congrArg List.length e
          rw [List.length_map, List.length_take] at this
          have hl : s.data.toList.length = s.size := Array.length_toList
          simp [httpsL] at this
          omega
        have h7i : ¬ (8 : Int) ≤ (s.size : Int) := by omega
        have hd : decide ((8 : Int) ≤ (s.size : Int)) = false := decide_eq_false h7i
        go_wp2_with fail
        go_quiet (fail)
        go_wp2
        go_roundw
        case rel => exact ⟨2, rfl, .inr (.inr ⟨rfl, H1, HS⟩), (HK.out.step (drewN_below (Below.refl _ _) _))⟩
        case measure => simp [intOf]
    · have HS : Hid (schemeL s.data.toList = none) := by
        show _ = _
        unfold schemeL
        rw [if_neg H1.out, if_neg H2.out]
      have z0 := HK.out.c0
      have z1 := HK.out.c1
      have z2 := HK.out.c2
      have zf := HK.out.f0
      go_wp2
      obtain ⟨y0, y1, y2⟩ := set3 (.string ⟨#[]⟩) (.bool false) (.int .i64 0) z0 z1 z2
      (try simp only [Exit.inBlock, Exit.then])
      refine bodyPost_ret (v := .tuple #[.agg #[.string ⟨#[]⟩, .bool false, .int .i64 0], .string ⟨#[]⟩, .bool false]) ?_ rfl ⟨set3_below HK.out.bel (Nat.le_refl _) _ _ _, .inr ⟨rfl, HS⟩⟩
      simp [results, Tryd.f20, go_sem, y0, y1, y2]
end Go.Proofs.YtpbipanafihabaaDoor
