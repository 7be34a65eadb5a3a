/- passesFor's closure: one pass more, if it isn't there. -/
import Derived.Test.YtoblpjknnchlmabGreatDoorAppX9
import Derived.Test.YtoblpjknnchlmabGreatDoorBxG
import Derived.Test.YtoblpjknnchlmabGreatDoorCln2
import Derived.Deep.AppendLies
namespace Go.Proofs.YtoblpjknnchlmabGreatDoor
open Go.RowKit

def addX (l : List (ByteArray × ByteArray)) (x : ByteArray × ByteArray) : List (ByteArray × ByteArray) := if l.any (sameX x) then l else l ++ [x]
/-- What passesFor's closure holds: a pass, and the passes so far. -/
structure HoldX (p : PsV) (gp gs B : Nat) (l : List (ByteArray × ByteArray)) (W : World) : Prop where
  one : W.heap[gp]? = some (.cells #[.bool p.fs, .string p.fh, .int .i64 p.fp, .bool p.us, .string p.uh, .int .i64 p.up, .string p.pa, .string p.qu, .bool p.wi, .string ⟨#[]⟩, .string ⟨#[]⟩, .int .i64 p.un] 50 (0, 0))
  own : ∃ v, W.heap[gs]? = some (.cells #[v] 46 (0, 0)) ∧ OwnX p W B v l
  gpB : gp < B
  gsB : gs < B
  ne : gp ≠ gs
  bW : B ≤ W.heap.size
theorem HoldX.below {p : PsV} {gp gs B : Nat} {l : List (ByteArray × ByteArray)} {W W' : World} (h : HoldX p gp gs B l W) (hb : Below W.heap.size W W') : HoldX p gp gs B l W' := by
  obtain ⟨v, h1, h2⟩ := h.own
  refine ⟨?_, ⟨v, ?_, h2.below hb⟩, h.gpB, h.gsB, h.ne, Nat.le_trans h.bW hb.size⟩
  · rw [hb.block _ (Array.getElem?_eq_some_iff.1 h.one).1]; exact h.one
  · rw [hb.block _ (Array.getElem?_eq_some_iff.1 h1).1]; exact h1
theorem HoldX.setTo {p : PsV} {gp gs B : Nat} {l' : List (ByteArray × ByteArray)} {W : World} {g cap n : Nat} (h1 : W.heap[gp]? = some (.cells #[.bool p.fs, .string p.fh, .int .i64 p.fp, .bool p.us, .string p.uh, .int .i64 p.up, .string p.pa, .string p.qu, .bool p.wi, .string ⟨#[]⟩, .string ⟨#[]⟩, .int .i64 p.un] 50 (0, 0))) (h2 : ∃ u, W.heap[gs]? = some (.cells #[u] 46 (0, 0))) (hown : OwnX p W B (.slice (some ⟨g, 0, none⟩) n cap) l') (hgp : gp < B) (hgs : gs < B) (hne : gp ≠ gs) (hbW : B ≤ W.heap.size) :
    HoldX p gp gs B l' (W.setCell ⟨gs, 0, none⟩ (.slice (some ⟨g, 0, none⟩) n cap)) := by
  obtain ⟨u, hu⟩ := h2
  have hg : W.grownBy (W.setCell ⟨gs, 0, none⟩ (.slice (some ⟨g, 0, none⟩) n cap)) (some gs) := grown_setCells W gs 0 [.slice (some ⟨g, 0, none⟩) n cap]
  have hlt : gp < W.heap.size := (Array.getElem?_eq_some_iff.1 h1).1
  refine ⟨?_, ⟨.slice (some ⟨g, 0, none⟩) n cap, ?_, ?_⟩, hgp, hgs, hne, Nat.le_trans hbW hg.size⟩
  · rw [hg.block _ hlt (by intro e; injection e with e; exact hne e)]
    exact h1
  · have := heap_setCell_same W gs 0 #[u] 46 (.slice (some ⟨g, 0, none⟩) n cap) hu
    simpa using this
  · refine hown.kept hg (.inr ?_)
    have := (OwnK.lt hown g rfl).1
    intro e
    have e2 : (some g : Option Nat) = some gs := e
    injection e2 with e2
    omega
set_option maxRecDepth 100000 in
set_option maxHeartbeats 8000000 in
theorem add9_any (p : PsV) (gp gs B : Nat) (l : List (ByteArray × ByteArray)) (hl : l.length ≤ 500) (x y : ByteArray) (w : World) (h : HoldX p gp gs B l w) :
    Calls Tryz.prog 75 #[.string x, .string y, .pointer (some ⟨gp, 0, none⟩), .pointer (some ⟨gs, 0, none⟩)] w fun e w' => e = .returned (.tuple #[]) ∧ HoldX p gp gs B (addX l (x, y)) w' ∧ Below gs w w' := by
  have H : Hid (HoldX p gp gs B l w) := h
  obtain ⟨v, hv, hown⟩ := h.own
  obtain ⟨a, cap, g, rfl, hps⟩ := hown.pss
  obtain ⟨n, HN⟩ : ∃ n, Hid (l.length = n) := ⟨_, rfl⟩
  rw [HN.out] at hv hown hps hl
  have HV : Hid (w.heap[gs]? = some (.cells #[.slice a n cap] 46 (0, 0)) ∧ OwnX p w B (.slice a n cap) l ∧ Pss w a n g 0 (l.map p.of)) := ⟨hv, hown, hps⟩
  have sv : w.cell? ⟨gs, 0, none⟩ = some (.slice a n cap) := cell_of hv
  have HGSW : Hid (gs ≤ w.heap.size ∧ gs < B ∧ gp < B ∧ gp ≠ gs ∧ B ≤ w.heap.size) := ⟨Nat.le_of_lt (Array.getElem?_eq_some_iff.1 hv).1, h.gsB, h.gpB, h.ne, h.bW⟩
  have c0 : w.cell? ⟨gp, 0, none⟩ = some (.bool p.fs) := cell_of h.one
  have c1 : w.cell? ⟨gp, 1, none⟩ = some (.string p.fh) := cell_of h.one
  have c2 : w.cell? ⟨gp, 2, none⟩ = some (.int .i64 p.fp) := cell_of h.one
  have c3 : w.cell? ⟨gp, 3, none⟩ = some (.bool p.us) := cell_of h.one
  have c4 : w.cell? ⟨gp, 4, none⟩ = some (.string p.uh) := cell_of h.one
  have c5 : w.cell? ⟨gp, 5, none⟩ = some (.int .i64 p.up) := cell_of h.one
  have c6 : w.cell? ⟨gp, 6, none⟩ = some (.string p.pa) := cell_of h.one
  have c7 : w.cell? ⟨gp, 7, none⟩ = some (.string p.qu) := cell_of h.one
  have c8 : w.cell? ⟨gp, 8, none⟩ = some (.bool p.wi) := cell_of h.one
  have c9 : w.cell? ⟨gp, 9, none⟩ = some (.string ⟨#[]⟩) := cell_of h.one
  have c10 : w.cell? ⟨gp, 10, none⟩ = some (.string ⟨#[]⟩) := cell_of h.one
  have c11 : w.cell? ⟨gp, 11, none⟩ = some (.int .i64 p.un) := cell_of h.one
  clear h hv hown hps
  have HQ : Hid (BoxQ 50 w #[.bool p.fs, .string p.fh, .int .i64 p.fp, .bool p.us, .string p.uh, .int .i64 p.up, .string p.pa, .string p.qu, .bool p.wi, .string x, .string y, .int .i64 p.un] (w.alloc (.cells #[.bool p.fs, .string p.fh, .int .i64 p.fp, .bool p.us, .string p.uh, .int .i64 p.up, .string p.pa, .string p.qu, .bool p.wi, .string x, .string y, .int .i64 p.un] 50))) := BoxQ.new _ _ _
  have hsv1 : (w.alloc (.cells #[.bool p.fs, .string p.fh, .int .i64 p.fp, .bool p.us, .string p.uh, .int .i64 p.up, .string p.pa, .string p.qu, .bool p.wi, .string x, .string y, .int .i64 p.un] 50)).cell? ⟨gs, 0, none⟩ = some (.slice a n cap) := (HQ.out.bel.cell (p := ⟨gs, 0, none⟩) (lt_cell9 sv)).trans sv
  have q0 := HQ.out.at 0 _ rfl
  have q1 := HQ.out.at 1 _ rfl
  have q2 := HQ.out.at 2 _ rfl
  have q3 := HQ.out.at 3 _ rfl
  have q4 := HQ.out.at 4 _ rfl
  have q5 := HQ.out.at 5 _ rfl
  have q6 := HQ.out.at 6 _ rfl
  have q7 := HQ.out.at 7 _ rfl
  have q8 := HQ.out.at 8 _ rfl
  have q9 := HQ.out.at 9 _ rfl
  have q10 := HQ.out.at 10 _ rfl
  have q11 := HQ.out.at 11 _ rfl
  go_enter Tryz.func75, Tryz.ntmps75
  go_wp2_with fail
  refine (containsX_any p (x, y) l a n cap g 0 (by omega) _ (HV.out.2.2.below HQ.out.bel)).mono ?_
  rintro e w2 ⟨rfl, hb2⟩
  have HB2 : Hid (Below w.heap.size w w2) := HQ.out.inB hb2
  have HQ2 : Hid (BoxQ 50 w #[.bool p.fs, .string p.fh, .int .i64 p.fp, .bool p.us, .string p.uh, .int .i64 p.up, .string p.pa, .string p.qu, .bool p.wi, .string x, .string y, .int .i64 p.un] w2) := HQ.out.step hb2
  clear hb2 HQ sv hsv1 c0 q0 c1 q1 c2 q2 c3 q3 c4 q4 c5 q5 c6 q6 c7 q7 c8 q8 c9 q9 c10 q10 c11 q11
  obtain ⟨t, HT⟩ : ∃ t, Hid (l.any (sameX (x, y)) = t) := ⟨_, rfl⟩
  rw [HT.out]
  cases t
  · have HA : Hid (addX l (x, y) = l ++ [(x, y)]) := by show _ = _; unfold addX; rw [HT.out]; rfl
    have HV2 : Hid (w2.heap[gs]? = some (.cells #[.slice a n cap] 46 (0, 0)) ∧ w2.heap[gp]? = some (.cells #[.bool p.fs, .string p.fh, .int .i64 p.fp, .bool p.us, .string p.uh, .int .i64 p.up, .string p.pa, .string p.qu, .bool p.wi, .string ⟨#[]⟩, .string ⟨#[]⟩, .int .i64 p.un] 50 (0, 0)) ∧ OwnX p w2 B (.slice a n cap) l) :=
      ⟨by rw [HB2.out.block _ (Array.getElem?_eq_some_iff.1 HV.out.1).1]; exact HV.out.1, by rw [HB2.out.block _ (Array.getElem?_eq_some_iff.1 H.out.one).1]; exact H.out.one, HV.out.2.1.below HB2.out⟩
    have sv2 : w2.cell? ⟨gs, 0, none⟩ = some (.slice a n cap) := cell_of HV2.out.1
    have hz2 : B ≤ w2.heap.size := Nat.le_trans HGSW.out.2.2.2.2 HB2.out.size
    have b0 := HQ2.out.at 0 _ rfl
    have b1 := HQ2.out.at 1 _ rfl
    have b2 := HQ2.out.at 2 _ rfl
    have b3 := HQ2.out.at 3 _ rfl
    have b4 := HQ2.out.at 4 _ rfl
    have b5 := HQ2.out.at 5 _ rfl
    have b6 := HQ2.out.at 6 _ rfl
    have b7 := HQ2.out.at 7 _ rfl
    have b8 := HQ2.out.at 8 _ rfl
    have b9 := HQ2.out.at 9 _ rfl
    have b10 := HQ2.out.at 10 _ rfl
    have b11 := HQ2.out.at 11 _ rfl
    go_wp2_with (at_builtin; refine wp_appX rfl _ _ rfl p B w2 (.slice a n cap) l n rfl HV2.out.2.2 HN.out (by omega) hz2 (x, y) rfl ?_; intro g4 cap4 w4 hown4 hg4 hlt4 hBg; have HR4 : Hid (OwnX p w4 B (.slice (some ⟨g4, 0, none⟩) (n + 1) cap4) (l ++ [(x, y)]) ∧ w4.heap[gs]? = some (.cells #[.slice a n cap] 46 (0, 0)) ∧ w4.heap[gp]? = some (.cells #[.bool p.fs, .string p.fh, .int .i64 p.fp, .bool p.us, .string p.uh, .int .i64 p.up, .string p.pa, .string p.qu, .bool p.wi, .string ⟨#[]⟩, .string ⟨#[]⟩, .int .i64 p.un] 50 (0, 0)) ∧ Below gs w w4 ∧ B ≤ w4.heap.size) := (have hA : Below w2.heap.size w2 (w2.alloc (.cells #[.bool p.fs, .string p.fh, .int .i64 p.fp, .bool p.us, .string p.uh, .int .i64 p.up, .string p.pa, .string p.qu, .bool p.wi, .string x, .string y, .int .i64 p.un] 50)) := (Below.refl _ _).alloc (Nat.le_refl _) _; have hob : ∀ k, k < B → some k ≠ (Value.slice a n cap).ownBlock := fun k hk e => (by have := (OwnK.lt HV2.out.2.2 k e.symm).1; omega); have hk4 : ∀ k, k < B → w4.heap[k]? = w2.heap[k]? := fun k hk => (by rw [hg4.block k (by simp; omega) (hob k hk), hA.block k (by omega)]); ⟨hown4, (by rw [hk4 _ HGSW.out.2.1]; exact HV2.out.1), (by rw [hk4 _ HGSW.out.2.2.1]; exact HV2.out.2.1), ((HB2.out.mono HGSW.out.1).alloc (by have := HGSW.out.1; have := HB2.out.size; omega) _).grown hg4 (by have := HGSW.out.1; have := HB2.out.size; simp; omega) (fun i hi => by have := (OwnK.lt HV2.out.2.2 i hi).1; have := HGSW.out.2.1; omega), Nat.le_trans (by simp; omega) hg4.size⟩); clear hown4 hg4 hlt4 hBg; have sv4 : w4.cell? ⟨gs, 0, none⟩ = some (.slice a n cap) := cell_of HR4.out.2.1; have fz4 := free_of HR4.out.2.1)
    have HF : Hid (HoldX p gp gs B (l ++ [(x, y)]) (w4.setCell ⟨gs, 0, none⟩ (.slice (some ⟨g4, 0, none⟩) (n + 1) cap4)) ∧ Below gs w (w4.setCell ⟨gs, 0, none⟩ (.slice (some ⟨g4, 0, none⟩) (n + 1) cap4))) :=
      ⟨HoldX.setTo HR4.out.2.2.1 ⟨_, HR4.out.2.1⟩ HR4.out.1 HGSW.out.2.2.1 HGSW.out.2.1 HGSW.out.2.2.2.1 HR4.out.2.2.2.2, HR4.out.2.2.2.1.setCell (Nat.le_refl _) _⟩
    go_wp2
    go_end0
    exact ⟨rfl, by rw [HA.out]; exact HF.out.1, HF.out.2⟩
  · have HA : Hid (addX l (x, y) = l) := by show _ = _; unfold addX; rw [HT.out]; rfl
    go_wp2
    go_end0
    exact ⟨rfl, by rw [HA.out]; exact H.out.below HB2.out, HB2.out.mono HGSW.out.1⟩
end Go.Proofs.YtoblpjknnchlmabGreatDoor
