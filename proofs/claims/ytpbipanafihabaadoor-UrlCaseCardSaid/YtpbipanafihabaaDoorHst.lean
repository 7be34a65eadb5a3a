/- Whether a host, an origin may be one, by the program. -/
import Derived.Test.YtpbipanafihabaaDoorLbl
import Derived.Test.YtpbipanafihabaaDoorBx
namespace Go.Proofs.YtpbipanafihabaaDoor
open Go.RowKit Go.Shelf
attribute [local go_sem] Oper.semAt_some

theorem cell_of_box {W : World} {B : Nat} {v : Value} {t : TypeId} (h : W.heap[B]? = some (.cells #[v] t (0, 0))) : W.cell? ⟨B, 0, none⟩ = some v ∧ W.frozen? ⟨B, 0, none⟩ = false := by
  constructor <;> simp [World.cell?, World.frozen?, h]
theorem cell_new (W : World) (v : Value) (t : TypeId) : (W.alloc (.cells #[v] t)).cell? ⟨W.heap.size, 0, none⟩ = some v ∧ (W.alloc (.cells #[v] t)).frozen? ⟨W.heap.size, 0, none⟩ = false :=
  cell_of_box (World.alloc_heap_new W _)
theorem cell_alloc {W : World} {a : Addr} {v : Value} (o : Obj) (h : W.cell? a = some v) : (W.alloc o).cell? a = some v := cell_kept h (World.grownBy_alloc W o none) (fun r e => by cases e)
theorem frozen_alloc {W : World} {a : Addr} {v : Value} (o : Obj) (h : W.cell? a = some v) (hf : W.frozen? a = false) : (W.alloc o).frozen? a = false := (frozen_kept h (World.grownBy_alloc W o none) (fun r e => by cases e)).trans hf

def labelsOk (l : List ByteArray) : Bool := l.all fun p => labelB p.data.toList
theorem labelsOk_parts (s : ByteArray) : labelsOk (partsOf 46 s) = hostL s.data.toList := by
  unfold labelsOk partsOf
  rw [hostL_labels, List.all_map]
  congr 1
theorem labelsOk_no {l r : List ByteArray} (h : l <+: r) (hl : labelsOk l = false) : labelsOk r = false := by
  obtain ⟨t, rfl⟩ := h
  unfold labelsOk at *
  rw [List.all_append, hl]
  rfl

set_option maxRecDepth 100000 in
set_option maxHeartbeats 2000000 in
theorem host_any (s : ByteArray) (hs : s.size ≤ 60) (w : World) :
    Calls Tryd.prog 72 #[.string s] w fun e w' => e = .returned (.bool (hostL s.data.toList)) ∧ Below w.heap.size w w' := by
  refine (callsIn_wide (n := 3)).1 ?_
  refine callsIn_of_wp_marks Tryd.func72 rfl trivial ?_ rfl
  simp only [Tryd.ntmps72, List.size_toArray, List.length_cons, List.length_nil, Nat.reduceAdd, Nat.reduceSub, Array.replicate_succ, Array.replicate_zero, List.push_toArray, List.append_toArray, List.nil_append, List.cons_append]
  gi_wp2_with (refine ⟨trivial, ?_⟩; gi_at_call 54; refine (callsIn_wide.2 (pieces_any _ _ _)).mono ?_; rintro e w' ⟨rfl, rfl⟩)
  have c0 := cell_new w (.bool false) 4
  have c1 := cell_new (w.alloc (.cells #[.bool false] 4)) (.string s) 9
  have c2 := cell_new ((w.alloc (.cells #[.bool false] 4)).alloc (.cells #[.string s] 9)) (.int .u8 46) 5
  simp only [World.size_alloc] at c1 c2
  have hB0 : Below w.heap.size w (((w.alloc (.cells #[.bool false] 4)).alloc (.cells #[.string s] 9)).alloc (.cells #[.int .u8 46] 5)) := (((Below.refl _ w).alloc (Nat.le_refl _) _).alloc (by simp) _).alloc (by simp; omega) _
  refine wpIn_rangeFunc_ownF rfl (by omega) (gf := 76) (lb := #[.pointer (some ⟨w.heap.size + 1, 0, none⟩), .pointer (some ⟨w.heap.size + 1 + 1, 0, none⟩)]) rfl trivial (enters_of Tryd.func76 (by kernel_rfl) rfl)
    (pieces_stops 2 (by omega) (w.heap.size + 1) (w.heap.size + 1 + 1) s 46 (by omega) _ (by simp) (by simp) (cell_alloc _ c1.1) c2.1) keepsCell_t (keepsCell_b _) (Below.refl _ _) (fun _ => rfl)
    (fun pre W => (labelsOk (vals pre) = true ∧ W.cell? ⟨w.heap.size, 0, none⟩ = some (.bool false) ∧ W.frozen? ⟨w.heap.size, 0, none⟩ = false) ∧ Below w.heap.size w W)
    (fun c pre W => (c = .ret ∧ labelsOk (vals pre) = false ∧ W.cell? ⟨w.heap.size, 0, none⟩ = some (.bool false)) ∧ Below w.heap.size w W)
    (OwnFrom.and (Own.from (fun s A B row hs hg hr => ⟨hs.1, cell_kept hs.2.1 hg hr, (frozen_kept hs.2.1 hg hr).trans hs.2.2⟩) _) (ownFrom_below (Nat.le_refl _) (by simp; omega)))
    (fun c => OwnFrom.and (Own.from (fun s A B row hs hg hr => ⟨hs.1, hs.2.1, cell_kept hs.2.2 hg hr⟩) _) (ownFrom_below (Nat.le_refl _) (by simp; omega)))
    ⟨⟨rfl, cell_alloc _ (cell_alloc _ c0.1), frozen_alloc _ (cell_alloc _ c0.1) (frozen_alloc _ c0.1 c0.2)⟩, hB0⟩
    (fun x => { tmps := #[.string s, undef, .pointer (some ⟨w.heap.size, 0, none⟩), .string x.1, .string s, .int .i64 s.size, .bool (decide (60 < (s.size : Int))), .string s, .func (.func 76) #[] #[.pointer (some ⟨w.heap.size + 1, 0, none⟩), .pointer (some ⟨w.heap.size + 1 + 1, 0, none⟩)], .string x.1, undef, undef, undef], defers := [] }) ?assign ?body ?done ?stop
  case assign =>
    intro l x W K hK
    gi_wp2
    exact hK
  case body =>
    rintro l pre x W ⟨⟨hp, hc, hf⟩, hB⟩ _
    gi_wp2_with (refine ⟨trivial, ?_⟩; gi_at_call 86; refine (CallsIn.inRound l (callsIn_wide.2 (label_any x.1 x.2.1 _))).mono ?_; rintro e w' ⟨rfl, rfl⟩)
    · rename_i hx
      have HX : labelB x.1.data.toList = false := by simpa using hx
      exact ⟨KeepsOthers.setCell _ _ _, ⟨rfl, by rw [vals_snoc, labelsOk, List.all_append]; simp [HX], World.cell?_setCell_same' _ _ _ (by rw [hc]; rfl)⟩, hB.setCell (p := ⟨w.heap.size, 0, none⟩) (Nat.le_refl _) _⟩
    · rename_i hx
      have HX : labelB x.1.data.toList = true := by simpa using hx
      refine ⟨KeepsOthers.refl _, fun v h => h, ⟨?_, hc, hf⟩, hB⟩
      unfold labelsOk at hp ⊢
      rw [vals_snoc, List.all_append, hp]
      simp [HX]
  case done =>
    rintro D ys W hD hys ⟨⟨hp, hc, hf⟩, hB⟩ hK
    gi_wp2
    have hK' := (KeepsOthers.setCell W ⟨w.heap.size, 0, none⟩ (.bool true)).same D _ hK rfl
    refine ⟨by simp, .inl ⟨_, _, rfl, run_takeDeferred hK', ?_⟩⟩
    have hc5 := cell_kept (World.cell?_setCell_same' W ⟨w.heap.size, 0, none⟩ (.bool true) (by rw [hc]; rfl)) (grownBy_putObj' _ D (.deferred none)) (fun r e => by cases e; exact ⟨_, hK', rfl⟩)
    refine ⟨.bool true, ?_, by rw [← labelsOk_parts, ← hys, hp], (hB.setCell (p := ⟨w.heap.size, 0, none⟩) (Nat.le_refl _) _).trans (belowK_b (w := w) (Nat.le_refl _) _ D _ _ (by simp at hD; omega) hK' rfl rfl)⟩
    simp [results, Tryd.f72, go_sem, hc5]
  case stop =>
    rintro D c pre W hD hpre ⟨⟨rfl, hin, hc⟩, hB⟩ hK
    gi_wp2
    refine ⟨by simp, .inl ⟨_, _, rfl, run_takeDeferred hK, ?_⟩⟩
    have hc5 := cell_kept hc (grownBy_putObj' _ D (.deferred none)) (fun r e => by cases e; exact ⟨_, hK, rfl⟩)
    refine ⟨.bool false, ?_, by rw [← labelsOk_parts, labelsOk_no hpre hin], hB.trans (belowK_b (w := w) (Nat.le_refl _) W D _ _ (by simp at hD; omega) hK rfl rfl)⟩
    simp [results, Tryd.f72, go_sem, hc5]

theorem host_long (s : ByteArray) (hs : 60 < s.size) (h2 : s.size ≤ 4000) (w : World) :
    Calls Tryd.prog 72 #[.string s] w fun e w' => e = .returned (.bool false) ∧ Below w.heap.size w w' := by
  go_enter Tryd.func72, Tryd.ntmps72
  go_wp2
  have c0 := cell_new w (.bool false) 4
  (try simp only [Exit.inBlock, Exit.then])
  refine bodyPost_ret (v := .bool false) ?_ rfl ⟨rfl, (Below.refl _ _).alloc (Nat.le_refl _) _⟩
  simp [results, Tryd.f72, go_sem, c0.1]

theorem host_all (s : ByteArray) (h2 : s.size ≤ 4000) (w : World) :
    Calls Tryd.prog 72 #[.string s] w fun e w' => e = .returned (.bool (decide (s.size ≤ 60) && hostL s.data.toList)) ∧ Below w.heap.size w w' := by
  by_cases h : s.size ≤ 60
  · rw [decide_eq_true h, Bool.true_and]
    exact host_any s h w
  · rw [decide_eq_false h, Bool.false_and]
    exact host_long s (by omega) h2 w
set_option maxHeartbeats 1000000 in
theorem right_any (sec : Bool) (host : ByteArray) (port : Int) (hs : host.size ≤ 4000) (w : World) :
    Calls Tryd.prog 46 #[.agg #[.bool sec, .string host, .int .i64 port]] w fun e w' => e = .returned (.bool (rightL host.data.toList port)) ∧ Below w.heap.size w w' := by
  obtain ⟨hh, HH⟩ : ∃ hh : Bool, Hid ((decide (host.size ≤ 60) && hostL host.data.toList) = hh) := ⟨_, rfl⟩
  have HR : Hid (rightL host.data.toList port = (hh && decide (1 ≤ port ∧ port ≤ 65535))) := by
    show _ = _
    rw [← HH.out]
    unfold rightL
    rw [data_len]
    cases decide (host.size ≤ 60) <;> cases hostL host.data.toList <;> simp
  cases hh
  · go_enter Tryd.func46, Tryd.ntmps46
    go_wp2_with (go_at_call 72; refine (host_all host hs _).mono ?_; rintro e w' ⟨rfl, hb⟩; rw [HH.out])
    go_ret
    exact ⟨by rw [HR.out]; rfl, ((Below.refl _ _).alloc (Nat.le_refl _) _).trans (hb.mono (by simp))⟩
  · by_cases hp : 1 ≤ port
    · by_cases hp2 : port ≤ 65535
      · have HQ : Hid (rightL host.data.toList port = true) := by show _ = _; rw [HR.out]; simp [hp, hp2]
        go_enter Tryd.func46, Tryd.ntmps46
        go_wp2_with (go_at_call 72; refine (host_all host hs _).mono ?_; rintro e w' ⟨rfl, hb⟩; rw [HH.out]; have hc2 : w'.cell? ⟨w.heap.size, 2, none⟩ = some (.int .i64 port) := (hb.cell (p := ⟨w.heap.size, 2, none⟩) (by simp)).trans (cells_new _ _ _ 2))
        go_ret
        exact ⟨by rw [HQ.out]; rfl, ((Below.refl _ _).alloc (Nat.le_refl _) _).trans (hb.mono (by simp))⟩
      · have HQ : Hid (rightL host.data.toList port = false) := by show _ = _; rw [HR.out]; simp [hp2]
        go_enter Tryd.func46, Tryd.ntmps46
        go_wp2_with (go_at_call 72; refine (host_all host hs _).mono ?_; rintro e w' ⟨rfl, hb⟩; rw [HH.out]; have hc2 : w'.cell? ⟨w.heap.size, 2, none⟩ = some (.int .i64 port) := (hb.cell (p := ⟨w.heap.size, 2, none⟩) (by simp)).trans (cells_new _ _ _ 2))
        go_ret
        exact ⟨by rw [HQ.out, ← decide_eq_false (show ¬ port ≤ 65535 by omega)]; rfl, ((Below.refl _ _).alloc (Nat.le_refl _) _).trans (hb.mono (by simp))⟩
    · have HQ : Hid (rightL host.data.toList port = false) := by show _ = _; rw [HR.out]; simp [hp]
      go_enter Tryd.func46, Tryd.ntmps46
      go_wp2_with (go_at_call 72; refine (host_all host hs _).mono ?_; rintro e w' ⟨rfl, hb⟩; rw [HH.out]; have hc2 : w'.cell? ⟨w.heap.size, 2, none⟩ = some (.int .i64 port) := (hb.cell (p := ⟨w.heap.size, 2, none⟩) (by simp)).trans (cells_new _ _ _ 2))
      go_ret
      exact ⟨by rw [HQ.out]; rfl, ((Below.refl _ _).alloc (Nat.le_refl _) _).trans (hb.mono (by simp))⟩
end Go.Proofs.YtpbipanafihabaaDoor
