/- Whether a header may be sent without asking, by the document. -/
import Derived.Test.YtbhnaekkjpcafaaDoorPln8
import Derived.Test.YtbhnaekkjpcafaaDoorSplO
import Derived.Test.YtbhnaekkjpcafaaDoorRefLow
import Derived.Deep.Cut
import Derived.Deep.CutRange
import Derived.Deep.DeepCutAuto
namespace Go.Proofs.YtbhnaekkjpcafaaDoor
open Go.RowKit Go.Shelf
theorem cellsP8 (W : World) (cs : Array Value) (t : TypeId) (j : Nat) : (W.alloc (.cells cs t)).cell? ⟨W.heap.size, j, none⟩ = cs[j]? := World.cell?_alloc_mark _ _ _ _ _

theorem refText8_any (c : UInt8) (w : World) : Calls Tryd.prog 34 #[.int .u8 (c.toNat : Int)] w fun e w' => e = .returned (.bool (textB c)) ∧ w' = w := by
  have hcl : (c.toNat : Int) < 256 := by have := c.toNat_lt; omega
  have HT : Hid (textB c = (((c.toNat : Int) == 9) || (decide (32 ≤ (c.toNat : Int)) && !((c.toNat : Int) == 127)))) := textB_of c
  by_cases h : (c.toNat : Int) = 9
  · go_enter Tryd.func34, Tryd.ntmps34
    go_wp2
    go_ret
    exact ⟨ret_bool (by rw [HT.out, h]; rfl), rfl⟩
  · by_cases h2 : (31 : Int) < (c.toNat : Int)
    · by_cases h3 : (c.toNat : Int) = 127
      · go_enter Tryd.func34, Tryd.ntmps34
        go_wp2
        go_ret
        exact ⟨ret_bool (by rw [HT.out, h3]; rfl), rfl⟩
      · go_enter Tryd.func34, Tryd.ntmps34
        go_wp2
        go_ret
        exact ⟨ret_bool (by rw [HT.out, beq_eq_false_iff_ne.2 h, beq_eq_false_iff_ne.2 h3, decide_eq_true (show 32 ≤ (c.toNat : Int) by omega), bne_iff_ne.2 h3]; simp), rfl⟩
    · go_enter Tryd.func34, Tryd.ntmps34
      go_wp2
      go_ret
      exact ⟨ret_bool (by rw [HT.out, beq_eq_false_iff_ne.2 h, decide_eq_false (show ¬ 32 ≤ (c.toNat : Int) by omega)]; rfl), rfl⟩
theorem head_split (c : UInt8) : ∀ l, (splitL c l).head? = some (cutL c l).1
  | [] => by simp [splitL, cutL]
  | b :: t => by
    have ih := head_split c t
    unfold splitL cutL
    by_cases h : b = c
    · rw [if_pos h, if_pos h]; rfl
    · rw [if_neg h, if_neg h]
      split
      · rename_i e; rw [e] at ih; cases ih
      · rename_i p r e
        rw [e] at ih
        injection ih with ih
        rw [← ih]; rfl
theorem all_snocB (f : UInt8 → Bool) (s : ByteArray) (k : Nat) (hk : k < s.size) (c : UInt8) (e : s[k] = c) (b : Bool) (h : (s.data.toList.take k).all f = b) : (s.data.toList.take (k + 1)).all f = (b && f c) := by
  rw [take_snoc s k hk, List.all_append, h, e]
  simp
/-- A header's answer, whatever else is told of it. -/
def refPlainN (x v : List UInt8) (sb tb : Bool) : Bool := if x == nmA then sb else if x == nmL then tb else if x == nmC then tb else if x == nmT then sb && formL v else false
theorem refPlainN_is (x v : List UInt8) : refPlainN x v (v.all safeB) (v.all tongB) = plainN x v := rfl
set_option maxRecDepth 100000 in
set_option maxHeartbeats 8000000 in
theorem refPlain_any (n v : ByteArray) (hn : n.size ≤ 4000) (hv : v.size ≤ 140737488355328) (w : World) :
    Calls Tryd.prog 13 #[.agg #[.string n, .string v]] w fun e w' => e = .returned (.bool (plainL n.data.toList v.data.toList)) ∧ Below w.heap.size w w' := by
  have hlv : v.data.toList.length = v.size := Array.length_toList
  have hb0 : Below w.heap.size w (w.alloc (.cells #[.string n, .string v] 25)) := (Below.refl _ _).alloc (Nat.le_refl _) _
  by_cases hl : v.size ≤ 128
  · have hlz : ¬ (128 : Int) < (v.size : Int) := by omega
    obtain ⟨x, HX⟩ : ∃ x : ByteArray, Hid (bs (n.data.toList.map low) = x) := ⟨_, rfl⟩
    have HP : Hid (plainL n.data.toList v.data.toList = plainN x.toList v.data.toList) := by
      show _ = _
      unfold plainL
      rw [hlv, decide_eq_true hl, Bool.true_and, ByteArray.toList_eq, ← HX.out, bs_data]
    have HN : Hid (∀ w', Below (w.alloc (.cells #[.string n, .string v] 25)).heap.size (w.alloc (.cells #[.string n, .string v] 25)) w' → Below w.heap.size w w' ∧ w'.heap[w.heap.size]? = some (.cells #[.string n, .string v] 25 (0, 0))) := fun w' hb => ⟨hb0.trans (hb.mono (by simp)), (hb.block _ (by simp)).trans (heap_alloc_new w _)⟩
    clear hb0 hlv
    go_enter Tryd.func13, Tryd.ntmps13
    go_wp2
    generalize hW0 : w.alloc (.cells #[.string n, .string v] 25) = W0 at HN ⊢
    clear hW0
    obtain ⟨x0, x1, _⟩ := two_at (HN.out W0 (Below.refl _ _)).2
    go_loop [3, 4, 16] (fun s3 s4 i => ∃ (k : Nat) (sb tb : Bool), k ≤ v.size ∧ i = .int .i64 k ∧ s3 = .bool sb ∧ s4 = .bool tb ∧ Hid ((v.data.toList.take k).all safeB = sb ∧ (v.data.toList.take k).all tongB = tb)) (fun _ _ i => v.size - (intOf i).toNat)
    case atStart => exact ⟨0, true, true, Nat.zero_le _, rfl, rfl, rfl, rfl, rfl⟩
    case round =>
      obtain ⟨k, sb, tb, hk, rfl, rfl, rfl, HK⟩ := hrel
      by_cases hlt : k < v.size
      · obtain ⟨c, hcd⟩ : ∃ c : UInt8, v[k] = c := ⟨_, rfl⟩
        have hcl : (c.toNat : Int) < 256 := by have := c.toNat_lt; omega
        have HS : Hid ((v.data.toList.take (k + 1)).all safeB = (sb && (textB c && !forbS.contains c))) := all_snocB safeB v k hlt c hcd sb HK.out.1
        obtain ⟨d1, D1⟩ : ∃ d : Bool, Hid (decide (48 ≤ (c.toNat : Int) ∧ (c.toNat : Int) ≤ 57) = d) := ⟨_, rfl⟩
        obtain ⟨d2, D2⟩ : ∃ d : Bool, Hid (decide (97 ≤ (c.toNat : Int) ∧ (c.toNat : Int) ≤ 122) = d) := ⟨_, rfl⟩
        obtain ⟨d3, D3⟩ : ∃ d : Bool, Hid (decide (65 ≤ (c.toNat : Int) ∧ (c.toNat : Int) ≤ 90) = d) := ⟨_, rfl⟩
        have HT : Hid ((v.data.toList.take (k + 1)).all tongB = (tb && ((d2 || (d3 || d1)) || tongS.contains c))) := by
          show _ = _
          rw [all_snocB tongB v k hlt c hcd tb HK.out.2, ← D1.out, ← D2.out, ← D3.out]
          unfold tongB alnB
          simp only [← Int.ofNat_le]
          rfl
        obtain ⟨f, HF⟩ : ∃ f : Bool, Hid (textB c = f) := ⟨_, rfl⟩
        rw [HF.out] at HS
        clear HK
        go_upto_region 9 with fail
        go_cut [3] (fun s3 wc => ∃ b : Bool, s3 = .bool b ∧ Hid ((v.data.toList.take (k + 1)).all safeB = b) ∧ wc = W0)
        case first =>
          cases sb
          · go_wp2
            go_meet
            exact ⟨false, rfl, by rw [HS.out]; rfl, rfl⟩
          · cases f
            · go_wp2_with (go_at_call 34; refine (refText8_any c _).mono ?_; rintro e w' ⟨rfl, hw⟩; obtain rfl := hw.symm; rw [HF.out])
              go_meet
              exact ⟨false, rfl, by rw [HS.out]; rfl, rfl⟩
            · go_wp2_with (first | (go_at_call 34; refine (refText8_any c _).mono ?_; rintro e w' ⟨rfl, hw⟩; obtain rfl := hw.symm; rw [HF.out]) | (go_at_call 35; refine (ix_forbS c _).mono ?_; rintro e w' ⟨⟨x1, rfl, HX1⟩, hw⟩; obtain rfl := hw.symm))
              go_meet
              exact ⟨_, rfl, by show _ = _; rw [HS.out, HX1.out]; simp, rfl⟩
        case rest =>
        obtain ⟨sb', rfl, HS', hw⟩ := hcut
        obtain rfl := hw.symm
        clear hw
        cases tb
        · go_wp2
          go_round
          case rel => exact ⟨k + 1, sb', false, by omega, by go_num, rfl, rfl, HS'.out, by rw [HT.out]; rfl⟩
          case measure => simp [intOf]; omega
        go_wp2_with fail
        refine (within_any _ 48 57 _).mono ?_
        rintro e w' ⟨rfl, hw⟩
        obtain rfl := hw.symm
        rw [D1.out]
        cases d1
        rotate_left
        · go_wp2
          go_round
          case rel => exact ⟨k + 1, sb', true, by omega, by go_num, rfl, rfl, HS'.out, by rw [HT.out]; simp⟩
          case measure => simp [intOf]; omega
        go_wp2_with fail
        refine (within_any _ 97 122 _).mono ?_
        rintro e w' ⟨rfl, hw⟩
        obtain rfl := hw.symm
        rw [D2.out]
        cases d2
        rotate_left
        · go_wp2
          go_round
          case rel => exact ⟨k + 1, sb', true, by omega, by go_num, rfl, rfl, HS'.out, by rw [HT.out]; simp⟩
          case measure => simp [intOf]; omega
        go_wp2_with fail
        refine (within_any _ 65 90 _).mono ?_
        rintro e w' ⟨rfl, hw⟩
        obtain rfl := hw.symm
        rw [D3.out]
        cases d3
        rotate_left
        · go_wp2
          go_round
          case rel => exact ⟨k + 1, sb', true, by omega, by go_num, rfl, rfl, HS'.out, by rw [HT.out]; simp⟩
          case measure => simp [intOf]; omega
        go_wp2_with fail
        refine (ix_tongS c _).mono ?_
        rintro e w' ⟨⟨y1, rfl, HX2⟩, hw⟩
        obtain rfl := hw.symm
        go_wp2
        go_round
        case rel => exact ⟨k + 1, sb', _, by omega, by go_num, rfl, rfl, HS'.out, by rw [HT.out, HX2.out]; simp⟩
        case measure => simp [intOf]; omega
      · obtain rfl : k = v.size := by omega
        have HE : Hid (v.data.toList.all safeB = sb ∧ v.data.toList.all tongB = tb) := by
          have h := HK.out
          rw [List.take_of_length_le (by simp)] at h
          exact h
        have HQ : Hid (plainL n.data.toList v.data.toList = refPlainN x.toList v.data.toList sb tb) := by
          show _ = _
          rw [HP.out, ← refPlainN_is, HE.out.1, HE.out.2]
        have hsz : v.size ≤ 5000 := by omega
        clear HK HE HP
        go_wp2_with fail
        refine (refLower_any n _ hn).mono ?_
        rintro e w1 ⟨rfl, hb1⟩
        have HB1 := HN.out _ hb1
        have HB : Hid (Below w.heap.size w w1) := HB1.1
        clear x0 x1
        obtain ⟨x0, x1, _⟩ := two_at HB1.2
        rw [HX.out]
        clear hb1 HB1
        unfold refPlainN nmA nmL nmC nmT at HQ
        cases a1 : (x.toList == [97, 99, 99, 101, 112, 116])
        rotate_left
        · go_wp2
          go_ret
          exact ⟨ret_bool (by rw [HQ.out, a1]; rfl), HB.out⟩
        cases a2 : (x.toList == [97, 99, 99, 101, 112, 116, 45, 108, 97, 110, 103, 117, 97, 103, 101])
        rotate_left
        · go_wp2
          go_ret
          exact ⟨ret_bool (by rw [HQ.out, a1, a2]; rfl), HB.out⟩
        cases a3 : (x.toList == [99, 111, 110, 116, 101, 110, 116, 45, 108, 97, 110, 103, 117, 97, 103, 101])
        rotate_left
        · go_wp2
          go_ret
          exact ⟨ret_bool (by rw [HQ.out, a1, a2, a3]; rfl), HB.out⟩
        cases a4 : (x.toList == [99, 111, 110, 116, 101, 110, 116, 45, 116, 121, 112, 101])
        · go_wp2
          go_ret
          exact ⟨ret_bool (by rw [HQ.out, a1, a2, a3, a4]; rfl), HB.out⟩
        have HQ4 : Hid (plainL n.data.toList v.data.toList = (sb && formL v.data.toList)) := by
          show _ = _
          rw [HQ.out, a1, a2, a3, a4]; rfl
        clear HQ
        go_wp2_with fail
        refine (split_one v 59 hsz _).mono ?_
        rintro e w2 ⟨ps, rfl, hpl, hw2, HPS⟩
        have hh : (splitL 59 v.data.toList).head? = some (cutL 59 v.data.toList).1 := head_split 59 _
        obtain ⟨p, r, rfl⟩ : ∃ p r, ps = p :: r := by
          cases ps with
          | nil => rw [← HPS.out] at hh; cases hh
          | cons p r => exact ⟨p, r, rfl⟩
        have HC : Hid ((cutL 59 v.data.toList).1 = p.data.toList) := by
          rw [← HPS.out] at hh
          injection hh with hh
          exact hh.symm
        have hps : p.size ≤ 4000 := by
          have h1 : ∀ l : List UInt8, (cutL 59 l).1.length ≤ l.length := by
            intro l
            induction l with
            | nil => simp [cutL]
            | cons b t ih => unfold cutL; split <;> simp; omega
          have h2 := h1 v.data.toList
          rw [HC.out] at h2
          have e1 : p.data.toList.length = p.size := Array.length_toList
          have e2 : v.data.toList.length = v.size := Array.length_toList
          omega
        have hp0 : w2.cell? ⟨w1.heap.size, 0, none⟩ = some (.string p) := by
          rw [hw2]
          exact cellsP8 w1 _ 9 0
        have HB2 : Hid (Below w.heap.size w w2) := by
          show Below _ _ _
          rw [hw2]
          exact HB.out.alloc HB.out.size _
        have hp1 : 0 < (p :: r).length := by simp
        have hp2 : (0 : Int) < (((p :: r).length : Nat) : Int) := by omega
        clear hw2 HPS hh x0 x1
        generalize (p :: r).length = m at hpl hp1 hp2 ⊢
        go_wp2_with fail
        refine (trimBoth_any p (by omega) _).mono ?_
        rintro e w3 ⟨t, rfl, HTR, ht, hb3⟩
        have HB3 : Hid (Below w.heap.size w w3) := HB2.out.trans (hb3.mono HB2.out.size)
        clear hb3
        obtain ⟨y, HY⟩ : ∃ y : ByteArray, Hid (bs (t.data.toList.map low) = y) := ⟨_, rfl⟩
        have htz : t.size ≤ 4000 := by omega
        have HF : Hid (formL v.data.toList = (y.toList == formA || (y.toList == formB || y.toList == formC))) := by
          show _ = _
          have hk : kindL v.data.toList = y.toList := by
            unfold kindL
            rw [HC.out, ← HTR.out, ByteArray.toList_eq, ← HY.out, bs_data]
          unfold formL
          rw [hk]
        unfold formA formB formC at HF
        go_wp2_with fail
        refine (refLower_any t _ htz).mono ?_
        rintro e w4 ⟨rfl, hb4⟩
        have HB4 : Hid (Below w.heap.size w w4) := HB3.out.trans (hb4.mono HB3.out.size)
        clear hb4
        rw [HY.out]
        cases sb
        · go_wp2
          go_ret
          exact ⟨ret_bool (by rw [HQ4.out]; rfl), HB4.out⟩
        · go_wp2
          all_goals
            go_ret
            exact ⟨ret_bool (by rw [HQ4.out, HF.out, Bool.true_and]; first | exact Bool.or_assoc _ _ _ | simp [*]), HB4.out⟩
  · have hlz : (128 : Int) < (v.size : Int) := by omega
    have HP : Hid (plainL n.data.toList v.data.toList = false) := by
      show _ = _
      unfold plainL
      rw [hlv, decide_eq_false hl, Bool.false_and]
    go_enter Tryd.func13, Tryd.ntmps13
    go_wp2
    go_ret
    exact ⟨ret_bool (by rw [HP.out]), hb0⟩
end Go.Proofs.YtbhnaekkjpcafaaDoor
