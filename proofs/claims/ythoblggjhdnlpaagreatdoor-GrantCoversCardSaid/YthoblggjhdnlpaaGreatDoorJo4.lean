/- Texts of one claim, joined: each begins with what it proves. -/
import Derived.Test.YthoblggjhdnlpaaGreatDoorJo2
import Derived.Test.YthoblggjhdnlpaaGreatDoorJo3
import Derived.Test.YthoblggjhdnlpaaGreatDoorJo1
import Derived.Deep.LoopGhost
import Derived.Deep.QuietTactic
import Derived.BigQuiet
import Derived.Deep.Cut
import Derived.Deep.CutRange
import Derived.Deep.DeepCutAuto
import Derived.Shelf.Strings.Split
/- The library's functions over a row of passes that lies somewhere. -/
namespace Go.Proofs.YthoblggjhdnlpaaGreatDoor
open Go.RowKit

/-- A function that says whether a pass is of a kind, at these, and what it holds. -/
structure KindQ (K : Nat) (lb : Array Value) (f : PsV → Bool) (ps : List PsV) (w : World) : Prop where
  says : ∀ p ∈ ps, ∀ W : World, Below w.heap.size w W → Calls Tryz.prog K (#[.agg #[.bool p.fs, .string p.fh, .int .i64 p.fp, .bool p.us, .string p.uh, .int .i64 p.up, .string p.pa, .string p.qu, .bool p.wi, .string p.me, .string p.he, .int .i64 p.un]] ++ lb) W fun e w' => e = .returned (.bool (f p)) ∧ Below W.heap.size W w'
  enters : ∀ (args : Array Value) (W : World), (callFunc K args).run Tryz.prog W = .ok (.enter K args) W
set_option maxRecDepth 100000 in
set_option maxHeartbeats 4000000 in
theorem indexQ_any (K : Nat) (lb : Array Value) (f : PsV → Bool) (ps : List PsV) (w : World) (hK : KindQ K lb f ps w) (a0 : Option Addr) (len cap b off : Nat) (hlen : len ≤ 1000000) (hx : Pss w a0 len b off ps) :
    Calls Tryz.prog 47 #[.slice a0 len cap, .func (.func K) #[] lb] w fun e w' => (∃ r : Int, e = .returned (.int .i64 r) ∧ Hid (decide (0 ≤ r) = ps.any f)) ∧ Below w.heap.size w w' := by
  have HX : Hid (Pss w a0 len b off ps) := hx
  have hl := hx.len_eq
  have HL : Hid (ps.length = len) := hl
  have HK0 : Hid (KindQ K lb f ps w) := hK
  have hen := hK.enters
  clear hK hx hl
  go_enter Tryz.func47, Tryz.ntmps47
  go_wp2
  go_loopw [8] (fun i wr => ∃ (k : Nat), k ≤ len ∧ i = .int .i64 k ∧ Hid ((ps.take k).any f = false) ∧ Hid (Below w.heap.size w wr)) (fun i _ => len - (intOf i).toNat)
  case atStart => exact ⟨0, Nat.zero_le _, rfl, rfl, Below.refl _ _⟩
  case round =>
    obtain ⟨k, hk, rfl, HK, HB⟩ := hrel
    by_cases hlt : k < len
    · have hltz : (k : Int) < (len : Int) := by omega
      obtain ⟨p, hp⟩ : ∃ p, ps[k]? = some p := ⟨ps[k]'(by have := HL.out; omega), List.getElem?_eq_getElem (by have := HL.out; omega)⟩
      have HPK : Hid (ps[k]? = some p) := hp
      have HM : Hid (p ∈ ps) := List.mem_of_getElem? hp
      obtain ⟨ha0, _⟩ := HX.out.lies (by omega)
      subst ha0
      obtain ⟨c0, c1, c2, c3, c4, c5, c6, c7, c8, c9, c10, c11⟩ := (HX.out.below HB.out).all hp
      have hsay := HK0.out.says p HM.out wr HB.out
      clear hp
      obtain ⟨q, HF⟩ : ∃ q, Hid (f p = q) := ⟨_, rfl⟩
      rw [HF.out] at hsay
      obtain ⟨xfs, xfh, xfp, xus, xuh, xup, xpa, xqu, xwi, xme, xhe, xun⟩ := p
      have HSAY : Hid (Calls Tryz.prog K (#[.agg #[.bool xfs, .string xfh, .int .i64 xfp, .bool xus, .string xuh, .int .i64 xup, .string xpa, .string xqu, .bool xwi, .string xme, .string xhe, .int .i64 xun]] ++ lb) wr fun e w' => e = .returned (.bool q) ∧ Below wr.heap.size wr w') := hsay
      clear hsay
      simp only at c0 c1 c2 c3 c4 c5 c6 c7 c8 c9 c10 c11
      cases q
      · have HS : Hid ((ps.take (k + 1)).any f = false) := take_any HK.out HPK.out HF.out
        go_wp2_with fail
        refine HSAY.out.mono ?_
        rintro e w' ⟨rfl, hb'⟩
        have HB2 : Hid (Below w.heap.size w w') := HB.out.trans (hb'.mono HB.out.size)
        clear hb'
        go_wp2
        go_roundw
        case rel => exact ⟨k + 1, by omega, by go_num, HS, HB2⟩
        case measure => simp [intOf]; omega
      · have HS : Hid (ps.any f = true) := List.any_eq_true.2 ⟨_, HM.out, HF.out⟩
        go_wp2_with fail
        refine HSAY.out.mono ?_
        rintro e w' ⟨rfl, hb'⟩
        have HB2 : Hid (Below w.heap.size w w') := HB.out.trans (hb'.mono HB.out.size)
        clear hb'
        go_wp2
        go_ret
        exact ⟨⟨_, rfl, by show _ = _; rw [HS.out]; exact decide_eq_true (Int.natCast_nonneg _)⟩, HB2.out⟩
    · have hltz : ¬ (k : Int) < (len : Int) := by omega
      have HS : Hid (ps.any f = false) := by
        have := HK.out
        rw [List.take_of_length_le (by have := HL.out; omega)] at this
        exact this
      go_wp2
      go_ret
      exact ⟨⟨_, rfl, by show _ = _; rw [HS.out]; rfl⟩, HB.out⟩
theorem containsQ_any (K : Nat) (lb : Array Value) (f : PsV → Bool) (ps : List PsV) (w : World) (hK : KindQ K lb f ps w) (a0 : Option Addr) (len cap b off : Nat) (hlen : len ≤ 1000000) (hx : Pss w a0 len b off ps) :
    Calls Tryz.prog 24 #[.slice a0 len cap, .func (.func K) #[] lb] w fun e w' => e = .returned (.bool (ps.any f)) ∧ Below w.heap.size w w' := by
  go_enter Tryz.func24, Tryz.ntmps24
  go_wp2_with (go_at_call 47; refine (indexQ_any K lb f ps w hK a0 len cap b off hlen hx).mono ?_; rintro e w'' ⟨⟨r, rfl, HR⟩, hb⟩)
  go_ret
  exact ⟨ret_bool HR.out, hb⟩
end Go.Proofs.YthoblggjhdnlpaaGreatDoor

/- Which headers must be asked for, by the program: the walk. -/
namespace Go.Proofs.YthoblggjhdnlpaaGreatDoor
open Go.RowKit Go.Shelf

/-- The headers are small, and few. -/
def Small8 (ps : List Par) : Prop := ∀ p ∈ ps, p.1.size ≤ 3000 ∧ p.2.size ≤ 3000
def AskInv (w : World) (ps : List Par) (k : Nat) (u v : Value) (W : World) : Prop :=
  Two W w.heap.size u v (notPlain (ps.take k)) (arePlain (ps.take k)) ∧ Below w.heap.size w W
theorem OwnS.slice {w : World} {B : Nat} {v : Value} {xs : List ByteArray} (h : OwnS w B v xs) : ∃ a cap, v = .slice a xs.length cap := by
  obtain ⟨a, cap, _, e, _⟩ := h.strs
  exact ⟨a, cap, e⟩
set_option maxRecDepth 100000 in
set_option maxHeartbeats 8000000 in
theorem asked8_any (ps : List Par) (hps : Small8 ps) (a0 : Option Addr) (len cap b off : Nat) (hlen : len ≤ 60) (w : World) (hx : Pars w a0 len b off ps) :
    Calls Tryz.prog 25 #[.slice a0 len cap] w fun e w' => (∃ v, e = .returned v ∧ OwnS w' w.heap.size v (askedL ps)) ∧ Below w.heap.size w w' := by
  have HX : Hid (Pars w a0 len b off ps) := hx
  have HP : Hid (Small8 ps) := hps
  have HL : Hid (ps.length = len) := hx.len_eq
  clear hx hps
  go_enter Tryz.func25, Tryz.ntmps25
  go_wp2
  go_loopw [3, 4, 5, 11] (fun su sv t i wr => ∃ (k : Nat) (tg : Nat) (u v : Value), k ≤ len ∧ u = su ∧ v = sv ∧ i = .int .i64 k ∧ t = .int .i64 tg ∧ tg ≤ 10000 ∧ Hid (tg = together (ps.take k)) ∧ Hid (AskInv w ps k u v wr)) (fun _ _ _ i _ => len - (intOf i).toNat)
  case atStart => exact ⟨0, 0, _, _, Nat.zero_le _, rfl, rfl, rfl, rfl, by omega, rfl, ⟨⟨ownS_nil _ _, ownS_nil _ _, fun k h => by cases h⟩, Below.refl _ _⟩⟩
  case round =>
    obtain ⟨k, tg, u, v, hk, rfl, rfl, rfl, rfl, htg, HT, HI⟩ := hrel
    by_cases hlt : k < len
    · have hltz : (k : Int) < (len : Int) := by omega
      obtain ⟨p, hp⟩ : ∃ p, ps[k]? = some p := ⟨ps[k]'(by have := HL.out; omega), List.getElem?_eq_getElem _⟩
      obtain ⟨pn, pv⟩ := p
      have HPK : Hid (ps[k]? = some (pn, pv)) := hp
      have hpz := HP.out _ (List.mem_of_getElem? hp)
      have hpz1 : pn.size ≤ 3000 := hpz.1
      have hpz2 : pv.size ≤ 3000 := hpz.2
      obtain ⟨ha0, _⟩ := HX.out.lies (by omega)
      subst ha0
      have hXr := HX.out.below HI.out.2
      have c1 : wr.cell? ⟨b, off + k * 2, none⟩ = some (.string pn) := hXr.one k _ hp
      have c2 : wr.cell? ⟨b, off + k * 2 + 1, none⟩ = some (.string pv) := hXr.two k _ hp
      have HW0 : Hid (∀ w', Below (wr.alloc (.cells #[.string pn, .string pv] 48)).heap.size (wr.alloc (.cells #[.string pn, .string pv] 48)) w' → AskInv w ps k u v w' ∧ w'.heap[wr.heap.size]? = some (.cells #[.string pn, .string pv] 48 (0, 0))) := fun w' hb => by
        have hb0 : Below wr.heap.size wr (wr.alloc (.cells #[.string pn, .string pv] 48)) := (Below.refl _ _).alloc (Nat.le_refl _) _
        have hb1 : Below wr.heap.size wr w' := hb0.trans (hb.mono (by simp))
        exact ⟨⟨HI.out.1.below hb1, HI.out.2.trans (hb1.mono HI.out.2.size)⟩, (hb.block _ (by simp)).trans (heap_alloc_new wr _)⟩
      obtain ⟨x, HN⟩ : ∃ x : ByteArray, Hid (bs (pn.data.toList.map low) = x) := ⟨_, rfl⟩
      have HVB : Hid ((∀ j, u.ownBlock = some j → j < wr.heap.size) ∧ (∀ j, v.ownBlock = some j → j < wr.heap.size)) := ⟨fun j h => (HI.out.1.one.lt j h).2, fun j h => (HI.out.1.two.lt j h).2⟩
      clear hp hpz hXr HI
      go_wp2_with fail
      refine (lower_any pn _ (by omega)).mono ?_
      rintro e w1 ⟨rfl, hb1⟩
      rw [HN.out]
      have HW1 : Hid (AskInv w ps k u v w1 ∧ w1.heap[wr.heap.size]? = some (.cells #[.string pn, .string pv] 48 (0, 0))) := HW0.out _ hb1
      clear hb1 HW0 c1 c2
      obtain ⟨x0, x1, _⟩ := two_at HW1.out.2
      obtain ⟨q, HQ⟩ : ∃ q, Hid (plainL pn.data.toList pv.data.toList = q) := ⟨_, rfl⟩
      go_wp2_with fail
      refine (plain_any pn pv (by omega) (by omega) _).mono ?_
      rintro e w2 ⟨rfl, hb2⟩
      rw [HQ.out]
      have HW2 : Hid (AskInv w ps k u v w2 ∧ w2.heap[wr.heap.size]? = some (.cells #[.string pn, .string pv] 48 (0, 0))) := ⟨⟨HW1.out.1.1.below hb2, HW1.out.1.2.trans (hb2.mono HW1.out.1.2.size)⟩, (hb2.block _ (Array.getElem?_eq_some_iff.1 HW1.out.2).1).trans HW1.out.2⟩
      clear hb2 x0 x1 HW1
      have hlens : (notPlain (ps.take k)).length + (arePlain (ps.take k)).length ≤ 60 := by
        have h1 := lens_le (ps.take k)
        have h2 : (ps.take k).length ≤ k := List.length_take_le _ _
        omega
      obtain ⟨au, cu, rfl⟩ := HW2.out.1.1.one.slice
      obtain ⟨av, cv, rfl⟩ := HW2.out.1.1.two.slice
      obtain ⟨nu, HNU⟩ : ∃ n, Hid ((notPlain (ps.take k)).length = n) := ⟨_, rfl⟩
      obtain ⟨nv, HNV⟩ : ∃ n, Hid ((arePlain (ps.take k)).length = n) := ⟨_, rfl⟩
      rw [HNU.out, HNV.out] at hlens
      rw [HNU.out, HNV.out] at HW2 HVB ⊢
      cases q
      · have HS := notPlain_no ps k _ HPK.out HQ.out
        have HNX : Hid (lowN (pn, pv) = x) := HN.out
        go_wp2_with (at_builtin; refine wp_app2 rfl _ _ rfl w.heap.size w2 (.slice au nu cu) (.slice av nv cv) _ _ nu rfl HW2.out.1.1 HNU.out (by omega) HW2.out.1.2.size x rfl ?_; intro g4 cap4 w4 hown4 hb4 hk4; have HW4 : Hid (Two w4 w.heap.size (.slice (some ⟨g4, 0, none⟩) (nu + 1) cap4) (.slice av nv cv) (notPlain (ps.take k) ++ [x]) (arePlain (ps.take k)) ∧ Below w.heap.size w w4) := ⟨hown4, HW2.out.1.2.trans hb4⟩; clear hown4 hb4 hk4)
        go_roundw
        case rel => exact ⟨k + 1, tg, _, _, by omega, rfl, rfl, by go_num, rfl, htg, by rw [HS.2.2]; exact HT, ⟨by rw [HS.1, HS.2.1, HNX.out]; exact HW4.out.1, HW4.out.2⟩⟩
        case measure => simp [intOf]; omega
      · have HS := notPlain_yes ps k _ HPK.out HQ.out
        have HNX : Hid (lowN (pn, pv) = x) := HN.out
        have htn : tg + pv.size ≤ 10000 := by
          have h1 := together_le (ps.take (k + 1))
          have h2 : (ps.take (k + 1)).length ≤ k + 1 := List.length_take_le _ _
          have h3 := HS.2.2
          have h4 : tg = together (ps.take k) := HT
          simp only at h3
          omega
        go_wp2_with (at_builtin; refine wp_app2 rfl _ _ rfl w.heap.size w2 (.slice av nv cv) (.slice au nu cu) _ _ nv rfl HW2.out.1.1.swap HNV.out (by omega) HW2.out.1.2.size x rfl ?_; intro g4 cap4 w4 hown4 hb4 hk4; have HW4 : Hid (Two w4 w.heap.size (.slice au nu cu) (.slice (some ⟨g4, 0, none⟩) (nv + 1) cap4) (notPlain (ps.take k)) (arePlain (ps.take k) ++ [x]) ∧ Below w.heap.size w w4) := ⟨hown4.swap, HW2.out.1.2.trans hb4⟩; have x1 := (two_at ((hk4 wr.heap.size (Array.getElem?_eq_some_iff.1 HW2.out.2).1 (fun e => Nat.lt_irrefl _ (HVB.out.2 _ e))).trans HW2.out.2)).2.1; clear hown4 hb4 hk4)
        go_roundw
        case rel => exact ⟨k + 1, tg + pv.size, _, _, by omega, rfl, rfl, by go_num, by go_num, htn, by rw [HS.2.2]; show tg + pv.size = _ + pv.size; rw [HT.out], ⟨by rw [HS.1, HS.2.1, HNX.out]; exact HW4.out.1, HW4.out.2⟩⟩
        case measure => simp [intOf]; omega
    · have hltz : ¬ (k : Int) < (len : Int) := by omega
      have HE : Hid (Two wr w.heap.size u v (notPlain ps) (arePlain ps) ∧ Below w.heap.size w wr ∧ tg = together ps) := by
        have h1 := HI.out
        have h2 : tg = together (ps.take k) := HT
        unfold AskInv at h1
        rw [List.take_of_length_le (by have := HL.out; omega)] at h1 h2
        exact ⟨h1.1, h1.2, h2⟩
      have hlens : (notPlain ps).length + (arePlain ps).length ≤ 60 := by
        have h1 := lens_le ps
        have := HL.out
        omega
      clear HI HT
      obtain ⟨au, cu, rfl⟩ := HE.out.1.one.slice
      obtain ⟨av, cv, rfl⟩ := HE.out.1.two.slice
      obtain ⟨nu, HNU⟩ : ∃ n, Hid ((notPlain ps).length = n) := ⟨_, rfl⟩
      obtain ⟨nv, HNV⟩ : ∃ n, Hid ((arePlain ps).length = n) := ⟨_, rfl⟩
      rw [HNU.out, HNV.out] at hlens
      rw [HNU.out, HNV.out] at HE ⊢
      go_upto_if 35 with fail
      go_cut [3] (fun s3 wc => ∃ u' : Value, u' = s3 ∧ Hid (OwnS wc w.heap.size u' (askedNames ps) ∧ Below w.heap.size w wc))
      case first =>
        by_cases hbig : 1024 < tg
        · have hbz : (1024 : Int) < (tg : Int) := by omega
          have HN : Hid (askedNames ps = notPlain ps ++ arePlain ps) := by
            show _ = _
            unfold askedNames
            rw [if_pos (by rw [← HE.out.2.2]; exact hbig)]
          have hn0 : 0 < nv := by
            rcases Nat.eq_zero_or_pos nv with h0 | h0
            · have h1 := together_none ps (by rw [HNV.out]; exact h0)
              have h2 := HE.out.2.2
              omega
            · exact h0
          go_wp2_with (at_builtin; refine wp_appAll rfl _ _ rfl w.heap.size wr (.slice au nu cu) (.slice av nv cv) _ _ nu nv rfl rfl HE.out.1 HNU.out HNV.out hn0 (by omega) HE.out.2.1.size ?_; intro g4 cap4 w4 hown4 hb4; have HW4 : Hid (OwnS w4 w.heap.size (.slice (some ⟨g4, 0, none⟩) (nu + nv) cap4) (notPlain ps ++ arePlain ps) ∧ Below w.heap.size w w4) := ⟨hown4, HE.out.2.1.trans hb4⟩; clear hown4 hb4)
          go_meet
          exact ⟨_, rfl, by rw [HN.out]; exact HW4⟩
        · have hbz : ¬ (1024 : Int) < (tg : Int) := by omega
          have HN : Hid (askedNames ps = notPlain ps) := by
            show _ = _
            unfold askedNames
            rw [if_neg (by rw [← HE.out.2.2]; exact hbig)]
          go_wp2
          go_meet
          exact ⟨_, rfl, by rw [HN.out]; exact ⟨HE.out.1.one, HE.out.2.1⟩⟩
      case rest =>
      obtain ⟨u', rfl, HC⟩ := hcut
      have hal : (askedNames ps).length ≤ 1000000 := by
        unfold askedNames
        split
        · rw [List.length_append, HNU.out, HNV.out]; omega
        · rw [HNU.out]; omega
      clear HE hlens
      go_wp2_with fail
      refine (sort_own _ w.heap.size u' _ HC.out.1 hal).mono ?_
      rintro e w5 ⟨rfl, hown5, hg5⟩
      have HW5 : Hid (OwnS w5 w.heap.size u' ((sortL (tx (askedNames ps))).map bs) ∧ Below w.heap.size w w5) := ⟨hown5, HC.out.2.grown hg5 HC.out.2.size (fun j hj => (HC.out.1.lt j hj).1)⟩
      clear hown5 hg5
      go_wp2_with fail
      refine (compact_own _ w.heap.size u' _ HW5.out.1 (by rw [List.length_map, sortL_len]; unfold tx; rw [List.length_map]; exact hal)).mono ?_
      rintro e w6 ⟨⟨v6, rfl, hown6⟩, hg6⟩
      have HW6 : Hid (OwnS w6 w.heap.size v6 (askedL ps) ∧ Below w.heap.size w w6) := by
        rw [tx_bs] at hown6
        exact ⟨hown6, HW5.out.2.grown hg6 HW5.out.2.size (fun j hj => (HW5.out.1.lt j hj).1)⟩
      clear hown6 hg6
      go_wp2
      go_ret
      exact ⟨⟨v6, rfl, HW6.out.1⟩, HW6.out.2⟩
end Go.Proofs.YthoblggjhdnlpaaGreatDoor

/- Covers: whether passes allow a request, by the program. -/
namespace Go.Proofs.YthoblggjhdnlpaaGreatDoor
open Go.RowKit

set_option maxRecDepth 100000 in
set_option maxHeartbeats 2000000 in
theorem allowsM (p : PsV) (gm gr : Nat) (m : ByteArray) (wi : Bool) (w : World) (h1 : w.cell? ⟨gm, 0, none⟩ = some (.string m)) (h2 : w.cell? ⟨gr, 11, none⟩ = some (.bool wi)) :
    Calls Tryz.prog 22 #[.agg #[.bool p.fs, .string p.fh, .int .i64 p.fp, .bool p.us, .string p.uh, .int .i64 p.up, .string p.pa, .string p.qu, .bool p.wi, .string p.me, .string p.he, .int .i64 p.un], .pointer (some ⟨gm, 0, none⟩), .pointer (some ⟨gr, 0, none⟩)] w fun e w' => e = .returned (.bool (okM wi m p)) ∧ Below w.heap.size w w' := by
  have HB : Hid (BoxQ 39 w #[.bool p.fs, .string p.fh, .int .i64 p.fp, .bool p.us, .string p.uh, .int .i64 p.up, .string p.pa, .string p.qu, .bool p.wi, .string p.me, .string p.he, .int .i64 p.un] (w.alloc (.cells #[.bool p.fs, .string p.fh, .int .i64 p.fp, .bool p.us, .string p.uh, .int .i64 p.up, .string p.pa, .string p.qu, .bool p.wi, .string p.me, .string p.he, .int .i64 p.un] 39))) := BoxQ.new _ _ _
  have h1' : (w.alloc (.cells #[.bool p.fs, .string p.fh, .int .i64 p.fp, .bool p.us, .string p.uh, .int .i64 p.up, .string p.pa, .string p.qu, .bool p.wi, .string p.me, .string p.he, .int .i64 p.un] 39)).cell? ⟨gm, 0, none⟩ = some (.string m) := (HB.out.bel.cell (p := ⟨gm, 0, none⟩) (lt_cell9 h1)).trans h1
  have h2' : (w.alloc (.cells #[.bool p.fs, .string p.fh, .int .i64 p.fp, .bool p.us, .string p.uh, .int .i64 p.up, .string p.pa, .string p.qu, .bool p.wi, .string p.me, .string p.he, .int .i64 p.un] 39)).cell? ⟨gr, 11, none⟩ = some (.bool wi) := (HB.out.bel.cell (p := ⟨gr, 11, none⟩) (lt_cell9 h2)).trans h2
  have c9 := HB.out.at 9 _ rfl
  obtain ⟨q, HQ⟩ : ∃ q, Hid ((p.me.toList == m.toList) = q) := ⟨_, rfl⟩
  obtain ⟨r, HR⟩ : ∃ r, Hid ((p.me.toList == [42]) = r) := ⟨_, rfl⟩
  have q1 : (p.me.toList == m.toList) = q := HQ.out
  have r1 : (p.me.toList == [42]) = r := HR.out
  have HA : Hid (okM wi m p = (q || (r && !wi))) := by show _ = _; unfold okM; rw [q1, r1]
  clear h1 h2
  go_enter Tryz.func22, Tryz.ntmps22
  cases q
  · cases r
    · go_wp2
      go_ret
      exact ⟨ret_bool (by rw [HA.out]; rfl), HB.out.bel⟩
    · go_wp2
      go_ret
      exact ⟨ret_bool (by rw [HA.out]; simp), HB.out.bel⟩
  · go_wp2
    go_ret
    exact ⟨ret_bool (by rw [HA.out]; rfl), HB.out.bel⟩
set_option maxRecDepth 100000 in
set_option maxHeartbeats 2000000 in
theorem allowsH (p : PsV) (gm gr : Nat) (n : ByteArray) (wi : Bool) (w : World) (h1 : w.cell? ⟨gm, 0, none⟩ = some (.string n)) (h2 : w.cell? ⟨gr, 11, none⟩ = some (.bool wi)) :
    Calls Tryz.prog 26 #[.agg #[.bool p.fs, .string p.fh, .int .i64 p.fp, .bool p.us, .string p.uh, .int .i64 p.up, .string p.pa, .string p.qu, .bool p.wi, .string p.me, .string p.he, .int .i64 p.un], .pointer (some ⟨gm, 0, none⟩), .pointer (some ⟨gr, 0, none⟩)] w fun e w' => e = .returned (.bool (okH wi n p)) ∧ Below w.heap.size w w' := by
  have HB : Hid (BoxQ 39 w #[.bool p.fs, .string p.fh, .int .i64 p.fp, .bool p.us, .string p.uh, .int .i64 p.up, .string p.pa, .string p.qu, .bool p.wi, .string p.me, .string p.he, .int .i64 p.un] (w.alloc (.cells #[.bool p.fs, .string p.fh, .int .i64 p.fp, .bool p.us, .string p.uh, .int .i64 p.up, .string p.pa, .string p.qu, .bool p.wi, .string p.me, .string p.he, .int .i64 p.un] 39))) := BoxQ.new _ _ _
  have h1' : (w.alloc (.cells #[.bool p.fs, .string p.fh, .int .i64 p.fp, .bool p.us, .string p.uh, .int .i64 p.up, .string p.pa, .string p.qu, .bool p.wi, .string p.me, .string p.he, .int .i64 p.un] 39)).cell? ⟨gm, 0, none⟩ = some (.string n) := (HB.out.bel.cell (p := ⟨gm, 0, none⟩) (lt_cell9 h1)).trans h1
  have h2' : (w.alloc (.cells #[.bool p.fs, .string p.fh, .int .i64 p.fp, .bool p.us, .string p.uh, .int .i64 p.up, .string p.pa, .string p.qu, .bool p.wi, .string p.me, .string p.he, .int .i64 p.un] 39)).cell? ⟨gr, 11, none⟩ = some (.bool wi) := (HB.out.bel.cell (p := ⟨gr, 11, none⟩) (lt_cell9 h2)).trans h2
  have c10 := HB.out.at 10 _ rfl
  obtain ⟨q, HQ⟩ : ∃ q, Hid ((p.he.toList == n.toList) = q) := ⟨_, rfl⟩
  obtain ⟨r, HR⟩ : ∃ r, Hid ((p.he.toList == [42]) = r) := ⟨_, rfl⟩
  have q1 : (p.he.toList == n.toList) = q := HQ.out
  have r1 : (p.he.toList == [42]) = r := HR.out
  have HA : Hid (okH wi n p = (q || (r && !wi && !(n.toList == [97, 117, 116, 104, 111, 114, 105, 122, 97, 116, 105, 111, 110])))) := by show _ = _; unfold okH; rw [q1, r1]
  clear h1 h2
  go_enter Tryz.func26, Tryz.ntmps26
  cases q
  · cases r
    · go_wp2
      go_ret
      exact ⟨ret_bool (by rw [HA.out]; rfl), HB.out.bel⟩
    · cases wi
      · go_wp2
        go_ret
        exact ⟨ret_bool (by rw [HA.out]; simp), HB.out.bel⟩
      · go_wp2
        go_ret
        exact ⟨ret_bool (by rw [HA.out]; rfl), HB.out.bel⟩
  · go_wp2
    go_ret
    exact ⟨ret_bool (by rw [HA.out]; rfl), HB.out.bel⟩
theorem kindM (ps : List PsV) (gm gr : Nat) (m : ByteArray) (wi : Bool) (w : World) (h1 : w.cell? ⟨gm, 0, none⟩ = some (.string m)) (h2 : w.cell? ⟨gr, 11, none⟩ = some (.bool wi)) :
    KindQ 22 #[.pointer (some ⟨gm, 0, none⟩), .pointer (some ⟨gr, 0, none⟩)] (okM wi m) ps w :=
  ⟨fun p _ W hW => allowsM p gm gr m wi W ((hW.cell (p := ⟨gm, 0, none⟩) (lt_cell9 h1)).trans h1) ((hW.cell (p := ⟨gr, 11, none⟩) (lt_cell9 h2)).trans h2), enters_at Tryz.func22 (by kernel_rfl) rfl⟩
theorem kindH (ps : List PsV) (gm gr : Nat) (n : ByteArray) (wi : Bool) (w : World) (h1 : w.cell? ⟨gm, 0, none⟩ = some (.string n)) (h2 : w.cell? ⟨gr, 11, none⟩ = some (.bool wi)) :
    KindQ 26 #[.pointer (some ⟨gm, 0, none⟩), .pointer (some ⟨gr, 0, none⟩)] (okH wi n) ps w :=
  ⟨fun p _ W hW => allowsH p gm gr n wi W ((hW.cell (p := ⟨gm, 0, none⟩) (lt_cell9 h1)).trans h1) ((hW.cell (p := ⟨gr, 11, none⟩) (lt_cell9 h2)).trans h2), enters_at Tryz.func26 (by kernel_rfl) rfl⟩
set_option maxRecDepth 100000 in
set_option maxHeartbeats 8000000 in
theorem covers9_any (hs : List Par) (hps : Small8 hs) (ra : Option Addr) (rl rc rb ro : Nat) (hrl : rl ≤ 60) (pt fp up : Int) (fs us wi : Bool) (fh uh pa qu me bo : ByteArray) (hme : me.size ≤ 3000)
    (ps : List PsV) (a0 : Option Addr) (len cap b off : Nat) (hlen : len ≤ 1000000) (w : World) (hm : Methods w) (hh : Pars w ra rl rb ro hs) (hx : Pss w a0 len b off ps) :
    Calls Tryz.prog 11 #[.agg #[.int .i64 pt, .bool fs, .string fh, .int .i64 fp, .bool us, .string uh, .int .i64 up, .string pa, .string qu, .string me, .slice ra rl rc, .bool wi, .string bo], .slice a0 len cap] w fun e w' => e = .returned (.bool (coversL wi (methodB me) (askedL hs) ps)) ∧ Below w.heap.size w w' := by
  have HQ : Hid (BoxQ 28 w #[.int .i64 pt, .bool fs, .string fh, .int .i64 fp, .bool us, .string uh, .int .i64 up, .string pa, .string qu, .string me, .slice ra rl rc, .bool wi, .string bo] (w.alloc (.cells #[.int .i64 pt, .bool fs, .string fh, .int .i64 fp, .bool us, .string uh, .int .i64 up, .string pa, .string qu, .string me, .slice ra rl rc, .bool wi, .string bo] 28))) := BoxQ.new _ _ _
  have HX : Hid (Pss w a0 len b off ps) := hx
  have HH : Hid (Pars w ra rl rb ro hs) := hh
  have HPS : Hid (Small8 hs) := hps
  have hmc := method_any me hme _ (hm.below HQ.out.bel (Nat.le_refl _))
  obtain ⟨m, HM⟩ : ∃ m, Hid (methodB me = m) := ⟨_, rfl⟩
  rw [HM.out] at hmc
  rw [HM.out]
  obtain ⟨xs, HXS⟩ : ∃ xs, Hid (askedL hs = xs) := ⟨_, rfl⟩
  rw [HXS.out]
  have hxl : xs.length ≤ 60 := by
    rw [← HXS.out]
    unfold askedL
    rw [List.length_map]
    have h1 := compact_len (sortL (tx (askedNames hs)))
    have h2 : (tx (askedNames hs)).length = (askedNames hs).length := by unfold tx; simp
    rw [sortL_len, h2] at h1
    have h3 := lens_le hs
    have h4 : (askedNames hs).length ≤ hs.length := by
      unfold askedNames
      split
      · rw [List.length_append]; omega
      · omega
    have := hh.len_eq
    omega
  clear hx hh hps hm
  have c9 := HQ.out.at 9 _ rfl
  go_enter Tryz.func11, Tryz.ntmps11
  go_wp2_with fail
  refine hmc.mono ?_
  rintro e w1 ⟨rfl, hb1⟩
  have HQ1 : Hid (BoxQ 28 w #[.int .i64 pt, .bool fs, .string fh, .int .i64 fp, .bool us, .string uh, .int .i64 up, .string pa, .string qu, .string me, .slice ra rl rc, .bool wi, .string bo] w1) := HQ.out.step hb1
  have HB2 : Hid (Below w1.heap.size w1 (w1.alloc (.cells #[.string m] 9))) := (Below.refl _ _).alloc (Nat.le_refl _) _
  have HQ2 : Hid (BoxQ 28 w #[.int .i64 pt, .bool fs, .string fh, .int .i64 fp, .bool us, .string uh, .int .i64 up, .string pa, .string qu, .string me, .slice ra rl rc, .bool wi, .string bo] (w1.alloc (.cells #[.string m] 9))) := HQ1.out.step HB2.out
  have cm : (w1.alloc (.cells #[.string m] 9)).cell? ⟨w1.heap.size, 0, none⟩ = some (.string m) := World.cell?_alloc_mark _ _ _ _ _
  have HCM : Hid ((w1.alloc (.cells #[.string m] 9)).cell? ⟨w1.heap.size, 0, none⟩ = some (.string m)) := cm
  have hlt1 := HQ1.out.lt
  clear hmc hb1 c9 HQ HQ1
  obtain ⟨z, HZ⟩ : ∃ z, Hid (simpleL m.toList = z) := ⟨_, rfl⟩
  have hsm := fun W => simple_any m W
  rw [HZ.out] at hsm
  have HW2 : Hid (Below w.heap.size w (w1.alloc (.cells #[.string m] 9))) := HQ2.out.bel
  have HCT : Hid (∀ (K : Nat) (lb : Array Value) (f : PsV → Bool) (W : World), Below w.heap.size w W → KindQ K lb f ps W → Calls Tryz.prog 24 #[.slice a0 len cap, .func (.func K) #[] lb] W fun e w' => e = .returned (.bool (ps.any f)) ∧ Below W.heap.size W w') :=
    fun K lb f W hW hk => containsQ_any K lb f ps W hk a0 len cap b off hlen (HX.out.below hW)
  obtain ⟨u, HU⟩ : ∃ u, Hid (ps.any (okM wi m) = u) := ⟨_, rfl⟩
  go_upto_region 3 with fail
  generalize hW : w1.alloc (.cells #[.string m] 9) = W2 at HB2 HQ2 HCM HW2 cm ⊢
  have HG : Hid (w1.heap.size < W2.heap.size) := by show _ < _; rw [← hW]; simp
  obtain ⟨gm, HGM⟩ : ∃ gm, Hid (w1.heap.size = gm) := ⟨_, rfl⟩
  rw [HGM.out] at HCM HG cm hlt1 ⊢
  clear hW
  have HKM : Hid (∀ W, Below W2.heap.size W2 W → KindQ 22 #[.pointer (some ⟨gm, 0, none⟩), .pointer (some ⟨w.heap.size, 0, none⟩)] (okM wi m) ps W) := fun W hW =>
    kindM ps gm w.heap.size m wi W ((hW.cell (p := ⟨gm, 0, none⟩) (lt_cell9 HCM.out)).trans HCM.out) ((HQ2.out.step hW).at 11 _ rfl)
  go_cut [22] (fun v wc => v = .bool (!(z || u)) ∧ Hid (Below W2.heap.size W2 wc))
  case first =>
    go_wp2_with fail
    refine (hsm _).mono ?_
    rintro e w3 ⟨rfl, hw3⟩
    obtain rfl := hw3.symm
    cases z
    · go_wp2_with fail
      refine (HCT.out _ _ _ _ HW2.out (HKM.out _ (Below.refl _ _))).mono ?_
      rintro e w4 ⟨rfl, hb4⟩
      rw [HU.out]
      have HB4 : Hid (Below W2.heap.size W2 w4) := hb4
      clear hb4
      go_wp2
      go_meet
      exact ⟨rfl, HB4⟩
    · go_wp2
      go_meet
      exact ⟨rfl, Below.refl _ _⟩
  case rest =>
  obtain ⟨rfl, HBC⟩ := hcut
  clear hsm cm
  have HA : Hid (coversL wi m xs ps = ((z || u) && xs.all fun n => ps.any (okH wi n))) := by show _ = _; unfold coversL; rw [HZ.out, HU.out]
  cases hzu : (z || u)
  · have HE : Hid (coversL wi m xs ps = false) := by show _ = _; rw [HA.out, hzu]; rfl
    have HB4 : Hid (Below w.heap.size w wc) := HQ2.out.inB HBC.out
    go_wp2
    go_ret
    exact ⟨ret_bool HE.out.symm, HB4.out⟩
  have HE : Hid (coversL wi m xs ps = xs.all fun n => ps.any (okH wi n)) := by show _ = _; rw [HA.out, hzu, Bool.true_and]
  clear hzu HA HZ HU HKM HCM
  have HQC : Hid (BoxQ 28 w #[.int .i64 pt, .bool fs, .string fh, .int .i64 fp, .bool us, .string uh, .int .i64 up, .string pa, .string qu, .string me, .slice ra rl rc, .bool wi, .string bo] wc) := HQ2.out.step HBC.out
  have c10 := HQC.out.at 10 _ rfl
  go_wp2_with fail
  refine (asked8_any hs HPS.out ra rl rc rb ro hrl _ (HH.out.below HQC.out.bel)).mono ?_
  rintro e w5 ⟨⟨v, rfl, hown⟩, hb5⟩
  rw [HXS.out] at hown
  obtain ⟨xa, xc, xg, rfl, hst⟩ := hown.strs
  have HQ5 : Hid (BoxQ 28 w #[.int .i64 pt, .bool fs, .string fh, .int .i64 fp, .bool us, .string uh, .int .i64 up, .string pa, .string qu, .string me, .slice ra rl rc, .bool wi, .string bo] w5) := HQC.out.step hb5
  have HS5 : Hid (Strs w5 xa xs.length xg 0 xs) := hst
  clear hown hb5 hst c10 HQC HBC HQ2 HB2
  obtain ⟨n, HN⟩ : ∃ n, Hid (xs.length = n) := ⟨_, rfl⟩
  rw [HN.out] at HS5 hxl ⊢
  go_wp2
  go_loopw [27] (fun i wr => ∃ k : Nat, k ≤ n ∧ i = .int .i64 k ∧ Hid (Below w5.heap.size w5 wr) ∧ Hid (((xs.take k).all fun n => ps.any (okH wi n)) = true)) (fun i _ => n - (intOf i).toNat)
  case atStart => exact ⟨0, Nat.zero_le _, rfl, Below.refl _ _, rfl⟩
  case round =>
    obtain ⟨k, hk, rfl, HBR, HK⟩ := hrel
    by_cases hlt : k < n
    · have hltz : (k : Int) < (n : Int) := by omega
      obtain ⟨x, hx⟩ : ∃ x, xs[k]? = some x := ⟨xs[k]'(by have := HN.out; omega), List.getElem?_eq_getElem _⟩
      have HXK : Hid (xs[k]? = some x) := hx
      obtain ⟨ha, _⟩ := HS5.out.lies (by omega)
      subst ha
      have cx : wr.cell? ⟨xg, k, none⟩ = some (.string x) := by
        have := (HS5.out.below HBR.out).cells k x hx
        rwa [Nat.zero_add] at this
      have HBA : Hid (Below wr.heap.size wr (wr.alloc (.cells #[.string x] 9))) := (Below.refl _ _).alloc (Nat.le_refl _) _
      have cn : (wr.alloc (.cells #[.string x] 9)).cell? ⟨wr.heap.size, 0, none⟩ = some (.string x) := World.cell?_alloc_mark _ _ _ _ _
      have HQA : Hid (BoxQ 28 w #[.int .i64 pt, .bool fs, .string fh, .int .i64 fp, .bool us, .string uh, .int .i64 up, .string pa, .string qu, .string me, .slice ra rl rc, .bool wi, .string bo] (wr.alloc (.cells #[.string x] 9))) := (HQ5.out.step HBR.out).step HBA.out
      have HKH : Hid (KindQ 26 #[.pointer (some ⟨wr.heap.size, 0, none⟩), .pointer (some ⟨w.heap.size, 0, none⟩)] (okH wi x) ps (wr.alloc (.cells #[.string x] 9))) := kindH ps _ _ x wi _ cn (HQA.out.at 11 _ rfl)
      obtain ⟨t, HTT⟩ : ∃ t, Hid (ps.any (okH wi x) = t) := ⟨_, rfl⟩
      clear hx cn
      go_wp2_with fail
      refine (HCT.out _ _ _ _ HQA.out.bel HKH.out).mono ?_
      rintro e w6 ⟨rfl, hb6⟩
      rw [HTT.out]
      have HB6 : Hid (Below w5.heap.size w5 w6) := HBR.out.trans ((HBA.out.trans (hb6.mono HBA.out.size)).mono HBR.out.size)
      clear hb6 cx
      cases t
      · have HEE : Hid (coversL wi m xs ps = false) := by show _ = _; rw [HE.out]; exact not_all HXK.out HTT.out
        go_wp2
        go_ret
        exact ⟨ret_bool HEE.out.symm, HQ5.out.inB HB6.out⟩
      · have HKK : Hid (((xs.take (k + 1)).all fun n => ps.any (okH wi n)) = true) := take_all HK.out HXK.out HTT.out
        go_wp2
        go_roundw
        case rel => exact ⟨k + 1, by omega, by go_num, HB6, HKK⟩
        case measure => simp [intOf]; omega
    · have hltz : ¬ (k : Int) < (n : Int) := by omega
      have HEE : Hid (coversL wi m xs ps = true) := by
        have := HK.out
        rw [List.take_of_length_le (by have := HN.out; omega)] at this
        show _ = _
        rw [HE.out]
        exact this
      go_wp2
      go_ret
      exact ⟨ret_bool HEE.out.symm, HQ5.out.inB HBR.out⟩
end Go.Proofs.YthoblggjhdnlpaaGreatDoor

/- Needs: whether a request must be asked for first, by the program. -/
namespace Go.Proofs.YthoblggjhdnlpaaGreatDoor
open Go.RowKit

def sameO (fs : Bool) (fh : ByteArray) (fp : Int) (us : Bool) (uh : ByteArray) (up : Int) : Bool := fs == us && (fh.toList == uh.toList && fp == up)
theorem eqR9 (a c : Bool) (x y : ByteArray) (n m : Int) (E : Bool) (hE : sameO a x n c y m = E) (w : World) :
    (Op.equalIn 10000 23 (.agg #[.bool a, .string x, .int .i64 n]) (.agg #[.bool c, .string y, .int .i64 m])).run Tryz.prog w = .ok E w := by
  have u3 := Tryz.underlying3
  have u4 := Tryz.underlying4
  have u9 := Tryz.underlying9
  have a3 := Tryz.isAgg3
  have z3 := Tryz.sizeOf3
  have hS : Tryz.prog.underlying 23 = some (.struct (Tryz.prog.fieldsOf 23)) := by kernel_rfl
  have hp : Tryz.prog.stoodInHeld 23 = false := by kernel_rfl
  unfold sameO at hE
  rw [show (10000 : Nat) = 9999 + 1 from rfl, run_equalIn_agg w 9999 23 _ _ hS hp, ← hE]
  simp only [Program.fieldsOf, Tryz.underlying23]
  go_simp
  rw [← hE]
  by_cases h1 : a = c <;> by_cases h2 : x.toList = y.toList <;> by_cases h3 : n = m <;> simp [h1, h2, h3]
set_option maxRecDepth 100000 in
set_option maxHeartbeats 4000000 in
theorem needs9_any (hs : List Par) (hps : Small8 hs) (ra : Option Addr) (rl rc rb ro : Nat) (hrl : rl ≤ 60) (pt fp up : Int) (fs us wi : Bool) (fh uh pa qu me bo : ByteArray) (hme : me.size ≤ 3000)
    (w : World) (hm : Methods w) (hh : Pars w ra rl rb ro hs) :
    Calls Tryz.prog 13 #[.agg #[.int .i64 pt, .bool fs, .string fh, .int .i64 fp, .bool us, .string uh, .int .i64 up, .string pa, .string qu, .string me, .slice ra rl rc, .bool wi, .string bo]] w fun e w' => e = .returned (.bool (!sameO fs fh fp us uh up && !coversL wi (methodB me) (askedL hs) [])) ∧ Below w.heap.size w w' := by
  have HQ : Hid (BoxQ 28 w #[.int .i64 pt, .bool fs, .string fh, .int .i64 fp, .bool us, .string uh, .int .i64 up, .string pa, .string qu, .string me, .slice ra rl rc, .bool wi, .string bo] (w.alloc (.cells #[.int .i64 pt, .bool fs, .string fh, .int .i64 fp, .bool us, .string uh, .int .i64 up, .string pa, .string qu, .string me, .slice ra rl rc, .bool wi, .string bo] 28))) := BoxQ.new _ _ _
  obtain ⟨t, HT⟩ : ∃ t, Hid (coversL wi (methodB me) (askedL hs) [] = t) := ⟨_, rfl⟩
  have hcv := covers9_any hs hps ra rl rc rb ro hrl pt fp up fs us wi fh uh pa qu me bo hme [] none 0 0 0 0 (by decide) _ (hm.below HQ.out.bel (Nat.le_refl _)) (hh.below HQ.out.bel) (pss_nil _)
  rw [HT.out] at hcv
  rw [HT.out]
  obtain ⟨q, HE⟩ : ∃ q, Hid (sameO fs fh fp us uh up = q) := ⟨_, rfl⟩
  have eo := fun W => eqR9 fs us fh uh fp up q HE.out W
  rw [HE.out]
  have c0 := HQ.out.at 0 _ rfl
  have c1 := HQ.out.at 1 _ rfl
  have c2 := HQ.out.at 2 _ rfl
  have c3 := HQ.out.at 3 _ rfl
  have c4 := HQ.out.at 4 _ rfl
  have c5 := HQ.out.at 5 _ rfl
  have c6 := HQ.out.at 6 _ rfl
  have c7 := HQ.out.at 7 _ rfl
  have c8 := HQ.out.at 8 _ rfl
  have c9 := HQ.out.at 9 _ rfl
  have c10 := HQ.out.at 10 _ rfl
  have c11 := HQ.out.at 11 _ rfl
  have c12 := HQ.out.at 12 _ rfl
  clear hm hh hps
  go_enter Tryz.func13, Tryz.ntmps13
  cases q
  · go_wp2_with fail
    refine hcv.mono ?_
    rintro e w1 ⟨rfl, hb1⟩
    have HB1 : Hid (Below w.heap.size w w1) := HQ.out.inB hb1
    clear hb1 hcv c0 c1 c2 c3 c4 c5 c6 c7 c8 c9 c10 c11 c12
    go_wp2
    go_ret
    exact ⟨ret_bool (by simp), HB1.out⟩
  · go_wp2
    go_ret
    exact ⟨ret_bool (by simp), HQ.out.bel⟩
end Go.Proofs.YthoblggjhdnlpaaGreatDoor

/- A part of a text is no longer than it. -/
namespace Go.Proofs.YthoblggjhdnlpaaGreatDoor

theorem splitL_lens (d : UInt8) : ∀ (l : List UInt8) (p : List UInt8), p ∈ splitL d l → p.length ≤ l.length
  | [], p, h => by
    rw [splitL] at h
    rw [List.mem_singleton.1 h]
    exact Nat.le_refl _
  | c :: t, p, h => by
    have ih := splitL_lens d t
    rw [splitL] at h
    split at h
    · rcases List.mem_cons.1 h with h | h
      · rw [h]; exact Nat.zero_le _
      · have := ih p h
        rw [List.length_cons]
        omega
    · split at h
      · rename_i h2
        rw [List.mem_singleton.1 h]
        simp
      · rename_i q r h2
        rcases List.mem_cons.1 h with h | h
        · rw [h]
          have := ih q (by rw [h2]; exact List.mem_cons_self)
          simp
          omega
        · have := ih p (by rw [h2]; exact List.mem_cons_of_mem _ h)
          rw [List.length_cons]
          omega
end Go.Proofs.YthoblggjhdnlpaaGreatDoor

/- The lines of an answer. -/
namespace Go.Proofs.YthoblggjhdnlpaaGreatDoor

/-- A line without what ends it. -/
def lineT (l : List UInt8) : List UInt8 := Lib.trimSuffix l [13]
/-- The name and the value of a line. -/
def lineF (l : List UInt8) : Option Par := if (cutL 58 l).2.2 && isL (cutL 58 l).1 then some (bs (cutL 58 l).1, bs (trimW (cutL 58 l).2.1)) else none
/-- What lines tell, from line number i on; or the line that tells none, or that there are too many. -/
def runF : Nat → List Par → List (List UInt8) → Except (Option Nat) (List Par)
  | _, acc, [] => .ok acc
  | i, acc, l :: r => if lineT l = [] then runF (i + 1) acc r else match lineF (lineT l) with
    | none => .error (some i)
    | some x => if acc.length = 40 then .error none else runF (i + 1) (acc ++ [x]) r
def fieldsF (s : List UInt8) : Except (Option Nat) (List Par) := runF 0 [] (splitL 10 s)
theorem runF_skip {i : Nat} {acc : List Par} {l : List UInt8} {r : List (List UInt8)} (h : lineT l = []) : runF i acc (l :: r) = runF (i + 1) acc r := by
  rw [runF, if_pos h]
theorem runF_bad {i : Nat} {acc : List Par} {l : List UInt8} {r : List (List UInt8)} (h : lineT l ≠ []) (hl : lineF (lineT l) = none) : runF i acc (l :: r) = .error (some i) := by
  rw [runF, if_neg h, hl]
theorem runF_many {i : Nat} {acc : List Par} {l : List UInt8} {r : List (List UInt8)} {x : Par} (h : lineT l ≠ []) (hl : lineF (lineT l) = some x) (ha : acc.length = 40) : runF i acc (l :: r) = .error none := by
  rw [runF, if_neg h, hl]
  show (if acc.length = 40 then _ else _) = _
  rw [if_pos ha]
theorem runF_next {i : Nat} {acc : List Par} {l : List UInt8} {r : List (List UInt8)} {x : Par} (h : lineT l ≠ []) (hl : lineF (lineT l) = some x) (ha : acc.length ≠ 40) : runF i acc (l :: r) = runF (i + 1) (acc ++ [x]) r := by
  rw [runF, if_neg h, hl]
  show (if acc.length = 40 then _ else _) = _
  rw [if_neg ha]
theorem lineF_none1 {l a b : List UInt8} (h : cutL 58 l = (a, b, false)) : lineF l = none := by unfold lineF; rw [h]; rfl
theorem lineF_none2 {l a b : List UInt8} (h : cutL 58 l = (a, b, true)) (hi : isL a = false) : lineF l = none := by unfold lineF; rw [h]; simp [hi]
theorem lineF_some {l a b : List UInt8} (h : cutL 58 l = (a, b, true)) (hi : isL a = true) : lineF l = some (bs a, bs (trimW b)) := by unfold lineF; rw [h]; simp [hi]
end Go.Proofs.YthoblggjhdnlpaaGreatDoor

/- One parameter more at a row of parameters that a call owns. -/
namespace Go.Proofs.YthoblggjhdnlpaaGreatDoor
open Go.RowKit

theorem infoP : (Tryz.prog.info? 48).map (fun i => (i.zero, i.size, i.bytes)) = some (some (.agg #[.string ⟨#[]⟩, .string ⟨#[]⟩]), 2, 32) := by kernel_rfl
def parCells : List Par → List Value
  | [] => []
  | p :: r => .string p.1 :: .string p.2 :: parCells r
theorem parCells_app (a b : List Par) : parCells (a ++ b) = parCells a ++ parCells b := by
  induction a with
  | nil => rfl
  | cons p r ih => simp [parCells, ih]
theorem parCells_at : ∀ (ps : List Par) (j : Nat) (p : Par), ps[j]? = some p → (parCells ps)[j * 2]? = some (.string p.1) ∧ (parCells ps)[j * 2 + 1]? = some (.string p.2)
  | [], j, p, h => by simp at h
  | q :: r, 0, p, h => by
    simp at h
    subst h
    exact ⟨rfl, rfl⟩
  | q :: r, j + 1, p, h => by
    have h' : r[j]? = some p := by simpa using h
    have := parCells_at r j p h'
    rw [show (j + 1) * 2 = j * 2 + 1 + 1 by omega]
    simpa [parCells] using this
/-- A value of type []api.Param that owns these, among the blocks from B on. -/
def OwnP (w : World) (B : Nat) (v : Value) (ps : List Par) : Prop := w.ownsRow B 48 2 v ps.length (parCells ps)
theorem OwnP.lt {w : World} {B : Nat} {v : Value} {ps : List Par} (h : OwnP w B v ps) : ∀ k, v.ownBlock = some k → B ≤ k ∧ k < w.heap.size := World.ownsRow.lt h
theorem OwnP.grown {w w' : World} {B b : Nat} {v : Value} {ps : List Par} (h : OwnP w B v ps) (hg : w.grownBy w' (some b)) (hb : b < B) : OwnP w' B v ps := by
  refine World.ownsRow.kept h hg (.inr ?_)
  intro e
  have := (h.lt b e).1
  omega
theorem OwnP.below {w w' : World} {B : Nat} {v : Value} {ps : List Par} (h : OwnP w B v ps) (hb : Below w.heap.size w w') : OwnP w' B v ps := by
  refine World.ownsRow.kept (row := none) h ⟨hb.os, hb.tape, hb.output, hb.size, fun i hi _ => hb.block i hi⟩ ?_
  rcases v.ownBlock with _ | k
  · exact .inl rfl
  · exact .inr (by simp)
theorem ownP_nil (w : World) (B : Nat) : OwnP w B (.slice none 0 0) [] := ⟨rfl, .inl ⟨rfl, rfl⟩⟩
theorem OwnP.pars {w : World} {B : Nat} {v : Value} {ps : List Par} (h : OwnP w B v ps) : ∃ (a : Option Addr) (cap g : Nat), v = .slice a ps.length cap ∧ Pars w a ps.length g 0 ps ∧ (0 < ps.length → B ≤ g) := by
  rcases h.2 with ⟨rfl, h0⟩ | ⟨g, cap, cur, rfl, hBg, hh, _, _, _, ht⟩
  · refine ⟨none, 0, 0, by rw [h0], ⟨rfl, fun h1 => absurd h0 (by omega), fun j x hx => ?_, fun j x hx => ?_⟩, fun h1 => by omega⟩
    · have := (List.getElem?_eq_some_iff.1 hx).1; omega
    · have := (List.getElem?_eq_some_iff.1 hx).1; omega
  · refine ⟨_, cap, g, rfl, ⟨rfl, fun _ => ⟨rfl, (Array.getElem?_eq_some_iff.1 hh).1⟩, fun j x hx => ?_, fun j x hx => ?_⟩, fun _ => hBg⟩
    · have hj := World.ownsRow.cells h (g := g) rfl (j * 2) (.string x.1) (parCells_at ps j x hx).1
      rw [WideShapes.add_plain] at hj
      exact hj
    · have hj := World.ownsRow.cells h (g := g) rfl (j * 2 + 1) (.string x.2) (parCells_at ps j x hx).2
      rw [WideShapes.add_plain] at hj
      rw [Nat.add_assoc]
      exact hj
theorem wp_appp {ops : Array Oper} {rest : List Oper} {o : Oper} {a : Act} {Q : Exit → Act → World → Prop} (hgd : o.guard = none) (s x : Operand)
    (ho : o.op = .call { callee := .builtin .append, args := #[s, x], argTypes := #[26, 26] })
    (B : Nat) (wr : World) (v : Value) (ps : List Par) (n : Nat) (hs : a.eval s = v) (hown : OwnP wr B v ps) (hn : ps.length = n) (hl : n ≤ 100000) (hB : B ≤ wr.heap.size)
    (p : Par) (H : Nat) (hH : wr.heap.size = H) (hx : a.eval x = .slice (some ⟨H, 0, none⟩) 1 1)
    (h : ∀ g cap w', OwnP w' B (.slice (some ⟨g, 0, none⟩) (n + 1) cap) (ps ++ [p]) → (wr.alloc (.cells #[.string p.1, .string p.2] 48)).grownBy w' v.ownBlock → g < w'.heap.size → wpList Tryz.prog ops Q rest (a.put o.dst (.slice (some ⟨g, 0, none⟩) (n + 1) cap)) w') :
    wpList Tryz.prog ops Q (o :: rest) a (wr.alloc (.cells #[.string p.1, .string p.2] 48)) := by
  subst hn hH
  obtain ⟨i0, hi0, hz0, hz1, hz2⟩ := info_parts infoP
  refine wpList_append_lies _ hgd s x 26 ho B 48 i0 (.agg #[.string ⟨#[]⟩, .string ⟨#[]⟩]) 2 32 Tryz.underlying26 hi0 hz0 hz1 hz2 rfl (by omega) v ps.length _ hs (World.ownsRow.alloc hown _) ⟨wr.heap.size, 0, none⟩ 1 1 [.string p.1, .string p.2] hx rfl
    (World.news_of_block (cs := #[.string p.1, .string p.2]) (t := 48) (fr := (0, 0)) (heap_alloc_new wr _)) (by simp [Value.oneCell']) (by omega) (by unfold maxLen; omega) (by omega) (by simp; omega) _ rfl ?_
  intro g cap w' hown1 hgrow _ hlt
  refine h g cap w' ?_ hgrow hlt
  unfold OwnP
  rw [List.length_append, parCells_app]
  exact hown1
end Go.Proofs.YthoblggjhdnlpaaGreatDoor

/- How many bytes of a kind stand at a text's beginning, by the program; digits. -/
namespace Go.Proofs.YthoblggjhdnlpaaGreatDoor
open Go.RowKit

theorem digB_yes (c : UInt8) (h1 : 48 ≤ (c.toNat : Int)) (h2 : (c.toNat : Int) ≤ 57) : digB c = true := decide_eq_true ⟨by omega, by omega⟩
theorem digB_no (c : UInt8) (h : ¬ (48 ≤ (c.toNat : Int) ∧ (c.toNat : Int) ≤ 57)) : digB c = false := decide_eq_false (by omega)
theorem tdigit_any (c : UInt8) (w : World) : Calls Tryz.prog 44 #[.int .u8 (c.toNat : Int)] w fun e w' => e = .returned (.bool (digB c)) ∧ w' = w := by
  by_cases h : 48 ≤ (c.toNat : Int)
  · by_cases h2 : (c.toNat : Int) ≤ 57
    · rw [digB_yes c h h2]
      go_enter Tryz.func44, Tryz.ntmps44
      go_wp2
      go_ret
      exact ⟨rfl, rfl⟩
    · rw [digB_no c (by omega)]
      go_enter Tryz.func44, Tryz.ntmps44
      go_wp2
      go_ret
      exact ⟨rfl, rfl⟩
  · rw [digB_no c (by omega)]
    go_enter Tryz.func44, Tryz.ntmps44
    go_wp2
    go_ret
    exact ⟨rfl, rfl⟩

theorem kind_digit : Kind 44 digB := ⟨tdigit_any, enters_at Tryz.func44 (by kernel_rfl) rfl⟩
set_option maxHeartbeats 1000000 in
theorem run_any (K : Nat) (f : UInt8 → Bool) (hK : Kind K f) (s : ByteArray) (hs : s.size ≤ 20000) (w : World) :
    Calls Tryz.prog 43 #[.string s, .func (.func K) #[] #[]] w fun e w' => e = .returned (.int .i64 (runL f s.data.toList : Int)) ∧ w' = w := by
  have HK0 : Hid (Kind K f) := hK
  have hen := hK.enters
  clear hK
  go_enter Tryz.func43, Tryz.ntmps43
  go_wp2
  go_loop [8] (fun i => ∃ (k : Nat), k ≤ s.size ∧ i = .int .i64 k ∧ Hid ((s.data.toList.take k).all f = true)) (fun i => s.size - (intOf i).toNat)
  case atStart => exact ⟨0, Nat.zero_le _, rfl, rfl⟩
  case round =>
    obtain ⟨k, hk, rfl, HK⟩ := hrel
    by_cases hlt : k < s.size
    · obtain ⟨c, hcd⟩ : ∃ c : UInt8, s[k] = c := ⟨_, rfl⟩
      have hcl : (c.toNat : Int) < 256 := by have := c.toNat_lt; omega
      have HC : Hid (s[k] = c) := hcd
      cases hf : f c
      · have HR : Hid (runL f s.data.toList = k) := run_part f s k hlt c hcd HK hf
        go_wp2_with fail
        refine (HK0.out.says c _).mono ?_
        rintro e w' ⟨rfl, rfl⟩
        rw [hf]
        go_wp2
        go_ret
        exact ⟨ret_i64 (by rw [HR.out]), rfl⟩
      · have HS : Hid ((s.data.toList.take (k + 1)).all f = true) := all_snoc f s k hlt c hcd HK hf
        go_wp2_with fail
        refine (HK0.out.says c _).mono ?_
        rintro e w' ⟨rfl, rfl⟩
        rw [hf]
        go_wp2
        go_round
        case rel => exact ⟨k + 1, by omega, by go_num, HS⟩
        case measure => simp [intOf]; omega
    · have HR : Hid (runL f s.data.toList = s.size) := run_full f s k (by omega) HK
      go_wp2
      go_ret
      exact ⟨ret_i64 (by rw [HR.out]), rfl⟩
end Go.Proofs.YthoblggjhdnlpaaGreatDoor

/- Whether a byte may be one of a word, and a text is a word, by the program. -/
namespace Go.Proofs.YthoblggjhdnlpaaGreatDoor
open Go.RowKit

theorem tokB_small (c : UInt8) (h : 97 ≤ (c.toNat : Int) ∧ (c.toNat : Int) ≤ 122) : tokB c = true := by
  unfold tokB
  rw [decide_eq_true (show 97 ≤ c.toNat ∧ c.toNat ≤ 122 by omega)]
  rfl
theorem tokB_great (c : UInt8) (h : 65 ≤ (c.toNat : Int) ∧ (c.toNat : Int) ≤ 90) : tokB c = true := by
  unfold tokB
  rw [decide_eq_true (show 65 ≤ c.toNat ∧ c.toNat ≤ 90 by omega)]
  simp
theorem tokB_digit (c : UInt8) (h : digB c = true) : tokB c = true := by
  unfold tokB
  unfold digB at h
  rw [h]
  simp
theorem tokB_rest (c : UInt8) (h1 : ¬ (97 ≤ (c.toNat : Int) ∧ (c.toNat : Int) ≤ 122)) (h2 : ¬ (65 ≤ (c.toNat : Int) ∧ (c.toNat : Int) ≤ 90)) (h3 : digB c = false) : tokB c = tsigns.contains c := by
  unfold tokB
  unfold digB at h3
  rw [decide_eq_false (show ¬ (97 ≤ c.toNat ∧ c.toNat ≤ 122) by omega), decide_eq_false (show ¬ (65 ≤ c.toNat ∧ c.toNat ≤ 90) by omega), h3]
  rfl
def ixT (c : UInt8) : Int := ixOf tsigns c
theorem ix_tsigns (c : UInt8) (w : World) :
    Calls Tryz.prog 83 #[.string { data := #[33, 35, 36, 37, 38, 39, 42, 43, 45, 46, 94, 95, 124, 126, 96] }, .int .u8 (c.toNat : Int)] w fun e w' => e = .returned (.int .i64 (ixT c)) ∧ w' = w := ix_of _ c _ rfl w
set_option maxHeartbeats 1000000 in
theorem byte_any (c : UInt8) (w : World) : Calls Tryz.prog 54 #[.int .u8 (c.toNat : Int)] w fun e w' => e = .returned (.bool (tokB c)) ∧ w' = w := by
  by_cases h1 : 97 ≤ (c.toNat : Int) ∧ (c.toNat : Int) ≤ 122
  · rw [tokB_small c h1]
    obtain ⟨h1, h2⟩ := h1
    go_enter Tryz.func54, Tryz.ntmps54
    go_wp2
    go_ret
    exact ⟨rfl, rfl⟩
  by_cases h2 : 65 ≤ (c.toNat : Int) ∧ (c.toNat : Int) ≤ 90
  · rw [tokB_great c h2]
    obtain ⟨h2, h3⟩ := h2
    have h4 : ¬ 97 ≤ (c.toNat : Int) := by omega
    clear h1
    go_enter Tryz.func54, Tryz.ntmps54
    go_wp2
    go_ret
    exact ⟨rfl, rfl⟩
  have key : (∃ x : Bool, digB c = true ∧ tokB c = true) ∨ (digB c = false ∧ tokB c = tsigns.contains c) := by
    cases h3 : digB c
    · exact .inr ⟨rfl, tokB_rest c h1 h2 h3⟩
    · exact .inl ⟨true, rfl, tokB_digit c h3⟩
  rcases key with ⟨_, hd, ht⟩ | ⟨hd, ht⟩
  · rw [ht]
    clear ht
    by_cases a1 : 97 ≤ (c.toNat : Int)
    · have a2 : ¬ (c.toNat : Int) ≤ 122 := by omega
      have a3 : 65 ≤ (c.toNat : Int) := by omega
      have a4 : ¬ (c.toNat : Int) ≤ 90 := by omega
      clear h1 h2
      go_enter Tryz.func54, Tryz.ntmps54
      go_wp2_with (go_at_call 44; refine (tdigit_any c _).mono ?_; rintro e w' ⟨rfl, rfl⟩; rw [hd])
      go_ret
      exact ⟨rfl, rfl⟩
    · by_cases a3 : 65 ≤ (c.toNat : Int)
      · have a4 : ¬ (c.toNat : Int) ≤ 90 := by omega
        clear h1 h2
        go_enter Tryz.func54, Tryz.ntmps54
        go_wp2_with (go_at_call 44; refine (tdigit_any c _).mono ?_; rintro e w' ⟨rfl, rfl⟩; rw [hd])
        go_ret
        exact ⟨rfl, rfl⟩
      · clear h1 h2
        go_enter Tryz.func54, Tryz.ntmps54
        go_wp2_with (go_at_call 44; refine (tdigit_any c _).mono ?_; rintro e w' ⟨rfl, rfl⟩; rw [hd])
        go_ret
        exact ⟨rfl, rfl⟩
  · obtain ⟨x, hx, hx2⟩ : ∃ x : Int, ixT c = x ∧ Hid (tokB c = decide (0 ≤ x)) := by
      refine ⟨_, rfl, ?_⟩
      show _ = _
      rw [ht]
      unfold ixT
      rcases ixOf_in tsigns c with ⟨e1, e2⟩ | ⟨n, _, e1, e2⟩
      · rw [e1, e2]; rfl
      · rw [e1, e2]; simp
    clear ht
    rw [hx2.out]
    by_cases a1 : 97 ≤ (c.toNat : Int)
    · have a2 : ¬ (c.toNat : Int) ≤ 122 := by omega
      have a3 : 65 ≤ (c.toNat : Int) := by omega
      have a4 : ¬ (c.toNat : Int) ≤ 90 := by omega
      clear h1 h2
      go_enter Tryz.func54, Tryz.ntmps54
      go_wp2_with (first | (go_at_call 44; refine (tdigit_any c _).mono ?_; rintro e w' ⟨rfl, rfl⟩; rw [hd]) | (go_at_call 83; refine (ix_tsigns c _).mono ?_; rintro e w' ⟨rfl, rfl⟩; rw [hx]))
      go_ret
      exact ⟨rfl, rfl⟩
    · by_cases a3 : 65 ≤ (c.toNat : Int)
      · have a4 : ¬ (c.toNat : Int) ≤ 90 := by omega
        clear h1 h2
        go_enter Tryz.func54, Tryz.ntmps54
        go_wp2_with (first | (go_at_call 44; refine (tdigit_any c _).mono ?_; rintro e w' ⟨rfl, rfl⟩; rw [hd]) | (go_at_call 83; refine (ix_tsigns c _).mono ?_; rintro e w' ⟨rfl, rfl⟩; rw [hx]))
        go_ret
        exact ⟨rfl, rfl⟩
      · clear h1 h2
        go_enter Tryz.func54, Tryz.ntmps54
        go_wp2_with (first | (go_at_call 44; refine (tdigit_any c _).mono ?_; rintro e w' ⟨rfl, rfl⟩; rw [hd]) | (go_at_call 83; refine (ix_tsigns c _).mono ?_; rintro e w' ⟨rfl, rfl⟩; rw [hx]))
        go_ret
        exact ⟨rfl, rfl⟩
theorem kind_byte : Kind 54 tokB := ⟨byte_any, enters_at Tryz.func54 (by kernel_rfl) rfl⟩
theorem isL_empty (s : ByteArray) (h : s.size = 0) : isL s.data.toList = false := by
  have : s.data.toList = [] := by
    apply List.eq_nil_of_length_eq_zero
    simpa using h
  rw [this]
  rfl
theorem isL_run (s : ByteArray) (h : 0 < s.size) : isL s.data.toList = decide ((runL tokB s.data.toList : Int) = (s.size : Int)) := by
  unfold isL
  have h1 : s.data.toList.isEmpty = false := by
    cases e : s.data.toList with
    | nil =>
      have h5 : s.data.toList.length = s.size := Array.length_toList
      rw [e] at h5
      simp only [List.length_nil] at h5
      omega
    | cons c t => rfl
  have h2 := runL_all tokB s.data.toList
  have h3 : s.data.toList.length = s.size := Array.length_toList
  rw [h1, Bool.eq_iff_iff]
  simp only [Bool.not_false, Bool.true_and, decide_eq_true_eq]
  rw [← h2, h3]
  omega
theorem u8_is {c : UInt8} {n : Nat} (hn : n < 256) : (c.toNat : Int) = n ↔ c = UInt8.ofNat n := by
  constructor
  · intro h
    apply UInt8.toNat_inj.1
    simp only [UInt8.toNat_ofNat']
    omega
  · rintro rfl
    simp only [UInt8.toNat_ofNat']
    omega

end Go.Proofs.YthoblggjhdnlpaaGreatDoor

/- Whether a text is a word, by the program. -/
namespace Go.Proofs.YthoblggjhdnlpaaGreatDoor
open Go.RowKit

set_option maxHeartbeats 1000000 in
theorem is_any (s : ByteArray) (hs : s.size ≤ 5000) (w : World) :
    Calls Tryz.prog 30 #[.string s] w fun e w' => e = .returned (.bool (isL s.data.toList)) ∧ w' = w := by
  by_cases h0 : s.size = 0
  · have HI : Hid (isL s.data.toList = false) := isL_empty s h0
    obtain rfl : s = ⟨#[]⟩ := by
      apply ByteArray.ext
      exact Array.eq_empty_of_size_eq_zero h0
    go_enter Tryz.func30, Tryz.ntmps30
    go_wp2
    go_ret
    exact ⟨ret_bool HI.out.symm, rfl⟩
  · have HI : Hid (isL s.data.toList = decide ((runL tokB s.data.toList : Int) = (s.size : Int))) := isL_run s (by omega)
    have hne : (s.toList == ([] : List UInt8)) = false := by
      rw [beq_eq_false_iff_ne]
      intro e
      have h5 : s.data.toList = [] := by
        rw [← ByteArray.toList_eq]
        exact e
      have h6 : s.data.toList.length = s.size := Array.length_toList
      rw [h5] at h6
      exact h0 h6.symm
    obtain ⟨n, HN⟩ : ∃ n : Int, Hid ((runL tokB s.data.toList : Int) = n) := ⟨_, rfl⟩
    go_enter Tryz.func30, Tryz.ntmps30
    go_wp2_with (go_at_call 43; refine (run_any _ _ kind_byte s (by omega) _).mono ?_; rintro e w' ⟨rfl, rfl⟩; rw [HN.out])
    go_ret
    exact ⟨ret_bool (by rw [HI.out, HN.out]; rfl), rfl⟩
end Go.Proofs.YthoblggjhdnlpaaGreatDoor

/- The library's contracts that are leant on, laid at this program's numbers. -/
namespace Go.Proofs.YthoblggjhdnlpaaGreatDoor
open Go.Shelf Go.RowKit
def lays146_ren : Go.Shelf.Ren := ⟨fun | 146 => 27 | 221 => 51 | 268 => 78 | 138 => 79 | 143 => 80 | 195 => 103 | 197 => 85 | 218 => 104 | 219 => 82 | 260 => 109 | 217 => 105 | 225 => 106 | 224 => 107 | 267 => 108 | 266 => 122 | 314 => 123 | n => n, fun | 9 => 9 | 31 => 51 | 3 => 3 | 4 => 4 | 0 => 0 | 105 => 116 | 21 => 21 | 5 => 5 | 46 => 50 | 119 => 152 | 139 => 155 | 138 => 154 | 146 => 150 | 51 => 134 | n => n, fun | 1 => 2 | 3 => 3 | 4 => 4 | n => n⟩
theorem lays146 : Go.Proofs.Lays.n146 Tryz.prog lays146_ren := {
  mixed := by kernel_rfl
  f138 := Tryz.func79.trans (congrArg some (by kernel_rfl))
  f143 := Tryz.func80.trans (congrArg some (by kernel_rfl))
  f146 := Tryz.func27.trans (congrArg some (by kernel_rfl))
  f195 := Tryz.func103.trans (congrArg some (by kernel_rfl))
  f197 := Tryz.func85.trans (congrArg some (by kernel_rfl))
  f217 := Tryz.func105.trans (congrArg some (by kernel_rfl))
  f218 := Tryz.func104.trans (congrArg some (by kernel_rfl))
  f219 := Tryz.func82.trans (congrArg some (by kernel_rfl))
  f221 := Tryz.func51.trans (congrArg some (by kernel_rfl))
  f224 := Tryz.func107.trans (congrArg some (by kernel_rfl))
  f225 := Tryz.func106.trans (congrArg some (by kernel_rfl))
  f260 := Tryz.func109.trans (congrArg some (by kernel_rfl))
  f266 := Tryz.func122.trans (congrArg some (by kernel_rfl))
  f267 := Tryz.func108.trans (congrArg some (by kernel_rfl))
  f268 := Tryz.func78.trans (congrArg some (by kernel_rfl))
  f314 := Tryz.func123.trans (congrArg some (by kernel_rfl))
  t0 := Tryz.underlying0
  a0 := Tryz.isAgg0
  z0 := Tryz.sizeOf0
  v0 := Tryz.zeroValue0
  t3 := Tryz.underlying3
  a3 := Tryz.isAgg3
  z3 := Tryz.sizeOf3
  v3 := Tryz.zeroValue3
  t4 := Tryz.underlying4
  a4 := Tryz.isAgg4
  z4 := Tryz.sizeOf4
  v4 := Tryz.zeroValue4
  t5 := Tryz.underlying5
  a5 := Tryz.isAgg5
  z5 := Tryz.sizeOf5
  v5 := Tryz.zeroValue5
  t9 := Tryz.underlying9
  a9 := Tryz.isAgg9
  z9 := Tryz.sizeOf9
  v9 := Tryz.zeroValue9
  t21 := Tryz.underlying21
  a21 := Tryz.isAgg21
  z21 := Tryz.sizeOf21
  v21 := Tryz.zeroValue21
  t31 := Tryz.underlying51
  a31 := Tryz.isAgg51
  z31 := Tryz.sizeOf51
  v31 := Tryz.zeroValue51
  t46 := Tryz.underlying50
  a46 := Tryz.isAgg50
  z46 := Tryz.sizeOf50
  v46 := Tryz.zeroValue50
  t51 := Tryz.underlying134
  a51 := Tryz.isAgg134
  z51 := Tryz.sizeOf134
  v51 := Tryz.zeroValue134
  t105 := Tryz.underlying116
  a105 := Tryz.isAgg116
  z105 := Tryz.sizeOf116
  v105 := Tryz.zeroValue116
  t119 := Tryz.underlying152
  a119 := Tryz.isAgg152
  z119 := Tryz.sizeOf152
  t138 := Tryz.underlying154
  a138 := Tryz.isAgg154
  z138 := Tryz.sizeOf154
  v138 := Tryz.zeroValue154
  t139 := Tryz.underlying155
  a139 := Tryz.isAgg155
  z139 := Tryz.sizeOf155
  v139 := Tryz.zeroValue155
  t146 := Tryz.underlying150
  a146 := Tryz.isAgg150
  z146 := Tryz.sizeOf150
  v146 := Tryz.zeroValue150
  g1 := by kernel_rfl
  g3 := by kernel_rfl
  g4 := by kernel_rfl }
end Go.Proofs.YthoblggjhdnlpaaGreatDoor

/- strings.Split at one byte, without a word on internal/bytealg.MaxLen. -/
namespace Go.Proofs.YthoblggjhdnlpaaGreatDoor
open Go.RowKit Go.Shelf

theorem indexB_ix (s : ByteArray) (c : UInt8) : Lib.indexB s ⟨#[c]⟩ = ixOf s.data.toList c := Lib.index_one s.data.toList c
theorem countB_ct (s : ByteArray) (c : UInt8) : Lib.countB s ⟨#[c]⟩ = s.data.toList.count c := Lib.count_one c s.data.toList
theorem splitB_list (c : UInt8) : ∀ (k : Nat) (s : ByteArray), s.data.toList.count c ≤ k → (Lib.splitB ⟨#[c]⟩ 0 k s).map (·.data.toList) = splitL c s.data.toList
  | k, s, hk => by
    rcases ixOf_first s.data.toList c with ⟨hi, hno⟩ | ⟨n, hn, hi, hno, hsp⟩
    · rw [Lib.splitB_miss _ _ _ _ ((indexB_ix s c).trans hi), splitL_part c _ hno]
      rfl
    · have hc : s.data.toList.count c = (s.data.toList.drop (n + 1)).count c + 1 := by
        conv => lhs; rw [hsp]
        rw [List.count_append, List.count_eq_zero.2 hno, List.count_cons_self]
        omega
      cases k with
      | zero => omega
      | succ k =>
        have hl : s.data.toList.length = s.size := Array.length_toList
        have e1 : (s.extract (n + (⟨#[c]⟩ : ByteArray).size) s.size).data.toList = s.data.toList.drop (n + 1) := by
          rw [ByteArray.data_extract, Array.toList_extract, List.extract_eq_take_drop]
          show List.take (s.size - (n + 1)) (List.drop (n + 1) s.data.toList) = _
          rw [List.take_of_length_le (by rw [List.length_drop]; omega)]
        have e0 : (s.extract 0 (n + 0)).data.toList = s.data.toList.take n := by
          rw [ByteArray.data_extract, Array.toList_extract, List.extract_eq_take_drop]
          simp
        rw [Lib.splitB_hit _ _ _ _ n ((indexB_ix s c).trans hi), List.map_cons, splitB_list c k _ (by rw [e1]; omega), e1, e0]
        conv => rhs; rw [hsp]
        rw [splitL_more c _ _ hno]

set_option maxHeartbeats 1000000 in
theorem split_one (s : ByteArray) (c : UInt8) (hs : s.size ≤ 20000) (w : World) :
    Calls Tryz.prog 27 #[.string s, .string ⟨#[c]⟩] w fun e w' => ∃ ps : List ByteArray, e = .returned (.slice (some ⟨w.heap.size, 0, none⟩) ps.length ps.length) ∧ ps.length ≤ s.size + 1 ∧ w' = w.alloc (.cells (ps.map Value.string).toArray 9) ∧ Hid (ps.map (·.data.toList) = splitL c s.data.toList) := by
  have h1 : 1 ≤ (⟨#[c]⟩ : ByteArray).size := Nat.le_refl _
  have hle := Lib.countB_le ⟨#[c]⟩ h1 s.size s (Nat.le_refl _)
  have hlen := Lib.splitB_all ⟨#[c]⟩ h1 0 _ s rfl
  have HL : Hid ((Lib.splitB ⟨#[c]⟩ 0 (Lib.countB s ⟨#[c]⟩) s).map (·.data.toList) = splitL c s.data.toList) := splitB_list c _ s (Nat.le_of_eq (countB_ct s c).symm)
  have hI : ∀ (x : ByteArray) (a : Array Value), x.size ≤ s.size → Calls Tryz.prog (lays146_ren.f 143) #[.string x, .string ⟨#[c]⟩] (w.alloc (.cells a (lays146_ren.t 9))) fun e w' => e = .returned (.int .i64 (Lib.indexB x ⟨#[c]⟩)) ∧ w' = w.alloc (.cells a (lays146_ren.t 9)) := fun x a _ => by
    rw [indexB_ix]
    exact Any.strings_Index_one { lays146 with } x c _
  have hC : Calls Tryz.prog (lays146_ren.f 138) #[.string s, .string ⟨#[c]⟩] w fun e w' => e = .returned (.int .i64 (Lib.countB s ⟨#[c]⟩)) ∧ w' = w := by
    rw [countB_ct]
    exact Any.strings_Count_one { lays146 with } s c w
  have g := Any.strings_genSplit_core { lays146 with } (by kernel_rfl) s ⟨#[c]⟩ 0 (-1) (Lib.countB s ⟨#[c]⟩ + 1) w (by omega) h1 (Nat.zero_le _) hI hC (by decide) (by decide) (by rw [if_pos (by decide)]; omega)
  rw [Nat.add_sub_cancel] at g
  have e2 : Lib.cellsOf (Lib.splitB ⟨#[c]⟩ 0 (Lib.countB s ⟨#[c]⟩) s) (Lib.countB s ⟨#[c]⟩ + 1) = ((Lib.splitB ⟨#[c]⟩ 0 (Lib.countB s ⟨#[c]⟩) s).map Value.string).toArray := by rw [← hlen]; exact Lib.cellsOf_full _
  rw [e2, ← hlen] at g
  have hl2 : (Lib.splitB ⟨#[c]⟩ 0 (Lib.countB s ⟨#[c]⟩) s).length ≤ s.size + 1 := by omega
  clear e2 hI hC hle hlen
  generalize Lib.splitB ⟨#[c]⟩ 0 (Lib.countB s ⟨#[c]⟩) s = ps at g HL hl2
  have g2 : Calls Tryz.prog 51 #[.string s, .string ⟨#[c]⟩, .int .i64 0, .int .i64 (-1)] w fun e w' => e = .returned (.slice (some ⟨w.heap.size, 0, none⟩) ps.length ps.length) ∧ w' = w.alloc (.cells (ps.map Value.string).toArray 9) := g
  clear g
  go_enter Tryz.func27, Tryz.ntmps27
  go_wp2_with (go_at_call 51; refine g2.mono ?_; rintro e w' ⟨rfl, hw⟩; rw [hw])
  go_ret
  exact ⟨ps, rfl, hl2, rfl, HL⟩

end Go.Proofs.YthoblggjhdnlpaaGreatDoor

/- A text without what it ends with, by the library's own functions. -/
namespace Go.Proofs.YthoblggjhdnlpaaGreatDoor
open Go.RowKit

set_option maxHeartbeats 1000000 in
theorem trim_any (s p : ByteArray) (w : World) (hs : s.size ≤ 1000000) :
    Calls Tryz.prog 28 #[.string s, .string p] w fun e w' => e = .returned (.string (bs (Lib.trimSuffix s.data.toList p.data.toList))) ∧ w' = w := by
  go_enter Tryz.func28, Tryz.ntmps28
  go_wp2
  · have h1 : p.size ≤ s.size := by assumption
    have h2 : ((s.extract (s.size - p.size) s.size).toList == p.toList) = true := by assumption
    go_ret
    refine ⟨?_, rfl⟩
    have := Lib.trimSuffix_hit s p h1 h2
    unfold bs
    rw [this]
    rfl
  · have h2 : ((s.extract (s.size - p.size) s.size).toList == p.toList) = false := by assumption
    go_ret
    refine ⟨?_, rfl⟩
    have := Lib.trimSuffix_miss s p (by rw [h2]; simp)
    unfold bs
    rw [this]
    rfl
  · have h1 : ¬ p.size ≤ s.size := by assumption
    go_ret
    refine ⟨?_, rfl⟩
    have := Lib.trimSuffix_miss s p (by simp [h1])
    unfold bs
    rw [this]
    rfl
end Go.Proofs.YthoblggjhdnlpaaGreatDoor

/- Cells of a block. -/
namespace Go.Proofs.YthoblggjhdnlpaaGreatDoor
open Go.RowKit

theorem cells_of {w : World} {k : Nat} {cs : Array Value} {T : TypeId} {fz : Nat × Nat} (hk : w.heap[k]? = some (.cells cs T fz)) (j : Nat) (v : Value) (hj : cs[j]? = some v) : w.cell? ⟨k, j, none⟩ = some v := by
  simp [World.cell?, hk, hj]
theorem below_block {w w' : World} {k : Nat} {o : Obj} (hb : Below w.heap.size w w') (hk : w.heap[k]? = some o) : w'.heap[k]? = some o := by
  rw [hb.block k (Array.getElem?_eq_some_iff.1 hk).1]
  exact hk
end Go.Proofs.YthoblggjhdnlpaaGreatDoor
