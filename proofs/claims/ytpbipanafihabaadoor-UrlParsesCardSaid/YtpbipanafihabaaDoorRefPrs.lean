/- The URL that a text is, by the document's own answer. -/
import Derived.Test.YtpbipanafihabaaDoorPrsR
import Derived.Test.YtpbipanafihabaaDoorRefOrg
import Derived.Test.YtpbipanafihabaaDoorRefSnd
import Derived.Test.YtpbipanafihabaaDoorRefClW
import Derived.Test.YtpbipanafihabaaDoorSplO
import Derived.Test.YtpbipanafihabaaDoorEqO
import Derived.Deep.CutBlock
import Derived.BigQuiet
namespace Go.Proofs.YtpbipanafihabaaDoor
open Go.RowKit

theorem parse_tail {l t x : List UInt8} {f : Bool} {i E : Nat} (h1 : cutL 35 l = (t, x, f)) (hsc : schemeL t = none ∨ ∃ sec, schemeL t = some (sec, t.drop (i + 3))) (hk : i + 3 ≤ E) (hE : E ≤ t.length) (hm : ∀ c ∈ (t.take E).drop (i + 3), c ≠ 47 ∧ c ≠ 63)
    (hend : t.drop E = [] ∨ ∃ c r, t.drop E = c :: r ∧ (c = 47 ∨ c = 63)) :
    (originP (t.take E) = none → parseL l = .inl 3) ∧ ∀ sec h n p0 q g, originP (t.take E) = some (sec, h, n) → cutL 63 (t.drop E) = (p0, q, g) → parseL l = if sendL p0 && sendL q then (if (cleanL p0).length ≤ 200 then .inr (sec, h, n, cleanL p0, q) else .inl 2) else .inl 3 := by
  rcases hsc with hs | ⟨sec, hs⟩
  · refine ⟨fun _ => parse_none h1 hs, fun sec h n p0 q g ho _ => ?_⟩
    rw [origin_none_take E hs] at ho
    cases ho
  · have ht := scheme_take hs hk hE
    refine ⟨fun ho => ?_, fun sec2 h n p0 q g ho hq => ?_⟩
    · refine (parse_ref h1 hs hk hE hm hend (rfl : cutL 63 (t.drop E) = ((cutL 63 (t.drop E)).1, (cutL 63 (t.drop E)).2.1, (cutL 63 (t.drop E)).2.2))).1 ?_
      cases hl : originL sec ((t.take E).drop (i + 3)) with
      | none => rfl
      | some y =>
        obtain ⟨a, b⟩ := y
        rw [originP_yes ht hl] at ho
        cases ho
    · cases hl : originL sec ((t.take E).drop (i + 3)) with
      | none =>
        rw [originP_no ht hl] at ho
        cases ho
      | some y =>
        obtain ⟨a, b⟩ := y
        rw [originP_yes ht hl] at ho
        simp only [Option.some.injEq, Prod.mk.injEq] at ho
        obtain ⟨rfl, rfl, rfl⟩ := ho
        exact (parse_ref h1 hs hk hE hm hend hq).2 a b hl
def RAnswer (l : List UInt8) (e : Ending) : Prop :=
  (∃ (sec : Bool) (h p q : ByteArray) (n : Int), e = .returned (.tuple #[.agg #[.bool sec, .string h, .int .i64 n, .string p, .string q], .int .i64 0]) ∧ parseL l = .inr (sec, h.data.toList, n, p.data.toList, q.data.toList)) ∨
  (∃ c : Int, e = .returned (.tuple #[.agg #[.bool false, .string ⟨#[]⟩, .int .i64 0, .string ⟨#[]⟩, .string ⟨#[]⟩], .int .i64 c]) ∧ parseL l = .inl c)
set_option maxRecDepth 100000 in
set_option maxHeartbeats 2000000 in
theorem refParse_any (s : ByteArray) (hs : s.size ≤ 500) (w : World) (h : Schemes w) (hM : MaxL w) :
    Calls Tryd.prog 9 #[.string s] w fun e w' => Below w.heap.size w w' ∧ RAnswer s.data.toList e := by
  have hsl : s.data.toList.length = s.size := Array.length_toList
  have HM : Hid (MaxL w) := hM
  have hK0 : Hid (K5 w (w.alloc (.cells #[.bool false, .string ⟨#[]⟩, .int .i64 0, .string ⟨#[]⟩, .string ⟨#[]⟩] 34))) := k5_new w h
  clear h hM
  go_enter Tryd.func9, Tryd.ntmps9
  go_wp2_with fail
  refine (split_one s 35 (by omega) _).mono ?_
  rintro e w1 ⟨ps, rfl, _, hw1, HP⟩
  obtain ⟨r0, hr0⟩ := split_head 35 s.data.toList
  have HP' := HP.out
  rw [hr0] at HP'
  obtain ⟨t, ps', rfl, ht⟩ : ∃ t ps', ps = t :: ps' ∧ t.data.toList = (cutL 35 s.data.toList).1 := by
    cases ps with
    | nil => cases HP'
    | cons a b => exact ⟨a, b, rfl, by simp only [List.map_cons, List.cons.injEq] at HP'; exact HP'.1⟩
  have htz : t.size ≤ 500 := by
    obtain ⟨r, hr⟩ := cutL_pre 35 s.data.toList
    have := congrArg List.length hr
    rw [List.length_append, ← ht, data_len, data_len] at this
    omega
  obtain ⟨x, f, H1⟩ : ∃ x f, Hid (cutL 35 s.data.toList = (t.data.toList, x, f)) := ⟨(cutL 35 s.data.toList).2.1, (cutL 35 s.data.toList).2.2, by show _ = _; rw [ht]⟩
  have hb1 := (Below.refl (w.alloc (.cells #[.bool false, .string ⟨#[]⟩, .int .i64 0, .string ⟨#[]⟩, .string ⟨#[]⟩] 34)).heap.size _).alloc (Nat.le_refl _) (.cells ((t :: ps').map Value.string).toArray 9)
  rw [← hw1] at hb1
  have hcell : w1.cell? ⟨(w.alloc (.cells #[.bool false, .string ⟨#[]⟩, .int .i64 0, .string ⟨#[]⟩, .string ⟨#[]⟩] 34)).heap.size, 0, none⟩ = some (.string t) := by
    rw [hw1, cells_new]
    rfl
  have hlen : (t :: ps').length = ps'.length + 1 := rfl
  have hnat : ¬ ((ps'.length : Int) + 1 ≤ 0) := by omega
  have hK1 : Hid (K5 w w1) := hK0.out.step hb1
  clear hK0 hb1 hw1 HP HP' hr0 ht
  simp only [World.size_alloc] at hcell ⊢
  rw [hlen]
  go_wp2_with fail
  refine (index_any t ⟨#[58, 47, 47]⟩ (by omega) _ (MaxL.below HM.out hK1.out.bel)).mono ?_
  rintro e w2 ⟨rfl, hw2⟩
  obtain rfl := hw2.symm
  have e1 : Lib.index t.data.toList (⟨#[58, 47, 47]⟩ : ByteArray).data.toList = Lib.index t.data.toList markC := rfl
  rcases scheme_idx t.data.toList with ⟨hi, hsc⟩ | ⟨i, hi, hil, hsc⟩
  · rw [e1, hi]
    have HA : Hid (parseL s.data.toList = .inl 3) := parse_none H1.out hsc
    have c0 := hK1.out.c0
    have c1 := hK1.out.c1
    have c2 := hK1.out.c2
    have c3 := hK1.out.c3
    have c4 := hK1.out.c4
    have cf := hK1.out.f0
    clear e1 hi hsc
    go_wp2
    obtain ⟨y0, y1, y2, y3, y4⟩ := put5_cells (.bool false) (.string ⟨#[]⟩) (.int .i64 0) (.string ⟨#[]⟩) (.string ⟨#[]⟩) hK1.out.has
    have hb5 := put5_below hK1.out.bel (Nat.le_refl _) (.bool false) (.string ⟨#[]⟩) (.int .i64 0) (.string ⟨#[]⟩) (.string ⟨#[]⟩)
    (try simp only [Exit.inBlock, Exit.then])
    refine bodyPost_ret (v := .tuple #[.agg #[.bool false, .string ⟨#[]⟩, .int .i64 0, .string ⟨#[]⟩, .string ⟨#[]⟩], .int .i64 3]) ?_ rfl ⟨hb5, .inr ⟨3, rfl, HA⟩⟩
    simp [results, Tryd.f9, go_sem, y0, y1, y2, y3, y4]
  · rw [e1, hi]
    have HSC : Hid (schemeL t.data.toList = none ∨ ∃ sec, schemeL t.data.toList = some (sec, t.data.toList.drop (i + 3))) := by
      rcases hsc with ⟨_, h⟩ | ⟨_, h⟩ | ⟨_, _, h⟩
      · exact .inr ⟨_, h⟩
      · exact .inr ⟨_, h⟩
      · exact .inl h
    rw [data_len] at hil
    clear e1 hi hsc
    go_upto_block 0 with fail
    go_cut [5] from 26 (fun v wc => ∃ E : Nat, v = .int .i64 (E : Int) ∧ i + 3 ≤ E ∧ E ≤ t.size ∧ wc = w1 ∧ Hid ((∀ c ∈ (t.data.toList.take E).drop (i + 3), c ≠ 47 ∧ c ≠ 63) ∧ (t.data.toList.drop E = [] ∨ ∃ c r, t.data.toList.drop E = c :: r ∧ (c = 47 ∨ c = 63))))
    case first =>
      go_wp2_with fail
      go_loop [5] (fun v => ∃ k : Nat, v = .int .i64 (k : Int) ∧ i + 3 ≤ k ∧ k ≤ t.size ∧ Hid (∀ c ∈ (t.data.toList.take k).drop (i + 3), c ≠ 47 ∧ c ≠ 63)) (fun v => t.size - (intOf v).toNat)
      case atStart => exact ⟨i + 3, by simp, Nat.le_refl _, hil, fun c hc => by rw [List.drop_take_self] at hc; cases hc⟩
      case round =>
        obtain ⟨k, rfl, hik, hk, HT⟩ := hrel
        clear hil
        by_cases hlt : k < t.size
        · obtain ⟨c, hcd⟩ : ∃ c : UInt8, t[k] = c := ⟨_, rfl⟩
          have HD : Hid (t.data.toList.drop k = c :: t.data.toList.drop (k + 1)) := by
            show _ = _
            rw [← hcd]
            exact List.drop_eq_getElem_cons (l := t.data.toList) (by rw [data_len]; exact hlt)
          have h0 : (0 : Int) ≤ (k : Int) := by omega
          have h1 : (k : Int) < (t.size : Int) := by omega
          by_cases h47 : c = 47
          · have HX := HT.out
            have q1 : ((c.toNat : Int) != 47) = false := by rw [h47]; rfl
            go_wp2
            go_meet
            case rel => exact ⟨k, rfl, hik, hk, rfl, HX, .inr ⟨c, _, HD.out, .inl h47⟩⟩
          by_cases h63 : c = 63
          · have q1 : ((c.toNat : Int) != 47) = true := by rw [h63]; rfl
            have q2 : ((c.toNat : Int) != 63) = false := by rw [h63]; rfl
            go_wp2
            go_meet
            case rel => exact ⟨k, rfl, hik, hk, rfl, HT.out, .inr ⟨c, _, HD.out, .inr h63⟩⟩
          · have q1 : ((c.toNat : Int) != 47) = true := bne_iff_ne.2 (fun e => h47 (UInt8.toNat_inj.1 (by simpa using Int.ofNat.inj e)))
            have q2 : ((c.toNat : Int) != 63) = true := bne_iff_ne.2 (fun e => h63 (UInt8.toNat_inj.1 (by simpa using Int.ofNat.inj e)))
            have HN : Hid (∀ c ∈ (t.data.toList.take (k + 1)).drop (i + 3), c ≠ 47 ∧ c ≠ 63) := fun d hd => by
              rw [take_snoc t k hlt, hcd, List.drop_append_of_le_length (by simp; omega)] at hd
              rcases List.mem_append.1 hd with hd | hd
              · exact HT.out d hd
              · obtain rfl := List.mem_singleton.1 hd
                exact ⟨h47, h63⟩
            clear h47 h63
            go_wp2
            go_round
            case rel => exact ⟨k + 1, by go_num, by omega, by omega, HN⟩
            case measure => simp [intOf]; omega
        · go_wp2
          go_meet
          case rel => exact ⟨k, rfl, hik, hk, rfl, HT.out, .inl (List.drop_eq_nil_of_le (by rw [data_len]; omega))⟩
    case rest =>
      obtain ⟨E, rfl, hE3, hE, rfl, HE⟩ := hcut
      have HT : Hid ((originP (t.extract 0 E).data.toList = none → parseL s.data.toList = .inl 3) ∧ ∀ sec h n p0 q g, originP (t.extract 0 E).data.toList = some (sec, h, n) → cutL 63 (t.extract E t.size).data.toList = (p0, q, g) → parseL s.data.toList = if sendL p0 && sendL q then (if (cleanL p0).length ≤ 200 then .inr (sec, h, n, cleanL p0, q) else .inl 2) else .inl 3) := by
        rw [upto_data, from_data]
        exact parse_tail H1.out HSC.out hE3 (by rw [data_len]; exact hE) HE.out.1 HE.out.2
      clear HE HSC hil
      go_wp2_with fail
      refine (refOrigin_any (t.extract 0 E) (by simp; omega) _ (MaxL.below HM.out hK1.out.bel)).mono ?_
      rintro e w3 ⟨hb3, ⟨sec, x, n, rfl, ho⟩ | ⟨rfl, ho⟩⟩
      · have HT2 : Hid (∀ p0 q g, cutL 63 (t.extract E t.size).data.toList = (p0, q, g) → parseL s.data.toList = if sendL p0 && sendL q then (if (cleanL p0).length ≤ 200 then .inr (sec, x.data.toList, n, cleanL p0, q) else .inl 2) else .inl 3) := fun p0 q g => HT.out.2 sec x.data.toList n p0 q g ho
        have hK3 : Hid (K5 w w3) := hK1.out.step hb3
        have hK4 : Hid (K5 w (w3.alloc (.cells #[.bool sec, .string x, .int .i64 n] 23))) := hK3.out.step ((Below.refl _ _).alloc (Nat.le_refl _) _)
        have HC4 : Hid (C3 (w3.alloc (.cells #[.bool sec, .string x, .int .i64 n] 23)) w3.heap.size (.bool sec) (.string x) (.int .i64 n)) := c3_new _ _ _ _ _
        clear hb3 ho HT hK3
        go_wp2_with fail
        generalize w3.alloc (.cells #[.bool sec, .string x, .int .i64 n] 23) = W4 at hK4 HC4 ⊢
        obtain ⟨r, HRD⟩ : ∃ r : ByteArray, Hid (t.extract E t.size = r) := ⟨_, rfl⟩
        rw [HRD.out] at HT2
        have hrz : r.size ≤ 500 := by rw [← HRD.out]; simp; omega
        have hrl : r.data.toList.length = r.size := Array.length_toList
        rw [HRD.out]
        refine (ix_of r 63 _ rfl _).mono ?_
        rintro e w5 ⟨rfl, hw5⟩
        obtain rfl := hw5.symm
        have hcut0 := ixOf_first r.data.toList 63
        obtain ⟨X, hX⟩ : ∃ X : Int, ixOf r.data.toList 63 = X := ⟨_, rfl⟩
        rw [hX]
        rw [hX] at hcut0
        go_upto_if 61 with fail
        go_cut [8, 9] from 62 (fun v8 v9 wc => ∃ (p q : ByteArray), v8 = .string p ∧ v9 = .string q ∧ p.size ≤ 500 ∧ q.size ≤ 500 ∧ Hid (K5 w wc) ∧ Hid (C3 wc w3.heap.size (.bool sec) (.string x) (.int .i64 n)) ∧ Hid (∃ g, cutL 63 r.data.toList = (p.data.toList, q.data.toList, g)))
        case first =>
          rcases hcut0 with ⟨rfl, hno⟩ | ⟨k, hk, rfl, hno, heq⟩
          · go_wp2
            go_meet
            case rel => exact ⟨r, ⟨#[]⟩, rfl, rfl, hrz, by decide, hK4, HC4, false, cutL_none 63 _ hno⟩
          · rw [hrl] at hk
            have HQ : Hid (cutL 63 r.data.toList = ((r.extract 0 k).data.toList, (r.extract (k + 1) r.size).data.toList, true)) := by
              show _ = _
              rw [upto_data, from_data]
              conv => lhs; rw [heq]
              exact cutL_some 63 _ _ hno
            clear hX hno heq
            have h0 : (0 : Int) ≤ (k : Int) := by omega
            have h1 : (k : Int) ≤ (r.size : Int) := by omega
            have h2 : (k : Int) + 1 ≤ (r.size : Int) := by omega
            have h3 : (0 : Int) ≤ (k : Int) + 1 := by omega
            have h4 : IntKind.i64.wrap ((k : Int) + 1) = ((k + 1 : Nat) : Int) := by rw [IntWalk.i64_in _ ⟨by omega, by omega⟩]; rfl
            go_wp2_with fail
            go_region
            all_goals go_wp2
            all_goals go_meet
            all_goals exact ⟨r.extract 0 k, r.extract (k + 1) r.size, rfl, rfl, by simp; omega, by simp; omega, hK4.out.step (Below.refl _ _).drew, HC4.out.step (Below.refl _ _).drew, true, HQ.out⟩
        case rest =>
          obtain ⟨p, q, rfl, rfl, hpz, hqz, HK, HC, HG⟩ := hcut
          clear hcut0 hX hK4 HC4
          obtain ⟨g, hg⟩ := HG.out
          have HR : Hid (parseL s.data.toList = if sendL p.data.toList && sendL q.data.toList then (if (cleanL p.data.toList).length ≤ 200 then .inr (sec, x.data.toList, n, cleanL p.data.toList, q.data.toList) else .inl 2) else .inl 3) := HT2.out _ _ _ hg
          clear HG hg HT2
          obtain ⟨sp, HSP⟩ : ∃ sp : Bool, Hid (sendL p.data.toList = sp) := ⟨_, rfl⟩
          obtain ⟨sq, HSQ⟩ : ∃ sq : Bool, Hid (sendL q.data.toList = sq) := ⟨_, rfl⟩
          go_wp2_with fail
          refine (refSend_any p (by omega) _).mono ?_
          rintro e w' ⟨rfl, hw'⟩
          obtain rfl := hw'.symm
          rw [HSP.out]
          cases sp
          · have HA : Hid (parseL s.data.toList = .inl 3) := by show _ = _; rw [HR.out, HSP.out]; rfl
            have c0 := HK.out.c0
            have c1 := HK.out.c1
            have c2 := HK.out.c2
            have c3 := HK.out.c3
            have c4 := HK.out.c4
            have cf := HK.out.f0
            go_wp2
            obtain ⟨y0, y1, y2, y3, y4⟩ := put5_cells (.bool false) (.string ⟨#[]⟩) (.int .i64 0) (.string ⟨#[]⟩) (.string ⟨#[]⟩) HK.out.has
            have hb5 := put5_below HK.out.bel (Nat.le_refl _) (.bool false) (.string ⟨#[]⟩) (.int .i64 0) (.string ⟨#[]⟩) (.string ⟨#[]⟩)
            (try simp only [Exit.inBlock, Exit.then])
            refine bodyPost_ret (v := .tuple #[.agg #[.bool false, .string ⟨#[]⟩, .int .i64 0, .string ⟨#[]⟩, .string ⟨#[]⟩], .int .i64 3]) ?_ rfl ⟨hb5, .inr ⟨3, rfl, HA⟩⟩
            simp [results, Tryd.f9, go_sem, y0, y1, y2, y3, y4]
          go_wp2_with fail
          refine (refSend_any q (by omega) _).mono ?_
          rintro e w' ⟨rfl, hw'⟩
          obtain rfl := hw'.symm
          rw [HSQ.out]
          cases sq
          · have HA : Hid (parseL s.data.toList = .inl 3) := by show _ = _; rw [HR.out, HSP.out, HSQ.out]; rfl
            have c0 := HK.out.c0
            have c1 := HK.out.c1
            have c2 := HK.out.c2
            have c3 := HK.out.c3
            have c4 := HK.out.c4
            have cf := HK.out.f0
            go_wp2
            obtain ⟨y0, y1, y2, y3, y4⟩ := put5_cells (.bool false) (.string ⟨#[]⟩) (.int .i64 0) (.string ⟨#[]⟩) (.string ⟨#[]⟩) HK.out.has
            have hb5 := put5_below HK.out.bel (Nat.le_refl _) (.bool false) (.string ⟨#[]⟩) (.int .i64 0) (.string ⟨#[]⟩) (.string ⟨#[]⟩)
            (try simp only [Exit.inBlock, Exit.then])
            refine bodyPost_ret (v := .tuple #[.agg #[.bool false, .string ⟨#[]⟩, .int .i64 0, .string ⟨#[]⟩, .string ⟨#[]⟩], .int .i64 3]) ?_ rfl ⟨hb5, .inr ⟨3, rfl, HA⟩⟩
            simp [results, Tryd.f9, go_sem, y0, y1, y2, y3, y4]
          have HR2 : Hid (parseL s.data.toList = if (cleanL p.data.toList).length ≤ 200 then .inr (sec, x.data.toList, n, cleanL p.data.toList, q.data.toList) else .inl 2) := by show _ = _; rw [HR.out, HSP.out, HSQ.out]; rfl
          obtain ⟨c, HCC⟩ : ∃ c : ByteArray, Hid (bs (cleanL p.data.toList) = c) := ⟨_, rfl⟩
          have HCL : Hid (cleanL p.data.toList = c.data.toList) := by show _ = _; rw [← HCC.out, bs_data]
          go_wp2_with fail
          refine (refClean_any p hpz _).mono ?_
          rintro e w6 ⟨rfl, hb6⟩
          rw [HCC.out]
          have hK6 : Hid (K5 w w6) := HK.out.step hb6
          have hC6 : Hid (C3 w6 w3.heap.size (.bool sec) (.string x) (.int .i64 n)) := HC.out.step hb6
          clear hb6 HK HC HR
          have c0 := hK6.out.c0
          have c1 := hK6.out.c1
          have c2 := hK6.out.c2
          have c3 := hK6.out.c3
          have c4 := hK6.out.c4
          have cf := hK6.out.f0
          have d0 := hC6.out.c0
          have d1 := hC6.out.c1
          have d2 := hC6.out.c2
          by_cases hc2 : c.size ≤ 200
          · have HA : Hid (parseL s.data.toList = .inr (sec, x.data.toList, n, c.data.toList, q.data.toList)) := by
              show _ = _
              rw [HR2.out, HCL.out, if_pos (by rw [data_len]; exact hc2)]
            go_wp2
            obtain ⟨y0, y1, y2, y3, y4⟩ := put5_cells (.bool sec) (.string x) (.int .i64 n) (.string c) (.string q) hK6.out.has
            have hb5 := put5_below hK6.out.bel (Nat.le_refl _) (.bool sec) (.string x) (.int .i64 n) (.string c) (.string q)
            (try simp only [Exit.inBlock, Exit.then])
            refine bodyPost_ret (v := .tuple #[.agg #[.bool sec, .string x, .int .i64 n, .string c, .string q], .int .i64 0]) ?_ rfl ⟨hb5, .inl ⟨sec, x, c, q, n, rfl, HA⟩⟩
            simp [results, Tryd.f9, go_sem, y0, y1, y2, y3, y4]
          · have HA : Hid (parseL s.data.toList = .inl 2) := by
              show _ = _
              rw [HR2.out, HCL.out, if_neg (by rw [data_len]; exact hc2)]
            go_wp2
            obtain ⟨y0, y1, y2, y3, y4⟩ := put5_cells (.bool false) (.string ⟨#[]⟩) (.int .i64 0) (.string ⟨#[]⟩) (.string ⟨#[]⟩) hK6.out.has
            have hb5 := put5_below hK6.out.bel (Nat.le_refl _) (.bool false) (.string ⟨#[]⟩) (.int .i64 0) (.string ⟨#[]⟩) (.string ⟨#[]⟩)
            (try simp only [Exit.inBlock, Exit.then])
            refine bodyPost_ret (v := .tuple #[.agg #[.bool false, .string ⟨#[]⟩, .int .i64 0, .string ⟨#[]⟩, .string ⟨#[]⟩], .int .i64 2]) ?_ rfl ⟨hb5, .inr ⟨2, rfl, HA⟩⟩
            simp [results, Tryd.f9, go_sem, y0, y1, y2, y3, y4]
      · have HA : Hid (parseL s.data.toList = .inl 3) := HT.out.1 ho
        have hK3 : Hid (K5 w w3) := hK1.out.step hb3
        have hK4 : Hid (K5 w (w3.alloc zeroO)) := hK3.out.step ((Below.refl _ _).alloc (Nat.le_refl _) _)
        have c0 := hK4.out.c0
        have c1 := hK4.out.c1
        have c2 := hK4.out.c2
        have c3 := hK4.out.c3
        have c4 := hK4.out.c4
        have cf := hK4.out.f0
        clear hb3 ho
        go_wp2
        obtain ⟨y0, y1, y2, y3, y4⟩ := put5_cells (.bool false) (.string ⟨#[]⟩) (.int .i64 0) (.string ⟨#[]⟩) (.string ⟨#[]⟩) hK4.out.has
        have hb5 := put5_below hK4.out.bel (Nat.le_refl _) (.bool false) (.string ⟨#[]⟩) (.int .i64 0) (.string ⟨#[]⟩) (.string ⟨#[]⟩)
        (try simp only [Exit.inBlock, Exit.then])
        refine bodyPost_ret (v := .tuple #[.agg #[.bool false, .string ⟨#[]⟩, .int .i64 0, .string ⟨#[]⟩, .string ⟨#[]⟩], .int .i64 3]) ?_ rfl ⟨hb5, .inr ⟨3, rfl, HA⟩⟩
        simp [results, Tryd.f9, go_sem, y0, y1, y2, y3, y4]
end Go.Proofs.YtpbipanafihabaaDoor
