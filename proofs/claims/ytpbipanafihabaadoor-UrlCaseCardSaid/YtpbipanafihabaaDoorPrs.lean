/- The URL that a text is, by the program. -/
import Derived.Test.YtpbipanafihabaaDoorPrsQ
import Derived.Test.YtpbipanafihabaaDoorShClone
namespace Go.Proofs.YtpbipanafihabaaDoor
open Go.RowKit Go.Shelf

theorem clone_p (s : ByteArray) (w : World) (hs : s.size ≤ 5000) :
    Calls Tryd.prog 29 #[.string s] w fun e w' => e = .returned (.string s) ∧ Below w.heap.size w w' := by
  have hc : ∀ w, Calls Tryd.prog 57 #[.string s] w fun e w' => e = .returned (.string s) ∧ Below w.heap.size w w' := fun w => Any.stringslite_Clone laysM316 s w (by omega)
  go_enter Tryd.func29, Tryd.ntmps29
  go_wp2_with (go_at_call 57; refine (hc _).mono ?_; rintro e w' ⟨rfl, hb⟩)
  go_ret
  exact ⟨rfl, hb⟩
/-- What Parse answers: a URL, or an error's number. -/
def Answer (l : List UInt8) (e : Ending) : Prop :=
  (∃ (sec : Bool) (h p q : ByteArray) (n : Int), e = .returned (.tuple #[.agg #[.bool sec, .string h, .int .i64 n, .string p, .string q], .nilIface]) ∧ parseL l = .inr (sec, h.data.toList, n, p.data.toList, q.data.toList)) ∨
  (∃ c : Int, e = .returned (.tuple #[.agg #[.bool false, .string ⟨#[]⟩, .int .i64 0, .string ⟨#[]⟩, .string ⟨#[]⟩], .iface 24 (.int .i64 c)]) ∧ parseL l = .inl c)

set_option maxRecDepth 100000 in
set_option maxHeartbeats 2000000 in
theorem parse_any (s : ByteArray) (hs : s.size ≤ 900) (w : World) (h : Schemes w) :
    Calls Tryd.prog 10 #[.string s] w fun e w' => Below w.heap.size w w' ∧ Answer s.data.toList e := by
  have hsl : s.data.toList.length = s.size := Array.length_toList
  have hK0 : Hid (K5 w (w.alloc (.cells #[.bool false, .string ⟨#[]⟩, .int .i64 0, .string ⟨#[]⟩, .string ⟨#[]⟩] 34))) := k5_new w h
  clear h
  obtain ⟨t, x, f, h1⟩ : ∃ (t x : ByteArray) (f : Bool), cutL 35 s.data.toList = (t.data.toList, x.data.toList, f) := ⟨bs (cutL 35 s.data.toList).1, bs (cutL 35 s.data.toList).2.1, _, by rw [bs_data, bs_data]⟩
  obtain ⟨a, q, g, h2⟩ : ∃ (a q : ByteArray) (g : Bool), cutL 63 t.data.toList = (a.data.toList, q.data.toList, g) := ⟨bs (cutL 63 t.data.toList).1, bs (cutL 63 t.data.toList).2.1, _, by rw [bs_data, bs_data]⟩
  have hcl : ∀ (c : UInt8) (l : List UInt8), (cutL c l).1.length ≤ l.length ∧ (cutL c l).2.1.length ≤ l.length := by
    intro c l
    induction l with
    | nil => exact ⟨Nat.le_refl _, Nat.le_refl _⟩
    | cons b r ih =>
      unfold cutL
      split
      · simp
      · simp; omega
  have htz : t.size ≤ 900 := by
    have := (hcl 35 s.data.toList).1
    rw [h1, data_len, data_len] at this
    omega
  have haz : a.size ≤ 900 := by
    have := (hcl 63 t.data.toList).1
    rw [h2, data_len, data_len] at this
    omega
  have hqz : q.size ≤ 900 := by
    have := (hcl 63 t.data.toList).2
    rw [h2, data_len, data_len] at this
    omega
  have H1 : Hid (cutL 35 s.data.toList = (t.data.toList, x.data.toList, f)) := h1
  have H2 : Hid (cutL 63 t.data.toList = (a.data.toList, q.data.toList, g)) := h2
  clear h1 h2 hcl
  cases hsc : schemeL a.data.toList with
  | none =>
    have HS : Hid (schemeL a.data.toList = none) := hsc
    have HA : Hid (parseL s.data.toList = .inl 3) := parse_scheme H1.out H2.out hsc
    clear hsc
    go_enter Tryd.func10, Tryd.ntmps10
    go_wp2_with fail
    refine (cut_of s t x 35 f (by omega) H1.out _).mono ?_
    rintro e w1 ⟨rfl, hb1⟩
    have hK1 : Hid (K5 w w1) := hK0.out.step hb1
    clear hK0 hb1
    go_wp2_with fail
    refine (cut_of t a q 63 g (by omega) H2.out _).mono ?_
    rintro e w2 ⟨rfl, hb2⟩
    have hK2 : Hid (K5 w w2) := hK1.out.step hb2
    clear hK1 hb2
    go_wp2_with fail
    refine (scheme_no a (by omega) _ hK2.out.sch HS.out).mono ?_
    rintro e w3 ⟨rfl, hb3⟩
    have hK3 := hK2.out.step hb3
    have c0 := hK3.c0
    have c1 := hK3.c1
    have c2 := hK3.c2
    have c3 := hK3.c3
    have c4 := hK3.c4
    have cf := hK3.f0
    have cz := hK3.siz
    clear hK2 hb3
    go_wp2
    obtain ⟨y0, y1, y2, y3, y4⟩ := put5_cells (.bool false) (.string ⟨#[]⟩) (.int .i64 0) (.string ⟨#[]⟩) (.string ⟨#[]⟩) hK3.has
    have hb5 := put5_below hK3.bel (Nat.le_refl _) (.bool false) (.string ⟨#[]⟩) (.int .i64 0) (.string ⟨#[]⟩) (.string ⟨#[]⟩)
    (try simp only [Exit.inBlock, Exit.then])
    refine bodyPost_ret (v := .tuple #[.agg #[.bool false, .string ⟨#[]⟩, .int .i64 0, .string ⟨#[]⟩, .string ⟨#[]⟩], .iface 24 (.int .i64 3)]) ?_ rfl ⟨hb5.alloc hb5.size _, .inr ⟨3, rfl, HA⟩⟩
    have z0 := keepA (.cells #[.string ⟨#[]⟩, .bool false, .int .i64 0] 48) y0
    have z1 := keepA (.cells #[.string ⟨#[]⟩, .bool false, .int .i64 0] 48) y1
    have z2 := keepA (.cells #[.string ⟨#[]⟩, .bool false, .int .i64 0] 48) y2
    have z3 := keepA (.cells #[.string ⟨#[]⟩, .bool false, .int .i64 0] 48) y3
    have z4 := keepA (.cells #[.string ⟨#[]⟩, .bool false, .int .i64 0] 48) y4
    simp [results, Tryd.f10, go_sem, z0, z1, z2, z3, z4]
  | some p =>
    obtain ⟨sec, rl⟩ := p
    obtain ⟨r, rfl⟩ : ∃ r : ByteArray, r.data.toList = rl := ⟨bs rl, bs_data rl⟩
    have HS : Hid (schemeL a.data.toList = some (sec, r.data.toList)) := hsc
    have hrz : r.size ≤ 900 := by
      have hrl : r.data.toList.length ≤ a.data.toList.length := by
        unfold schemeL at hsc
        split at hsc
        · simp only [Option.some.injEq, Prod.mk.injEq] at hsc
          rw [← hsc.2, List.length_drop]
          omega
        · split at hsc
          · simp only [Option.some.injEq, Prod.mk.injEq] at hsc
            rw [← hsc.2, List.length_drop]
            omega
          · cases hsc
      rw [data_len, data_len] at hrl
      omega
    clear hsc
    obtain ⟨E, yy, kk, hE, hcs, hix⟩ := cut_slash r
    have H4 : Hid (cutL 47 r.data.toList = ((r.extract 0 E).data.toList, yy, kk)) := hcs
    clear hcs
    obtain ⟨mk, HM⟩ : ∃ mk : ByteArray, Hid (markOf sec = mk) := ⟨_, rfl⟩
    obtain ⟨pt, HP⟩ : ∃ pt : Int, Hid (portI sec = pt) := ⟨_, rfl⟩
    obtain ⟨hp, HHP⟩ : ∃ hp : ByteArray, Hid (r.extract 0 E = hp) := ⟨_, rfl⟩
    have hhz : (r.extract 0 E).size ≤ 900 := by simp; omega
    have hEi : (E : Int) ≤ (r.size : Int) := by omega
    have hE0 : (0 : Int) ≤ (E : Int) := by omega
    have hgl : 0 < w.heap.size + 1 := by
      have h9 := hK0.out.sch.lt
      rw [World.size_alloc] at h9
      exact h9
    go_enter Tryd.func10, Tryd.ntmps10
    go_wp2_with fail
    refine (cut_of s t x 35 f (by omega) H1.out _).mono ?_
    rintro e w1 ⟨rfl, hb1⟩
    have hK1 : Hid (K5 w w1) := hK0.out.step hb1
    clear hK0 hb1
    go_wp2_with fail
    refine (cut_of t a q 63 g (by omega) H2.out _).mono ?_
    rintro e w2 ⟨rfl, hb2⟩
    have hK2 : Hid (K5 w w2) := hK1.out.step hb2
    clear hK1 hb2
    go_wp2_with fail
    refine (scheme_yes a r sec (by omega) _ hK2.out.sch HS.out).mono ?_
    rintro e w3 ⟨rfl, hb3⟩
    rw [HM.out, HP.out]
    have hK3 : Hid (K5 w w3) := hK2.out.step hb3
    have hz3 : w.heap.size < w3.heap.size := hK3.out.siz
    clear hK2 hb3
    go_upto_if 47 with ((go_at_call 17; refine (ix_of r 47 _ rfl _).mono ?_; rintro e w' ⟨rfl, rfl⟩))
    go_cut [13] from 17 (fun v wc => v = .int .i64 (E : Int) ∧ wc = w3.alloc (.cells #[.string mk, .bool sec, .int .i64 pt] 48))
    case first =>
      rcases hix with ⟨hi, rfl⟩ | hi
      · rw [hi]
        go_wp2_with fail
        go_meet
        case rel => exact ⟨rfl, rfl⟩
      · rw [hi]
        go_wp2_with fail
        go_meet
        case rel => exact ⟨rfl, rfl⟩
    case rest =>
      obtain ⟨rfl, rfl⟩ := hcut
      clear hix
      have HQ : Hid ((w3.alloc (.cells #[.string mk, .bool sec, .int .i64 pt] 48)).drew.cell? ⟨w3.heap.size, 0, none⟩ = some (.string mk) ∧ (w3.alloc (.cells #[.string mk, .bool sec, .int .i64 pt] 48)).drew.cell? ⟨w3.heap.size, 1, none⟩ = some (.bool sec) ∧ (w3.alloc (.cells #[.string mk, .bool sec, .int .i64 pt] 48)).drew.cell? ⟨w3.heap.size, 2, none⟩ = some (.int .i64 pt) ∧ K5 w (w3.alloc (.cells #[.string mk, .bool sec, .int .i64 pt] 48)).drew) :=
        ⟨cells_new _ _ _ 0, cells_new _ _ _ 1, cells_new _ _ _ 2, hK3.out.step (((Below.refl _ _).alloc (Nat.le_refl _) _).drew)⟩
      cases hor : originL sec (r.extract 0 E).data.toList with
      | none =>
        have HO : Hid (originL sec (r.extract 0 E).data.toList = none) := hor
        have HA : Hid (parseL s.data.toList = .inl 3) := parse_origin H1.out H2.out HS.out H4.out hor
        clear hor
        go_upto_region 11 with fail
        go_cut [14, 15] from 17 (fun v u wc => ∃ B : Nat, v = .pointer (some ⟨B, 0, none⟩) ∧ u = .iface 24 (.int .i64 3) ∧ Hid (K5 w wc))
        case first =>
          go_region_held3 (fun W => W.cell? ⟨w3.heap.size, 0, none⟩ = some (.string mk) ∧ W.cell? ⟨w3.heap.size, 1, none⟩ = some (.bool sec) ∧ W.cell? ⟨w3.heap.size, 2, none⟩ = some (.int .i64 pt) ∧ K5 w W) (first | assumption | exact HQ.out | exact keepK (by assumption) ((Below.refl _ _).alloc (Nat.le_refl _) _) | exact keepK3 (by assumption) (Nat.lt_succ_self _) (by omega) (by omega)) (
            (go_at_call 21; refine (originOf_no sec mk (r.extract 0 E) hhz _ pt HP HO.out).mono ?_; rintro e w4 ⟨rfl, hb4⟩; have hQ4 := keepK (by assumption) hb4; have t0 := freshC (w3.heap.size + 1) hb4; have t1 := freshF (w3.heap.size + 1) hb4))
          · go_wp2_with fail
            go_meet
            case rel => exact ⟨w4.heap.size, rfl, rfl, hQ4.2.2.2.step ((Below.refl _ _).alloc (Nat.le_refl _) _)⟩
          · go_wp2_with fail
            go_meet
            case rel => exact ⟨_, rfl, rfl, (keepK3 hQ4 (Nat.lt_succ_self _) (by omega) (by omega)).2.2.2⟩
        case rest =>
          obtain ⟨B, rfl, rfl, HK⟩ := hcut
          have c0 := HK.out.c0
          have c1 := HK.out.c1
          have c2 := HK.out.c2
          have c3 := HK.out.c3
          have c4 := HK.out.c4
          have cf := HK.out.f0
          clear HQ
          go_wp2
          obtain ⟨y0, y1, y2, y3, y4⟩ := put5_cells (.bool false) (.string ⟨#[]⟩) (.int .i64 0) (.string ⟨#[]⟩) (.string ⟨#[]⟩) HK.out.has
          have hb5 := put5_below HK.out.bel (Nat.le_refl _) (.bool false) (.string ⟨#[]⟩) (.int .i64 0) (.string ⟨#[]⟩) (.string ⟨#[]⟩)
          (try simp only [Exit.inBlock, Exit.then])
          refine bodyPost_ret (v := .tuple #[.agg #[.bool false, .string ⟨#[]⟩, .int .i64 0, .string ⟨#[]⟩, .string ⟨#[]⟩], .iface 24 (.int .i64 3)]) ?_ rfl ⟨hb5, .inr ⟨3, rfl, HA⟩⟩
          simp [results, Tryd.f10, go_sem, y0, y1, y2, y3, y4]
      | some pr =>
        obtain ⟨hl, n⟩ := pr
        obtain ⟨ho, rfl⟩ : ∃ ho : ByteArray, ho.data.toList = hl := ⟨bs hl, bs_data hl⟩
        have HO : Hid (originL sec (r.extract 0 E).data.toList = some (ho.data.toList, n)) := hor
        obtain ⟨pth, HPT⟩ : ∃ pth : ByteArray, Hid (r.extract E r.size = pth) := ⟨_, rfl⟩
        have hpz : pth.size ≤ 900 := by rw [← HPT.out]; simp; omega
        have HPL : Hid (r.data.toList.drop (r.extract 0 E).data.toList.length = pth.data.toList) := by
          show _ = _
          rw [← HPT.out, from_data, data_len]
          congr 1
          simp
          omega
        have HR : Hid (parseL s.data.toList = if sendL pth.data.toList && sendL q.data.toList then (if (cleanL pth.data.toList).length ≤ 200 then .inr (sec, ho.data.toList, n, cleanL pth.data.toList, q.data.toList) else .inl 2) else .inl 3) := by
          have h9 := parse_rest H1.out H2.out HS.out H4.out hor
          rw [HPL.out] at h9
          exact h9
        clear hor
        go_upto_region 11 with fail
        go_cut [14, 15] from 17 (fun v u wc => ∃ B : Nat, v = .pointer (some ⟨B, 0, none⟩) ∧ u = .nilIface ∧ w.heap.size < B ∧ wc.cell? ⟨B, 0, none⟩ = some (.bool sec) ∧ wc.cell? ⟨B, 1, none⟩ = some (.string ho) ∧ wc.cell? ⟨B, 2, none⟩ = some (.int .i64 n) ∧ Hid (K5 w wc))
        case first =>
          go_region_held3 (fun W => W.cell? ⟨w3.heap.size, 0, none⟩ = some (.string mk) ∧ W.cell? ⟨w3.heap.size, 1, none⟩ = some (.bool sec) ∧ W.cell? ⟨w3.heap.size, 2, none⟩ = some (.int .i64 pt) ∧ K5 w W) (first | assumption | exact HQ.out | exact keepK (by assumption) ((Below.refl _ _).alloc (Nat.le_refl _) _) | exact keepK3 (by assumption) (Nat.lt_succ_self _) (by omega) (by omega)) (
            (go_at_call 21; refine (originOf_yes sec mk (r.extract 0 E) ho n hhz _ pt HP HO.out).mono ?_; rintro e w4 ⟨rfl, hb4⟩; have hQ4 := keepK (by assumption) hb4; have t0 := freshC (w3.heap.size + 1) hb4; have t1 := freshF (w3.heap.size + 1) hb4))
          · go_wp2_with fail
            go_meet
            case rel => exact ⟨w4.heap.size, rfl, rfl, hQ4.2.2.2.siz, cells_new _ _ _ 0, cells_new _ _ _ 1, cells_new _ _ _ 2, hQ4.2.2.2.step ((Below.refl _ _).alloc (Nat.le_refl _) _)⟩
          · go_wp2_with fail
            go_meet
            case rel =>
              have hlt : w3.heap.size + 1 < ((w3.alloc (.cells #[.string mk, .bool sec, .int .i64 pt] 48)).alloc (.cells #[.bool false, .string ⟨#[]⟩, .int .i64 0] 23)).drew.heap.size := by simp
              have e9 : (w3.alloc (.cells #[.string mk, .bool sec, .int .i64 pt] 48)).heap.size = w3.heap.size + 1 := by simp
              have u : ∀ j, ((w3.alloc (.cells #[.string mk, .bool sec, .int .i64 pt] 48)).alloc (.cells #[.bool false, .string ⟨#[]⟩, .int .i64 0] 23)).drew.cell? ⟨w3.heap.size + 1, j, none⟩ = (#[.bool false, .string ⟨#[]⟩, .int .i64 0] : Array Value)[j]? := fun j => by
                have h9 := cells_new (w3.alloc (.cells #[.string mk, .bool sec, .int .i64 pt] 48)) #[.bool false, .string ⟨#[]⟩, .int .i64 0] 23 j
                rw [e9] at h9
                exact h9
              obtain ⟨y0, y1, y2⟩ := set3 (.bool sec) (.string ho) (.int .i64 n) ((t0 0 hlt).trans (u 0)) ((t0 1 hlt).trans (u 1)) ((t0 2 hlt).trans (u 2))
              exact ⟨_, rfl, rfl, by omega, y0, y1, y2, (keepK3 hQ4 (Nat.lt_succ_self _) (by omega) (by omega)).2.2.2⟩
        case rest =>
          obtain ⟨B, rfl, rfl, hBw, b0, b1, b2, HK⟩ := hcut
          clear HQ
          obtain ⟨sp, HSP⟩ : ∃ sp : Bool, Hid (sendL pth.data.toList = sp) := ⟨_, rfl⟩
          obtain ⟨sq, HSQ⟩ : ∃ sq : Bool, Hid (sendL q.data.toList = sq) := ⟨_, rfl⟩
          cases sp
          · have HA : Hid (parseL s.data.toList = .inl 3) := by show _ = _; rw [HR.out, HSP.out]; rfl
            have c0 := HK.out.c0
            have c1 := HK.out.c1
            have c2 := HK.out.c2
            have c3 := HK.out.c3
            have c4 := HK.out.c4
            have cf := HK.out.f0
            go_wp2_with fail
            refine (send_any (r.extract E r.size) (by rw [HPT.out]; omega) _).mono ?_
            rintro e w' ⟨rfl, rfl⟩
            rw [HPT.out, HSP.out]
            go_wp2
            obtain ⟨y0, y1, y2, y3, y4⟩ := put5_cells (.bool false) (.string ⟨#[]⟩) (.int .i64 0) (.string ⟨#[]⟩) (.string ⟨#[]⟩) HK.out.has
            have hb5 := put5_below HK.out.bel (Nat.le_refl _) (.bool false) (.string ⟨#[]⟩) (.int .i64 0) (.string ⟨#[]⟩) (.string ⟨#[]⟩)
            (try simp only [Exit.inBlock, Exit.then])
            refine bodyPost_ret (v := .tuple #[.agg #[.bool false, .string ⟨#[]⟩, .int .i64 0, .string ⟨#[]⟩, .string ⟨#[]⟩], .iface 24 (.int .i64 3)]) ?_ rfl ⟨hb5, .inr ⟨3, rfl, HA⟩⟩
            simp [results, Tryd.f10, go_sem, y0, y1, y2, y3, y4]
          cases sq
          · have HA : Hid (parseL s.data.toList = .inl 3) := by show _ = _; rw [HR.out, HSP.out, HSQ.out]; rfl
            have c0 := HK.out.c0
            have c1 := HK.out.c1
            have c2 := HK.out.c2
            have c3 := HK.out.c3
            have c4 := HK.out.c4
            have cf := HK.out.f0
            go_wp2_with fail
            refine (send_any (r.extract E r.size) (by rw [HPT.out]; omega) _).mono ?_
            rintro e w' ⟨rfl, rfl⟩
            rw [HPT.out, HSP.out]
            go_wp2_with fail
            refine (send_any q (by omega) _).mono ?_
            rintro e w' ⟨rfl, rfl⟩
            rw [HSQ.out]
            go_wp2
            obtain ⟨y0, y1, y2, y3, y4⟩ := put5_cells (.bool false) (.string ⟨#[]⟩) (.int .i64 0) (.string ⟨#[]⟩) (.string ⟨#[]⟩) HK.out.has
            have hb5 := put5_below HK.out.bel (Nat.le_refl _) (.bool false) (.string ⟨#[]⟩) (.int .i64 0) (.string ⟨#[]⟩) (.string ⟨#[]⟩)
            (try simp only [Exit.inBlock, Exit.then])
            refine bodyPost_ret (v := .tuple #[.agg #[.bool false, .string ⟨#[]⟩, .int .i64 0, .string ⟨#[]⟩, .string ⟨#[]⟩], .iface 24 (.int .i64 3)]) ?_ rfl ⟨hb5, .inr ⟨3, rfl, HA⟩⟩
            simp [results, Tryd.f10, go_sem, y0, y1, y2, y3, y4]
          · have HR2 : Hid (parseL s.data.toList = if (cleanL pth.data.toList).length ≤ 200 then .inr (sec, ho.data.toList, n, cleanL pth.data.toList, q.data.toList) else .inl 2) := by show _ = _; rw [HR.out, HSP.out, HSQ.out]; rfl
            obtain ⟨c, HC⟩ : ∃ c : ByteArray, Hid (bs (cleanL pth.data.toList) = c) := ⟨_, rfl⟩
            have HCL : Hid (cleanL pth.data.toList = c.data.toList) := by show _ = _; rw [← HC.out, bs_data]
            go_wp2_with fail
            refine (send_any (r.extract E r.size) (by rw [HPT.out]; omega) _).mono ?_
            rintro e w' ⟨rfl, rfl⟩
            rw [HPT.out, HSP.out]
            go_wp2_with fail
            refine (send_any q (by omega) _).mono ?_
            rintro e w' ⟨rfl, rfl⟩
            rw [HSQ.out]
            go_wp2_with fail
            refine (clean_any (r.extract E r.size) (by rw [HPT.out]; omega) _).mono ?_
            rintro e w6 ⟨rfl, hb6⟩
            rw [HPT.out, HC.out]
            have hK6 : Hid (K5 w w6) := HK.out.step hb6
            have d0 := (hb6.cell (p := ⟨B, 0, none⟩) (lt_of_cell b0)).trans b0
            have d1 := (hb6.cell (p := ⟨B, 1, none⟩) (lt_of_cell b1)).trans b1
            have d2 := (hb6.cell (p := ⟨B, 2, none⟩) (lt_of_cell b2)).trans b2
            clear hb6 b0 b1 b2
            by_cases hc2 : c.size ≤ 200
            · have HA : Hid (parseL s.data.toList = .inr (sec, ho.data.toList, n, c.data.toList, q.data.toList)) := by
                show _ = _
                rw [HR2.out, HCL.out, if_pos (by rw [data_len]; exact hc2)]
              have c0 := hK6.out.c0
              have c1 := hK6.out.c1
              have c2 := hK6.out.c2
              have c3 := hK6.out.c3
              have c4 := hK6.out.c4
              have cf := hK6.out.f0
              go_wp2_with fail
              go_region_with (go_at_call 29; refine (clone_p q _ (by omega)).mono ?_; rintro e w7 ⟨rfl, hb7⟩; have hK7 := ((hK6.out.step (Below.refl _ _).drew)).step hb7; have c0 := hK7.c0; have c1 := hK7.c1; have c2 := hK7.c2; have c3 := hK7.c3; have c4 := hK7.c4; have cf := hK7.f0; have d0 := (freshC B hb7 0 (by simpa using lt_of_cell d0)).trans d0; have d1 := (freshC B hb7 1 (by simpa using lt_of_cell d1)).trans d1; have d2 := (freshC B hb7 2 (by simpa using lt_of_cell d2)).trans d2)
              all_goals go_wp2
              all_goals
                obtain ⟨y0, y1, y2, y3, y4⟩ := put5_cells (.bool sec) (.string ho) (.int .i64 n) (.string c) (.string q) hK7.has
                have hb5 := put5_below hK7.bel (Nat.le_refl _) (.bool sec) (.string ho) (.int .i64 n) (.string c) (.string q)
                (try simp only [Exit.inBlock, Exit.then])
                refine bodyPost_ret (v := .tuple #[.agg #[.bool sec, .string ho, .int .i64 n, .string c, .string q], .nilIface]) ?_ rfl ⟨hb5, .inl ⟨sec, ho, c, q, n, rfl, HA⟩⟩
                simp [results, Tryd.f10, go_sem, y0, y1, y2, y3, y4]
            · have HA : Hid (parseL s.data.toList = .inl 2) := by
                show _ = _
                rw [HR2.out, HCL.out, if_neg (by rw [data_len]; exact hc2)]
              have c0 := hK6.out.c0
              have c1 := hK6.out.c1
              have c2 := hK6.out.c2
              have c3 := hK6.out.c3
              have c4 := hK6.out.c4
              have cf := hK6.out.f0
              go_wp2
              obtain ⟨y0, y1, y2, y3, y4⟩ := put5_cells (.bool false) (.string ⟨#[]⟩) (.int .i64 0) (.string ⟨#[]⟩) (.string ⟨#[]⟩) hK6.out.has
              have hb5 := put5_below hK6.out.bel (Nat.le_refl _) (.bool false) (.string ⟨#[]⟩) (.int .i64 0) (.string ⟨#[]⟩) (.string ⟨#[]⟩)
              (try simp only [Exit.inBlock, Exit.then])
              refine bodyPost_ret (v := .tuple #[.agg #[.bool false, .string ⟨#[]⟩, .int .i64 0, .string ⟨#[]⟩, .string ⟨#[]⟩], .iface 24 (.int .i64 2)]) ?_ rfl ⟨hb5, .inr ⟨2, rfl, HA⟩⟩
              simp [results, Tryd.f10, go_sem, y0, y1, y2, y3, y4]
end Go.Proofs.YtpbipanafihabaaDoor
