/- Covers: whether passes allow a request, by the program. -/
import Derived.Test.YtoblpjknnchlmabGreatDoorRq9
import Derived.Test.YtoblpjknnchlmabGreatDoorCovD
import Derived.Test.YtoblpjknnchlmabGreatDoorIdQ9
import Derived.Test.YtoblpjknnchlmabGreatDoorAskd8
namespace Go.Proofs.YtoblpjknnchlmabGreatDoor
open Go.RowKit

set_option maxRecDepth 100000 in
set_option maxHeartbeats 2000000 in
theorem allowsM (p : PsV) (gm gr : Nat) (m : ByteArray) (wi : Bool) (w : World) (h1 : w.cell? ⟨gm, 0, none⟩ = some (.string m)) (h2 : w.cell? ⟨gr, 11, none⟩ = some (.bool wi)) :
    Calls Tryz.prog 44 #[.agg #[.bool p.fs, .string p.fh, .int .i64 p.fp, .bool p.us, .string p.uh, .int .i64 p.up, .string p.pa, .string p.qu, .bool p.wi, .string p.me, .string p.he, .int .i64 p.un], .pointer (some ⟨gm, 0, none⟩), .pointer (some ⟨gr, 0, none⟩)] w fun e w' => e = .returned (.bool (okM wi m p)) ∧ Below w.heap.size w w' := by
  have HB : Hid (BoxQ 50 w #[.bool p.fs, .string p.fh, .int .i64 p.fp, .bool p.us, .string p.uh, .int .i64 p.up, .string p.pa, .string p.qu, .bool p.wi, .string p.me, .string p.he, .int .i64 p.un] (w.alloc (.cells #[.bool p.fs, .string p.fh, .int .i64 p.fp, .bool p.us, .string p.uh, .int .i64 p.up, .string p.pa, .string p.qu, .bool p.wi, .string p.me, .string p.he, .int .i64 p.un] 50))) := BoxQ.new _ _ _
  have h1' : (w.alloc (.cells #[.bool p.fs, .string p.fh, .int .i64 p.fp, .bool p.us, .string p.uh, .int .i64 p.up, .string p.pa, .string p.qu, .bool p.wi, .string p.me, .string p.he, .int .i64 p.un] 50)).cell? ⟨gm, 0, none⟩ = some (.string m) := (HB.out.bel.cell (p := ⟨gm, 0, none⟩) (lt_cell9 h1)).trans h1
  have h2' : (w.alloc (.cells #[.bool p.fs, .string p.fh, .int .i64 p.fp, .bool p.us, .string p.uh, .int .i64 p.up, .string p.pa, .string p.qu, .bool p.wi, .string p.me, .string p.he, .int .i64 p.un] 50)).cell? ⟨gr, 11, none⟩ = some (.bool wi) := (HB.out.bel.cell (p := ⟨gr, 11, none⟩) (lt_cell9 h2)).trans h2
  have c9 := HB.out.at 9 _ rfl
  obtain ⟨q, HQ⟩ : ∃ q, Hid ((p.me.toList == m.toList) = q) := ⟨_, rfl⟩
  obtain ⟨r, HR⟩ : ∃ r, Hid ((p.me.toList == [42]) = r) := ⟨_, rfl⟩
  have q1 : (p.me.toList == m.toList) = q := HQ.out
  have r1 : (p.me.toList == [42]) = r := HR.out
  have HA : Hid (okM wi m p = (q || (r && !wi))) := by show _ = _; unfold okM; rw [q1, r1]
  clear h1 h2
  go_enter Tryz.func44, Tryz.ntmps44
  cases q
  · cases r
    · go_wp2
      go_ret
      exact ⟨ret_bool (by rw [HA.out]; rfl), HB.out.bel⟩
    · go_wp2
      go_ret
      exact ⟨ret_bool (by rw [HA.out]; simp), HB.out.bel⟩
  · go_wp2
    go_ret
    exact ⟨ret_bool (by rw [HA.out]; rfl), HB.out.bel⟩
set_option maxRecDepth 100000 in
set_option maxHeartbeats 2000000 in
theorem allowsH (p : PsV) (gm gr : Nat) (n : ByteArray) (wi : Bool) (w : World) (h1 : w.cell? ⟨gm, 0, none⟩ = some (.string n)) (h2 : w.cell? ⟨gr, 11, none⟩ = some (.bool wi)) :
    Calls Tryz.prog 48 #[.agg #[.bool p.fs, .string p.fh, .int .i64 p.fp, .bool p.us, .string p.uh, .int .i64 p.up, .string p.pa, .string p.qu, .bool p.wi, .string p.me, .string p.he, .int .i64 p.un], .pointer (some ⟨gm, 0, none⟩), .pointer (some ⟨gr, 0, none⟩)] w fun e w' => e = .returned (.bool (okH wi n p)) ∧ Below w.heap.size w w' := by
  have HB : Hid (BoxQ 50 w #[.bool p.fs, .string p.fh, .int .i64 p.fp, .bool p.us, .string p.uh, .int .i64 p.up, .string p.pa, .string p.qu, .bool p.wi, .string p.me, .string p.he, .int .i64 p.un] (w.alloc (.cells #[.bool p.fs, .string p.fh, .int .i64 p.fp, .bool p.us, .string p.uh, .int .i64 p.up, .string p.pa, .string p.qu, .bool p.wi, .string p.me, .string p.he, .int .i64 p.un] 50))) := BoxQ.new _ _ _
  have h1' : (w.alloc (.cells #[.bool p.fs, .string p.fh, .int .i64 p.fp, .bool p.us, .string p.uh, .int .i64 p.up, .string p.pa, .string p.qu, .bool p.wi, .string p.me, .string p.he, .int .i64 p.un] 50)).cell? ⟨gm, 0, none⟩ = some (.string n) := (HB.out.bel.cell (p := ⟨gm, 0, none⟩) (lt_cell9 h1)).trans h1
  have h2' : (w.alloc (.cells #[.bool p.fs, .string p.fh, .int .i64 p.fp, .bool p.us, .string p.uh, .int .i64 p.up, .string p.pa, .string p.qu, .bool p.wi, .string p.me, .string p.he, .int .i64 p.un] 50)).cell? ⟨gr, 11, none⟩ = some (.bool wi) := (HB.out.bel.cell (p := ⟨gr, 11, none⟩) (lt_cell9 h2)).trans h2
  have c10 := HB.out.at 10 _ rfl
  obtain ⟨q, HQ⟩ : ∃ q, Hid ((p.he.toList == n.toList) = q) := ⟨_, rfl⟩
  obtain ⟨r, HR⟩ : ∃ r, Hid ((p.he.toList == [42]) = r) := ⟨_, rfl⟩
  have q1 : (p.he.toList == n.toList) = q := HQ.out
  have r1 : (p.he.toList == [42]) = r := HR.out
  have HA : Hid (okH wi n p = (q || (r && !wi && !(n.toList == [97, 117, 116, 104, 111, 114, 105, 122, 97, 116, 105, 111, 110])))) := by show _ = _; unfold okH; rw [q1, r1]
  clear h1 h2
  go_enter Tryz.func48, Tryz.ntmps48
  cases q
  · cases r
    · go_wp2
      go_ret
      exact ⟨ret_bool (by rw [HA.out]; rfl), HB.out.bel⟩
    · cases wi
      · go_wp2
        go_ret
        exact ⟨ret_bool (by rw [HA.out]; simp), HB.out.bel⟩
      · go_wp2
        go_ret
        exact ⟨ret_bool (by rw [HA.out]; rfl), HB.out.bel⟩
  · go_wp2
    go_ret
    exact ⟨ret_bool (by rw [HA.out]; rfl), HB.out.bel⟩
theorem kindM (ps : List PsV) (gm gr : Nat) (m : ByteArray) (wi : Bool) (w : World) (h1 : w.cell? ⟨gm, 0, none⟩ = some (.string m)) (h2 : w.cell? ⟨gr, 11, none⟩ = some (.bool wi)) :
    KindQ 44 #[.pointer (some ⟨gm, 0, none⟩), .pointer (some ⟨gr, 0, none⟩)] (okM wi m) ps w :=
  ⟨fun p _ W hW => allowsM p gm gr m wi W ((hW.cell (p := ⟨gm, 0, none⟩) (lt_cell9 h1)).trans h1) ((hW.cell (p := ⟨gr, 11, none⟩) (lt_cell9 h2)).trans h2), enters_at Tryz.func44 (by kernel_rfl) rfl⟩
theorem kindH (ps : List PsV) (gm gr : Nat) (n : ByteArray) (wi : Bool) (w : World) (h1 : w.cell? ⟨gm, 0, none⟩ = some (.string n)) (h2 : w.cell? ⟨gr, 11, none⟩ = some (.bool wi)) :
    KindQ 48 #[.pointer (some ⟨gm, 0, none⟩), .pointer (some ⟨gr, 0, none⟩)] (okH wi n) ps w :=
  ⟨fun p _ W hW => allowsH p gm gr n wi W ((hW.cell (p := ⟨gm, 0, none⟩) (lt_cell9 h1)).trans h1) ((hW.cell (p := ⟨gr, 11, none⟩) (lt_cell9 h2)).trans h2), enters_at Tryz.func48 (by kernel_rfl) rfl⟩
set_option maxRecDepth 100000 in
set_option maxHeartbeats 8000000 in
theorem covers9_any (hs : List Par) (hps : Small8 hs) (ra : Option Addr) (rl rc rb ro : Nat) (hrl : rl ≤ 60) (pt fp up : Int) (fs us wi : Bool) (fh uh pa qu me bo : ByteArray) (hme : me.size ≤ 3000)
    (ps : List PsV) (a0 : Option Addr) (len cap b off : Nat) (hlen : len ≤ 1000000) (w : World) (hm : Methods w) (hh : Pars w ra rl rb ro hs) (hx : Pss w a0 len b off ps) :
    Calls Tryz.prog 23 #[.agg #[.int .i64 pt, .bool fs, .string fh, .int .i64 fp, .bool us, .string uh, .int .i64 up, .string pa, .string qu, .string me, .slice ra rl rc, .bool wi, .string bo], .slice a0 len cap] w fun e w' => e = .returned (.bool (coversL wi (methodB me) (askedL hs) ps)) ∧ Below w.heap.size w w' := by
  have HQ : Hid (BoxQ 28 w #[.int .i64 pt, .bool fs, .string fh, .int .i64 fp, .bool us, .string uh, .int .i64 up, .string pa, .string qu, .string me, .slice ra rl rc, .bool wi, .string bo] (w.alloc (.cells #[.int .i64 pt, .bool fs, .string fh, .int .i64 fp, .bool us, .string uh, .int .i64 up, .string pa, .string qu, .string me, .slice ra rl rc, .bool wi, .string bo] 28))) := BoxQ.new _ _ _
  have HX : Hid (Pss w a0 len b off ps) := hx
  have HH : Hid (Pars w ra rl rb ro hs) := hh
  have HPS : Hid (Small8 hs) := hps
  have hmc := method_any me hme _ (hm.below HQ.out.bel (Nat.le_refl _))
  obtain ⟨m, HM⟩ : ∃ m, Hid (methodB me = m) := ⟨_, rfl⟩
  rw [HM.out] at hmc
  rw [HM.out]
  obtain ⟨xs, HXS⟩ : ∃ xs, Hid (askedL hs = xs) := ⟨_, rfl⟩
  rw [HXS.out]
  have hxl : xs.length ≤ 60 := by
    rw [← HXS.out]
    unfold askedL
    rw [List.length_map]
    have h1 := compact_len (sortL (tx (askedNames hs)))
    have h2 : (tx (askedNames hs)).length = (askedNames hs).length := by unfold tx; simp
    rw [sortL_len, h2] at h1
    have h3 := lens_le hs
    have h4 : (askedNames hs).length ≤ hs.length := by
      unfold askedNames
      split
      · rw [List.length_append]; omega
      · omega
    have := hh.len_eq
    omega
  clear hx hh hps hm
  have c9 := HQ.out.at 9 _ rfl
  go_enter Tryz.func23, Tryz.ntmps23
  go_wp2_with fail
  refine hmc.mono ?_
  rintro e w1 ⟨rfl, hb1⟩
  have HQ1 : Hid (BoxQ 28 w #[.int .i64 pt, .bool fs, .string fh, .int .i64 fp, .bool us, .string uh, .int .i64 up, .string pa, .string qu, .string me, .slice ra rl rc, .bool wi, .string bo] w1) := HQ.out.step hb1
  have HB2 : Hid (Below w1.heap.size w1 (w1.alloc (.cells #[.string m] 9))) := (Below.refl _ _).alloc (Nat.le_refl _) _
  have HQ2 : Hid (BoxQ 28 w #[.int .i64 pt, .bool fs, .string fh, .int .i64 fp, .bool us, .string uh, .int .i64 up, .string pa, .string qu, .string me, .slice ra rl rc, .bool wi, .string bo] (w1.alloc (.cells #[.string m] 9))) := HQ1.out.step HB2.out
  have cm : (w1.alloc (.cells #[.string m] 9)).cell? ⟨w1.heap.size, 0, none⟩ = some (.string m) := World.cell?_alloc_mark _ _ _ _ _
  have HCM : Hid ((w1.alloc (.cells #[.string m] 9)).cell? ⟨w1.heap.size, 0, none⟩ = some (.string m)) := cm
  have hlt1 := HQ1.out.lt
  clear hmc hb1 c9 HQ HQ1
  obtain ⟨z, HZ⟩ : ∃ z, Hid (simpleL m.toList = z) := ⟨_, rfl⟩
  have hsm := fun W => simple_any m W
  rw [HZ.out] at hsm
  have HW2 : Hid (Below w.heap.size w (w1.alloc (.cells #[.string m] 9))) := HQ2.out.bel
  have HCT : Hid (∀ (K : Nat) (lb : Array Value) (f : PsV → Bool) (W : World), Below w.heap.size w W → KindQ K lb f ps W → Calls Tryz.prog 46 #[.slice a0 len cap, .func (.func K) #[] lb] W fun e w' => e = .returned (.bool (ps.any f)) ∧ Below W.heap.size W w') :=
    fun K lb f W hW hk => containsQ_any K lb f ps W hk a0 len cap b off hlen (HX.out.below hW)
  obtain ⟨u, HU⟩ : ∃ u, Hid (ps.any (okM wi m) = u) := ⟨_, rfl⟩
  go_upto_region 3 with fail
  generalize hW : w1.alloc (.cells #[.string m] 9) = W2 at HB2 HQ2 HCM HW2 cm ⊢
  have HG : Hid (w1.heap.size < W2.heap.size) := by show _ < _; rw [← hW]; simp
  obtain ⟨gm, HGM⟩ : ∃ gm, Hid (w1.heap.size = gm) := ⟨_, rfl⟩
  rw [HGM.out] at HCM HG cm hlt1 ⊢
  clear hW
  have HKM : Hid (∀ W, Below W2.heap.size W2 W → KindQ 44 #[.pointer (some ⟨gm, 0, none⟩), .pointer (some ⟨w.heap.size, 0, none⟩)] (okM wi m) ps W) := fun W hW =>
    kindM ps gm w.heap.size m wi W ((hW.cell (p := ⟨gm, 0, none⟩) (lt_cell9 HCM.out)).trans HCM.out) ((HQ2.out.step hW).at 11 _ rfl)
  go_cut [22] (fun v wc => v = .bool (!(z || u)) ∧ Hid (Below W2.heap.size W2 wc))
  case first =>
    go_wp2_with fail
    refine (hsm _).mono ?_
    rintro e w3 ⟨rfl, hw3⟩
    obtain rfl := hw3.symm
    cases z
    · go_wp2_with fail
      refine (HCT.out _ _ _ _ HW2.out (HKM.out _ (Below.refl _ _))).mono ?_
      rintro e w4 ⟨rfl, hb4⟩
      rw [HU.out]
      have HB4 : Hid (Below W2.heap.size W2 w4) := hb4
      clear hb4
      go_wp2
      go_meet
      exact ⟨rfl, HB4⟩
    · go_wp2
      go_meet
      exact ⟨rfl, Below.refl _ _⟩
  case rest =>
  obtain ⟨rfl, HBC⟩ := hcut
  clear hsm cm
  have HA : Hid (coversL wi m xs ps = ((z || u) && xs.all fun n => ps.any (okH wi n))) := by show _ = _; unfold coversL; rw [HZ.out, HU.out]
  cases hzu : (z || u)
  · have HE : Hid (coversL wi m xs ps = false) := by show _ = _; rw [HA.out, hzu]; rfl
    have HB4 : Hid (Below w.heap.size w wc) := HQ2.out.inB HBC.out
    go_wp2
    go_ret
    exact ⟨ret_bool HE.out.symm, HB4.out⟩
  have HE : Hid (coversL wi m xs ps = xs.all fun n => ps.any (okH wi n)) := by show _ = _; rw [HA.out, hzu, Bool.true_and]
  clear hzu HA HZ HU HKM HCM
  have HQC : Hid (BoxQ 28 w #[.int .i64 pt, .bool fs, .string fh, .int .i64 fp, .bool us, .string uh, .int .i64 up, .string pa, .string qu, .string me, .slice ra rl rc, .bool wi, .string bo] wc) := HQ2.out.step HBC.out
  have c10 := HQC.out.at 10 _ rfl
  go_wp2_with fail
  refine (asked8_any hs HPS.out ra rl rc rb ro hrl _ (HH.out.below HQC.out.bel)).mono ?_
  rintro e w5 ⟨⟨v, rfl, hown⟩, hb5⟩
  rw [HXS.out] at hown
  obtain ⟨xa, xc, xg, rfl, hst⟩ := hown.strs
  have HQ5 : Hid (BoxQ 28 w #[.int .i64 pt, .bool fs, .string fh, .int .i64 fp, .bool us, .string uh, .int .i64 up, .string pa, .string qu, .string me, .slice ra rl rc, .bool wi, .string bo] w5) := HQC.out.step hb5
  have HS5 : Hid (Strs w5 xa xs.length xg 0 xs) := hst
  clear hown hb5 hst c10 HQC HBC HQ2 HB2
  obtain ⟨n, HN⟩ : ∃ n, Hid (xs.length = n) := ⟨_, rfl⟩
  rw [HN.out] at HS5 hxl ⊢
  go_wp2
  go_loopw [27] (fun i wr => ∃ k : Nat, k ≤ n ∧ i = .int .i64 k ∧ Hid (Below w5.heap.size w5 wr) ∧ Hid (((xs.take k).all fun n => ps.any (okH wi n)) = true)) (fun i _ => n - (intOf i).toNat)
  case atStart => exact ⟨0, Nat.zero_le _, rfl, Below.refl _ _, rfl⟩
  case round =>
    obtain ⟨k, hk, rfl, HBR, HK⟩ := hrel
    by_cases hlt : k < n
    · have hltz : (k : Int) < (n : Int) := by omega
      obtain ⟨x, hx⟩ : ∃ x, xs[k]? = some x := ⟨xs[k]'(by have := HN.out; omega), List.getElem?_eq_getElem _⟩
      have HXK : Hid (xs[k]? = some x) := hx
      obtain ⟨ha, _⟩ := HS5.out.lies (by omega)
      subst ha
      have cx : wr.cell? ⟨xg, k, none⟩ = some (.string x) := by
        have := (HS5.out.below HBR.out).cells k x hx
        rwa [Nat.zero_add] at this
      have HBA : Hid (Below wr.heap.size wr (wr.alloc (.cells #[.string x] 9))) := (Below.refl _ _).alloc (Nat.le_refl _) _
      have cn : (wr.alloc (.cells #[.string x] 9)).cell? ⟨wr.heap.size, 0, none⟩ = some (.string x) := World.cell?_alloc_mark _ _ _ _ _
      have HQA : Hid (BoxQ 28 w #[.int .i64 pt, .bool fs, .string fh, .int .i64 fp, .bool us, .string uh, .int .i64 up, .string pa, .string qu, .string me, .slice ra rl rc, .bool wi, .string bo] (wr.alloc (.cells #[.string x] 9))) := (HQ5.out.step HBR.out).step HBA.out
      have HKH : Hid (KindQ 48 #[.pointer (some ⟨wr.heap.size, 0, none⟩), .pointer (some ⟨w.heap.size, 0, none⟩)] (okH wi x) ps (wr.alloc (.cells #[.string x] 9))) := kindH ps _ _ x wi _ cn (HQA.out.at 11 _ rfl)
      obtain ⟨t, HTT⟩ : ∃ t, Hid (ps.any (okH wi x) = t) := ⟨_, rfl⟩
      clear hx cn
      go_wp2_with fail
      refine (HCT.out _ _ _ _ HQA.out.bel HKH.out).mono ?_
      rintro e w6 ⟨rfl, hb6⟩
      rw [HTT.out]
      have HB6 : Hid (Below w5.heap.size w5 w6) := HBR.out.trans ((HBA.out.trans (hb6.mono HBA.out.size)).mono HBR.out.size)
      clear hb6 cx
      cases t
      · have HEE : Hid (coversL wi m xs ps = false) := by show _ = _; rw [HE.out]; exact not_all HXK.out HTT.out
        go_wp2
        go_ret
        exact ⟨ret_bool HEE.out.symm, HQ5.out.inB HB6.out⟩
      · have HKK : Hid (((xs.take (k + 1)).all fun n => ps.any (okH wi n)) = true) := take_all HK.out HXK.out HTT.out
        go_wp2
        go_roundw
        case rel => exact ⟨k + 1, by omega, by go_num, HB6, HKK⟩
        case measure => simp [intOf]; omega
    · have hltz : ¬ (k : Int) < (n : Int) := by omega
      have HEE : Hid (coversL wi m xs ps = true) := by
        have := HK.out
        rw [List.take_of_length_le (by have := HN.out; omega)] at this
        show _ = _
        rw [HE.out]
        exact this
      go_wp2
      go_ret
      exact ⟨ret_bool HEE.out.symm, HQ5.out.inB HBR.out⟩
end Go.Proofs.YtoblpjknnchlmabGreatDoor
