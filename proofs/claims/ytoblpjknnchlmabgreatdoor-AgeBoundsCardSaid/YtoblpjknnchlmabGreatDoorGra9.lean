/- Grant: what an answer allows a request, by the program. -/
import Derived.Test.YtoblpjknnchlmabGreatDoorGra9D
import Derived.Test.YtoblpjknnchlmabGreatDoorWds9
import Derived.Test.YtoblpjknnchlmabGreatDoorMay9
import Derived.Test.YtoblpjknnchlmabGreatDoorAge9
import Derived.Test.YtoblpjknnchlmabGreatDoorCov9
import Derived.Test.YtoblpjknnchlmabGreatDoorPfr9
import Derived.Test.YtoblpjknnchlmabGreatDoorRgH
import Derived.Deep.DeepCutAuto
import Derived.RegionTactic
namespace Go.Proofs.YtoblpjknnchlmabGreatDoor
open Go.RowKit
set_option linter.unusedVariables false

/-- What Grant answers. -/
def GraAns (p : PsV) (o : Except Int (List (ByteArray × ByteArray))) (B : Nat) (e : Ending) (w' : World) : Prop :=
  (∃ l v, o = .ok l ∧ l.length ≤ 80 ∧ e = .returned (.tuple #[v, .nilIface]) ∧ OwnX p w' B v l) ∨ (∃ n : Int, o = .error n ∧ e = .returned (.tuple #[.slice none 0 0, .iface 56 (.int .i64 n)]))
theorem wrap64_id {n : Int} (h0 : -9223372036854775808 ≤ n) (h1 : n ≤ 9223372036854775807) : IntKind.i64.wrap n = n := by
  simp [IntKind.wrap, IntKind.bits, IntKind.signed]
  omega
theorem strs_one (W : World) (x : ByteArray) : Strs (W.alloc (.cells #[.string x] 9)) (some ⟨W.heap.size, 0, none⟩) 1 W.heap.size 0 [x] := by
  refine ⟨rfl, fun _ => ⟨rfl, by simp⟩, fun j p hp => ?_⟩
  match j, hp with
  | 0, hp => cases hp; exact World.cell?_alloc_mark _ _ _ _ _
  | j + 1, hp => simp at hp
set_option maxRecDepth 100000 in
set_option maxHeartbeats 8000000 in
theorem grant9_any (ps : List Par) (hf : Few9 ps) (a0 : Option Addr) (len cap b off : Nat) (hq : List Par) (hps : Small8 hq) (ra : Option Addr) (rl rc rb ro : Nat) (hrl : rl ≤ 60) (pt fp up : Int) (fs us wi : Bool) (fh uh pa qu me bo : ByteArray)
    (z1 : fh.size ≤ 4000) (z2 : uh.size ≤ 4000) (z3 : pa.size ≤ 4000) (z4 : qu.size ≤ 4000) (z5 : me.size ≤ 3000) (h0 : -9223372036854775808 ≤ fp) (h1 : fp ≤ 9223372036854775807) (now : Int) (n0 : 0 ≤ now) (n1 : now ≤ 1099511627776)
    (w : World) (he : Env w) (hm : Methods w) (hx : Pars w a0 len b off ps) (hh : Pars w ra rl rb ro hq) :
    Calls Tryz.prog 22 #[.agg #[.int .i64 pt, .bool fs, .string fh, .int .i64 fp, .bool us, .string uh, .int .i64 up, .string pa, .string qu, .string me, .slice ra rl rc, .bool wi, .string bo], .slice a0 len cap, .int .i64 now] w fun e w' => GraAns ⟨fs, fh, fp, us, uh, up, pa, qu, wi, ⟨#[]⟩, ⟨#[]⟩, now + ageL ps⟩ (grantL ⟨fs, fh, fp, us, uh, up, pa, qu, wi, ⟨#[]⟩, ⟨#[]⟩, now + ageL ps⟩ (mayL wi (textL fs fh.data.toList fp) ps) wi (methodB me) (askedL hq) ps) w.heap.size e w' ∧ Below w.heap.size w w' := by
  obtain ⟨p, HPB⟩ : ∃ p : PsV, Hid (p = ⟨fs, fh, fp, us, uh, up, pa, qu, wi, ⟨#[]⟩, ⟨#[]⟩, now + ageL ps⟩) := ⟨_, rfl⟩
  rw [← HPB.out]
  obtain ⟨m, HM⟩ : ∃ m, Hid (methodB me = m) := ⟨_, rfl⟩
  rw [HM.out]
  obtain ⟨xs, HXS⟩ : ∃ xs, Hid (askedL hq = xs) := ⟨_, rfl⟩
  rw [HXS.out]
  obtain ⟨y, HMY⟩ : ∃ y, Hid (mayL wi (textL fs fh.data.toList fp) ps = y) := ⟨_, rfl⟩
  rw [HMY.out]
  obtain ⟨ag, HAG⟩ : ∃ ag, Hid (ageL ps = ag) := ⟨_, rfl⟩
  have hag := ageL_bounds ps
  rw [HAG.out] at hag HPB
  obtain ⟨ag0, ag1⟩ := hag
  have HQ : Hid (BoxQ 28 w #[.int .i64 pt, .bool fs, .string fh, .int .i64 fp, .bool us, .string uh, .int .i64 up, .string pa, .string qu, .string me, .slice ra rl rc, .bool wi, .string bo] (w.alloc (.cells #[.int .i64 pt, .bool fs, .string fh, .int .i64 fp, .bool us, .string uh, .int .i64 up, .string pa, .string qu, .string me, .slice ra rl rc, .bool wi, .string bo] 28))) := BoxQ.new _ _ _
  have HWM : Hid (∀ W, Below w.heap.size w W → Calls Tryz.prog 41 #[.slice a0 len cap, .string ⟨#[65, 99, 99, 101, 115, 115, 45, 67, 111, 110, 116, 114, 111, 108, 45, 65, 108, 108, 111, 119, 45, 77, 101, 116, 104, 111, 100, 115]⟩] W fun e w' => WdsAns (wordsO (fieldT mN ps)) W.heap.size e w' ∧ Below W.heap.size W w') := fun W hW => by
    have := words9_any ps hf ⟨#[65, 99, 99, 101, 115, 115, 45, 67, 111, 110, 116, 114, 111, 108, 45, 65, 108, 108, 111, 119, 45, 77, 101, 116, 104, 111, 100, 115]⟩ (by decide) a0 len cap b off W (hx.below hW)
    rw [← mN_is] at this
    exact this
  have HWH : Hid (∀ W, Below w.heap.size w W → Calls Tryz.prog 41 #[.slice a0 len cap, .string ⟨#[65, 99, 99, 101, 115, 115, 45, 67, 111, 110, 116, 114, 111, 108, 45, 65, 108, 108, 111, 119, 45, 72, 101, 97, 100, 101, 114, 115]⟩] W fun e w' => WdsAns (wordsO (fieldT hN ps)) W.heap.size e w' ∧ Below W.heap.size W w') := fun W hW => by
    have := words9_any ps hf ⟨#[65, 99, 99, 101, 115, 115, 45, 67, 111, 110, 116, 114, 111, 108, 45, 65, 108, 108, 111, 119, 45, 72, 101, 97, 100, 101, 114, 115]⟩ (by decide) a0 len cap b off W (hx.below hW)
    rw [← hN_is] at this
    exact this
  have HMA : Hid (∀ W, Below w.heap.size w W → Calls Tryz.prog 19 #[.agg #[.int .i64 pt, .bool fs, .string fh, .int .i64 fp, .bool us, .string uh, .int .i64 up, .string pa, .string qu, .string me, .slice ra rl rc, .bool wi, .string bo], .slice a0 len cap] W fun e w' => e = .returned (.bool y) ∧ Below W.heap.size W w') := fun W hW => by
    have := may9_any ps hf a0 len cap b off pt fp up fs us fh uh pa qu me bo ra rl rc wi z1 h0 h1 W (he.below hW (Nat.le_refl _)) (hx.below hW)
    rw [HMY.out] at this
    exact this
  have HAE : Hid (∀ W, Below w.heap.size w W → Calls Tryz.prog 20 #[.slice a0 len cap] W fun e w' => e = .returned (.int .i64 ag) ∧ Below W.heap.size W w') := fun W hW => by
    have := age9_any ps hf a0 len cap b off W (hx.below hW)
    rw [HAG.out] at this
    exact this
  have HME : Hid (∀ W, Below w.heap.size w W → Calls Tryz.prog 42 #[.string me] W fun e w' => e = .returned (.string m) ∧ Below W.heap.size W w') := fun W hW => by
    have := method_any me z5 W (hm.below hW (Nat.le_refl _))
    rw [HM.out] at this
    exact this
  have HCV : Hid (∀ (l : List PsV) (a : Option Addr) (n c g o : Nat) (W : World), n ≤ 1000000 → Below w.heap.size w W → Pss W a n g o l → Calls Tryz.prog 23 #[.agg #[.int .i64 pt, .bool fs, .string fh, .int .i64 fp, .bool us, .string uh, .int .i64 up, .string pa, .string qu, .string me, .slice ra rl rc, .bool wi, .string bo], .slice a n c] W fun e w' => e = .returned (.bool (coversL wi m xs l)) ∧ Below W.heap.size W w') := fun l a n c g o W hn hW hp => by
    have := covers9_any hq hps ra rl rc rb ro hrl pt fp up fs us wi fh uh pa qu me bo z5 l a n c g o hn W (hm.below hW (Nat.le_refl _)) (hh.below hW) hp
    rw [HM.out, HXS.out] at this
    exact this
  have HPF : Hid (∀ (ms hs : List ByteArray) (ma ha : Option Addr) (mn mc mb mo hn hc hb ho : Nat) (W : World), ms.length ≤ 100 → hs.length ≤ 100 → (∀ x ∈ hs, x.size ≤ 20000) → Strs W ma mn mb mo ms → Strs W ha hn hb ho hs → Calls Tryz.prog 43 #[.agg #[.int .i64 pt, .bool fs, .string fh, .int .i64 fp, .bool us, .string uh, .int .i64 up, .string pa, .string qu, .string me, .slice ra rl rc, .bool wi, .string bo], .int .i64 (now + ag), .slice ma mn mc, .slice ha hn hc] W fun e w' => (∃ v, e = .returned v ∧ OwnX p w' W.heap.size v (passL ms hs)) ∧ Below W.heap.size W w') := fun ms hs ma ha mn mc mb mo hn hc hb ho W l1 l2 l3 s1 s2 => by
    have := passesFor9_any pt fp up fs us wi fh uh pa qu me bo ra rl rc (by omega) (by omega) (by omega) (by omega) (now + ag) ms hs l1 l2 l3 ma ha mn mc mb mo hn hc hb ho W s1 s2
    rw [← HPB.out] at this
    exact this
  have HFT : Hid ((fieldT hN ps).length ≤ 13590) := hf.len hN
  clear hf hps he hm hx hh z1 z2 z3 z4 z5 h0 h1 HPB HM HXS HMY HAG
  go_enter Tryz.func22, Tryz.ntmps22
  go_wp2_with fail
  refine (HWM.out _ HQ.out.bel).mono ?_
  rintro e w1 ⟨ha1, hb1⟩
  have HQ1 : Hid (BoxQ 28 w #[.int .i64 pt, .bool fs, .string fh, .int .i64 fp, .bool us, .string uh, .int .i64 up, .string pa, .string qu, .string me, .slice ra rl rc, .bool wi, .string bo] w1) := HQ.out.step hb1
  have HA1 : Hid (WdsAns (wordsO (fieldT mN ps)) w.heap.size e w1) := by
    rcases ha1 with ⟨ms, v, e1, e2, e3⟩ | h
    · exact .inl ⟨ms, v, e1, e2, World.ownsRow.mono e3 HQ.out.bel.size⟩
    · exact .inr h
  clear ha1 hb1 HQ
  rcases HA1.out with ⟨ms, v, hms, rfl, hown⟩ | ⟨hms, rfl⟩
  case' inr =>
    have HE : Hid (grantL p y wi m xs ps = .error 3) := grantL_bad1 hms
    clear hms HA1
    go_wp2_with fail
    refine (HWH.out _ HQ1.out.bel).mono ?_
    rintro e w2 ⟨ha2, hb2⟩
    have HQ2 : Hid (BoxQ 28 w #[.int .i64 pt, .bool fs, .string fh, .int .i64 fp, .bool us, .string uh, .int .i64 up, .string pa, .string qu, .string me, .slice ra rl rc, .bool wi, .string bo] w2) := HQ1.out.step hb2
    clear hb2
    rcases ha2 with ⟨hs, v2, _, rfl, _⟩ | ⟨_, rfl⟩
    · go_wp2
      go_ret2
      exact ⟨.inr ⟨3, HE.out, rfl⟩, HQ2.out.bel⟩
    · go_wp2
      go_ret2
      exact ⟨.inr ⟨3, HE.out, rfl⟩, HQ2.out.bel⟩
  obtain ⟨ma, mc, mg, rfl, hmst⟩ := OwnS.strs hown
  have HMS : Hid (wordsO (fieldT mN ps) = some ms ∧ Strs w1 ma ms.length mg 0 ms) := ⟨hms, hmst⟩
  have hml : ms.length ≤ 40 := (wordsO_len hms).1
  obtain ⟨mn, HMN⟩ : ∃ mn, Hid (ms.length = mn) := ⟨_, rfl⟩
  rw [HMN.out] at HMS hml
  clear hms hown hmst HA1
  rw [HMN.out]
  go_wp2_with fail
  refine (HWH.out _ HQ1.out.bel).mono ?_
  rintro e w2 ⟨ha2, hb2⟩
  have HQ2 : Hid (BoxQ 28 w #[.int .i64 pt, .bool fs, .string fh, .int .i64 fp, .bool us, .string uh, .int .i64 up, .string pa, .string qu, .string me, .slice ra rl rc, .bool wi, .string bo] w2) := HQ1.out.step hb2
  have HMS2 : Hid (Strs w2 ma mn mg 0 ms) := HMS.out.2.below hb2
  clear hb2
  rcases ha2 with ⟨hs, v2, hhs, rfl, hown⟩ | ⟨hhs, rfl⟩
  case' inr =>
    have HE : Hid (grantL p y wi m xs ps = .error 3) := grantL_bad2 hhs
    clear hhs
    go_wp2
    go_ret2
    exact ⟨.inr ⟨3, HE.out, rfl⟩, HQ2.out.bel⟩
  obtain ⟨hha, hhc, hhg, rfl, hhst⟩ := OwnS.strs hown
  have HHS : Hid (wordsO (fieldT hN ps) = some hs ∧ Strs w2 hha hs.length hhg 0 hs) := ⟨hhs, hhst⟩
  have hhl : hs.length ≤ 40 := (wordsO_len hhs).1
  have HHZ : Hid (∀ x ∈ hs, x.size ≤ 20000) := fun x hx => Nat.le_trans ((wordsO_len hhs).2 x hx) (Nat.le_trans HFT.out (by decide))
  obtain ⟨hn, HHN⟩ : ∃ hn, Hid (hs.length = hn) := ⟨_, rfl⟩
  rw [HHN.out] at HHS hhl
  clear hhs hown hhst HQ1
  rw [HHN.out]
  have c0 := HQ2.out.at 0 _ rfl
  have c1 := HQ2.out.at 1 _ rfl
  have c2 := HQ2.out.at 2 _ rfl
  have c3 := HQ2.out.at 3 _ rfl
  have c4 := HQ2.out.at 4 _ rfl
  have c5 := HQ2.out.at 5 _ rfl
  have c6 := HQ2.out.at 6 _ rfl
  have c7 := HQ2.out.at 7 _ rfl
  have c8 := HQ2.out.at 8 _ rfl
  have c9 := HQ2.out.at 9 _ rfl
  have c10 := HQ2.out.at 10 _ rfl
  have c11 := HQ2.out.at 11 _ rfl
  have c12 := HQ2.out.at 12 _ rfl
  go_wp2_with fail
  refine (HMA.out _ HQ2.out.bel).mono ?_
  rintro e w3 ⟨rfl, hb3⟩
  have HQ3 : Hid (BoxQ 28 w #[.int .i64 pt, .bool fs, .string fh, .int .i64 fp, .bool us, .string uh, .int .i64 up, .string pa, .string qu, .string me, .slice ra rl rc, .bool wi, .string bo] w3) := HQ2.out.step hb3
  have HR3 : Hid (Strs w3 ma mn mg 0 ms ∧ Strs w3 hha hn hhg 0 hs) := ⟨HMS2.out.below hb3, HHS.out.2.below hb3⟩
  clear hb3 HQ2 HMS2 c0 c1 c2 c3 c4 c5 c6 c7 c8 c9 c10 c11 c12
  cases y
  · have HE : Hid (grantL p false wi m xs ps = .error 6) := grantL_no HMS.out.1 HHS.out.1
    go_wp2
    go_ret2
    exact ⟨.inr ⟨6, HE.out, rfl⟩, HQ3.out.bel⟩
  have c9 := HQ3.out.at 9 _ rfl
  go_upto_if 37 with fail
  go_cut [8] (fun v wc => ∃ (a : Option Addr) (n c g : Nat), v = .slice a n c ∧ n ≤ 40 ∧ Hid (Strs wc a n g 0 (msOf ms m) ∧ Strs wc hha hn hhg 0 hs ∧ BoxQ 28 w #[.int .i64 pt, .bool fs, .string fh, .int .i64 fp, .bool us, .string uh, .int .i64 up, .string pa, .string qu, .string me, .slice ra rl rc, .bool wi, .string bo] wc))
  case first =>
    by_cases hz : mn = 0
    · subst hz
      have HE : Hid (msOf ms m = [m]) := by show _ = _; unfold msOf; rw [if_pos HMN.out]
      go_wp2_with fail
      refine (HME.out _ HQ3.out.bel).mono ?_
      rintro e w4 ⟨rfl, hb4⟩
      have HB5 : Hid (Below w3.heap.size w3 (w4.alloc (.cells #[.string m] 9))) := hb4.alloc hb4.size _
      clear hb4
      go_wp2
      go_meet
      exact ⟨_, 1, _, w4.heap.size, rfl, by omega, ⟨by rw [HE.out]; exact strs_one w4 m, HR3.out.2.below HB5.out, HQ3.out.step HB5.out⟩⟩
    · have HE : Hid (msOf ms m = ms) := by show _ = _; unfold msOf; rw [if_neg (by rw [HMN.out]; exact hz)]
      have hzz : ¬ (mn : Int) = 0 := by omega
      go_wp2
      go_meet
      exact ⟨ma, mn, mc, mg, rfl, hml, ⟨by rw [HE.out]; exact HR3.out.1, HR3.out.2, HQ3.out⟩⟩
  case rest =>
    obtain ⟨qa, qn, qc, qg, rfl, hqn, HC⟩ := hcut
    obtain ⟨wp, rfl⟩ : ∃ x, x = wc := ⟨_, rfl⟩
    clear c9 HQ3 HR3
    obtain ⟨mt, HMT⟩ : ∃ mt, Hid (msOf ms m = mt) := ⟨_, rfl⟩
    have HC' : Hid (Strs wp qa qn qg 0 mt ∧ Strs wp hha hn hhg 0 hs ∧ BoxQ 28 w #[.int .i64 pt, .bool fs, .string fh, .int .i64 fp, .bool us, .string uh, .int .i64 up, .string pa, .string qu, .string me, .slice ra rl rc, .bool wi, .string bo] wp) := by rw [← HMT.out]; exact HC.out
    clear HC
    have hbase : ∀ W, Below wp.heap.size wp W → W.cell? ⟨w.heap.size, 0, none⟩ = some (.int .i64 pt) ∧ W.cell? ⟨w.heap.size, 1, none⟩ = some (.bool fs) ∧ W.cell? ⟨w.heap.size, 2, none⟩ = some (.string fh) ∧ W.cell? ⟨w.heap.size, 3, none⟩ = some (.int .i64 fp) ∧ W.cell? ⟨w.heap.size, 4, none⟩ = some (.bool us) ∧ W.cell? ⟨w.heap.size, 5, none⟩ = some (.string uh) ∧ W.cell? ⟨w.heap.size, 6, none⟩ = some (.int .i64 up) ∧ W.cell? ⟨w.heap.size, 7, none⟩ = some (.string pa) ∧ W.cell? ⟨w.heap.size, 8, none⟩ = some (.string qu) ∧ W.cell? ⟨w.heap.size, 9, none⟩ = some (.string me) ∧ W.cell? ⟨w.heap.size, 10, none⟩ = some (.slice ra rl rc) ∧ W.cell? ⟨w.heap.size, 11, none⟩ = some (.bool wi) ∧ W.cell? ⟨w.heap.size, 12, none⟩ = some (.string bo) ∧ Hid (Below wp.heap.size wp W) := fun W hW => (have hq := HC'.out.2.2.step hW; ⟨hq.at 0 _ rfl, hq.at 1 _ rfl, hq.at 2 _ rfl, hq.at 3 _ rfl, hq.at 4 _ rfl, hq.at 5 _ rfl, hq.at 6 _ rfl, hq.at 7 _ rfl, hq.at 8 _ rfl, hq.at 9 _ rfl, hq.at 10 _ rfl, hq.at 11 _ rfl, hq.at 12 _ rfl, hW⟩)
    have hS := hbase _ (Below.refl _ _).drew
    go_upto_region 9 with fail
    go_cut [12] (fun s12 w5 => ∃ v5 : Value, v5 = s12 ∧ Hid (Below wp.heap.size wp w5 ∧ OwnX p w5 wp.heap.size v5 (passL mt hs)))
    case first =>
      refine wp_region_held_drew (S := fun W => W.cell? ⟨w.heap.size, 0, none⟩ = some (.int .i64 pt) ∧ W.cell? ⟨w.heap.size, 1, none⟩ = some (.bool fs) ∧ W.cell? ⟨w.heap.size, 2, none⟩ = some (.string fh) ∧ W.cell? ⟨w.heap.size, 3, none⟩ = some (.int .i64 fp) ∧ W.cell? ⟨w.heap.size, 4, none⟩ = some (.bool us) ∧ W.cell? ⟨w.heap.size, 5, none⟩ = some (.string uh) ∧ W.cell? ⟨w.heap.size, 6, none⟩ = some (.int .i64 up) ∧ W.cell? ⟨w.heap.size, 7, none⟩ = some (.string pa) ∧ W.cell? ⟨w.heap.size, 8, none⟩ = some (.string qu) ∧ W.cell? ⟨w.heap.size, 9, none⟩ = some (.string me) ∧ W.cell? ⟨w.heap.size, 10, none⟩ = some (.slice ra rl rc) ∧ W.cell? ⟨w.heap.size, 11, none⟩ = some (.bool wi) ∧ W.cell? ⟨w.heap.size, 12, none⟩ = some (.string bo) ∧ Hid (Below wp.heap.size wp W)) (by kernel_rfl) hS (fun hHeld => ?_)
      refine takeH (i := 0) (d := some 42) (v := ?_) rfl rfl (by kernel_rfl) (by kernel_rfl) (by kernel_rfl) (fun _ _ _ h => h) (by rfl) ?_ (by assumption) ?_
      rotate_left
      · intro w hSw; (try dsimp only at hSw); obtain ⟨q0, q1, q2, q3, q4, q5, q6, q7, q8, q9, q10, q11, q12, _⟩ := hSw; go_simp; with_reducible rfl
      try simp only [Act.put, List.setIfInBounds_toArray, List.set_cons_zero, List.set_cons_succ]
      refine takeH (i := 1) (d := some 43) (v := ?_) rfl rfl (by kernel_rfl) (by kernel_rfl) (by kernel_rfl) (fun _ _ _ h => h) (by rfl) ?_ (by assumption) ?_
      rotate_left
      · intro w hSw; (try dsimp only at hSw); obtain ⟨q0, q1, q2, q3, q4, q5, q6, q7, q8, q9, q10, q11, q12, _⟩ := hSw; go_simp; with_reducible rfl
      try simp only [Act.put, List.setIfInBounds_toArray, List.set_cons_zero, List.set_cons_succ]
      refine takeH (i := 2) (d := some 44) (v := ?_) rfl rfl (by kernel_rfl) (by kernel_rfl) (by kernel_rfl) (fun _ _ _ h => h) (by rfl) ?_ (by assumption) ?_
      rotate_left
      · intro w hSw; (try dsimp only at hSw); obtain ⟨q0, q1, q2, q3, q4, q5, q6, q7, q8, q9, q10, q11, q12, _⟩ := hSw; go_simp; with_reducible rfl
      try simp only [Act.put, List.setIfInBounds_toArray, List.set_cons_zero, List.set_cons_succ]
      refine takeH (i := 5) (d := some 47) (v := ?_) rfl rfl (by kernel_rfl) (by kernel_rfl) (by kernel_rfl) (fun _ _ _ h => h) (by rfl) ?_ (by assumption) ?_
      rotate_left
      · intro w hSw; (try dsimp only at hSw); obtain ⟨q0, q1, q2, q3, q4, q5, q6, q7, q8, q9, q10, q11, q12, _⟩ := hSw; go_simp; with_reducible rfl
      try simp only [Act.put, List.setIfInBounds_toArray, List.set_cons_zero, List.set_cons_succ]
      refine takeH (i := 6) (d := some 48) (v := ?_) rfl rfl (by kernel_rfl) (by kernel_rfl) (by kernel_rfl) (fun _ _ _ h => h) (by rfl) ?_ (by assumption) ?_
      rotate_left
      · intro w hSw; (try dsimp only at hSw); obtain ⟨q0, q1, q2, q3, q4, q5, q6, q7, q8, q9, q10, q11, q12, _⟩ := hSw; go_simp; with_reducible rfl
      try simp only [Act.put, List.setIfInBounds_toArray, List.set_cons_zero, List.set_cons_succ]
      refine wpAnyH_ready (rs := [3]) (by kernel_rfl) (by simp) ?_
      refine AllReadyH.cons (by rfl) (fun K hKK => ?_) AllReadyH.nil
      go_simp
      refine (HAE.out _ (HC'.out.2.2.bel.trans ((show Below wp.heap.size wp wp.drew from (Below.refl _ _).drew).mono HC'.out.2.2.bel.size))).mono ?_
      rintro e w4 ⟨rfl, hb4⟩
      have HB4 : Hid (Below wp.heap.size wp w4) := (show Below wp.heap.size wp wp.drew from (Below.refl _ _).drew).trans hb4
      clear hb4
      go_wp2_with fail
      refine hKK.out _ _ (hbase _ HB4.out) (fun hHeld => ?_)
      clear hKK K
      try simp only [Act.put, List.setIfInBounds_toArray, List.set_cons_zero, List.set_cons_succ]
      have hwr : IntKind.i64.wrap (now + ag) = now + ag := wrap64_id (by omega) (by omega)
      refine takeH (i := 4) (d := some 46) (v := ?_) rfl rfl (by kernel_rfl) (by kernel_rfl) (by kernel_rfl) (fun _ _ _ h => h) (by rfl) ?_ (by assumption) ?_
      rotate_left
      · intro w hSw; (try dsimp only at hSw); obtain ⟨q0, q1, q2, q3, q4, q5, q6, q7, q8, q9, q10, q11, q12, _⟩ := hSw; go_simp; with_reducible rfl
      try simp only [Act.put, List.setIfInBounds_toArray, List.set_cons_zero, List.set_cons_succ]
      refine wpAnyH_ready (rs := [7]) (by kernel_rfl) (by simp) ?_
      refine AllReadyH.cons (by rfl) (fun K hKK => ?_) AllReadyH.nil
      go_simp
      refine (HPF.out mt hs qa hha qn qc qg 0 hn hhc hhg 0 _ (by have := HC'.out.1.len_eq; omega) (by have := HC'.out.2.1.len_eq; omega) HHZ.out (HC'.out.1.below HB4.out) (HC'.out.2.1.below HB4.out)).mono ?_
      rintro e w5 ⟨⟨v5, rfl, hv5⟩, hb5⟩
      have HB5 : Hid (Below wp.heap.size wp w5) := HB4.out.trans (hb5.mono HB4.out.size)
      have HV5 : Hid (OwnX p w5 wp.heap.size v5 (passL mt hs)) := OwnK.mono hv5 HB4.out.size
      clear hv5 hb5
      go_wp2_with fail
      refine hKK.out _ _ (hbase _ HB5.out) (fun hHeld => ?_)
      clear hKK K
      try simp only [Act.put, List.setIfInBounds_toArray, List.set_cons_zero, List.set_cons_succ]
      refine takeH (i := 8) (d := some 12) (v := ?_) rfl rfl (by kernel_rfl) (by kernel_rfl) (by kernel_rfl) (fun _ _ _ h => h) (by rfl) ?_ (by assumption) ?_
      rotate_left
      · intro w hSw; (try dsimp only at hSw); obtain ⟨q0, q1, q2, q3, q4, q5, q6, q7, q8, q9, q10, q11, q12, _⟩ := hSw; go_simp; with_reducible rfl
      try simp only [Act.put, List.setIfInBounds_toArray, List.set_cons_zero, List.set_cons_succ]
      refine wpAnyH_done (by kernel_rfl) ?_ _
      go_wp2_with fail
      go_meet
      exact ⟨v5, rfl, ⟨HB5.out, HV5.out⟩⟩
    case rest =>
    obtain ⟨v5, rfl, HV⟩ := hcut
    obtain ⟨w5, rfl⟩ : ∃ x, x = wc := ⟨_, rfl⟩
    have HB5 : Hid (Below wp.heap.size wp w5) := HV.out.1
    have HV5 : Hid (OwnX p w5 wp.heap.size v5 (passL mt hs)) := HV.out.2
    have hS5 := hbase _ HB5.out
    clear HV
    obtain ⟨xa, xc, xg, rfl, hps5⟩ := OwnX.pss HV5.out
    have HX5 : Hid (OwnX p w5 wp.heap.size (.slice xa (passL mt hs).length xc) (passL mt hs) ∧ Pss w5 xa (passL mt hs).length xg 0 ((passL mt hs).map p.of)) := ⟨HV5.out, hps5⟩
    have hpl : (passL mt hs).length ≤ 80 := by have := passL_len mt hs; have := HC'.out.1.len_eq; have := HC'.out.2.1.len_eq; omega
    obtain ⟨t, HT⟩ : ∃ t, Hid (coversL wi m xs ((passL mt hs).map p.of) = t) := ⟨_, rfl⟩
    have HG : Hid (grantL p true wi m xs ps = if t then .ok (passL mt hs) else .error 6) := by
      have e := grantL_cov (p := p) HMS.out.1 HHS.out.1 (t := t) (by rw [HMT.out]; exact HT.out)
      rw [HMT.out] at e
      exact e
    obtain ⟨pn, HPN⟩ : ∃ pn, Hid ((passL mt hs).length = pn) := ⟨_, rfl⟩
    rw [HPN.out] at HX5 hpl
    clear hps5 HV5 hS hbase
    obtain ⟨d0, d1, d2, d3, d4, d5, d6, d7, d8, d9, d10, d11, d12, _⟩ := hS5
    have HBW5 : Hid (Below w.heap.size w w5) := HC'.out.2.2.bel.trans (HB5.out.mono HC'.out.2.2.bel.size)
    rw [HPN.out]
    go_wp2_with fail
    refine (HCV.out _ xa pn xc xg 0 _ (by omega) HBW5.out HX5.out.2).mono ?_
    rintro e w6 ⟨rfl, hb6⟩
    rw [HT.out]
    have HB6 : Hid (Below w.heap.size w w6) := HBW5.out.trans (hb6.mono HBW5.out.size)
    have HX6 : Hid (OwnX p w6 w.heap.size (.slice xa pn xc) (passL mt hs)) := OwnK.mono (HX5.out.1.below hb6) HC'.out.2.2.bel.size
    clear hb6 d0 d1 d2 d3 d4 d5 d6 d7 d8 d9 d10 d11 d12
    cases t
    · go_wp2
      go_ret2
      exact ⟨.inr ⟨6, HG.out, rfl⟩, HB6.out⟩
    · go_wp2
      go_ret2
      exact ⟨.inl ⟨passL mt hs, _, HG.out, by rw [HPN.out]; exact hpl, rfl, HX6.out⟩, HB6.out⟩
end Go.Proofs.YtoblpjknnchlmabGreatDoor
