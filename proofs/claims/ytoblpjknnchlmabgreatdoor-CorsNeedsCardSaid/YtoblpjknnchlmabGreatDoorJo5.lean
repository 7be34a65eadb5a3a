/- Texts of one claim, joined: each begins with what it proves. -/
import Derived.Test.YtoblpjknnchlmabGreatDoorJo3
import Derived.Test.YtoblpjknnchlmabGreatDoorJo4
import Derived.Test.YtoblpjknnchlmabGreatDoorJo1
import Derived.Test.YtoblpjknnchlmabGreatDoorJo2
import Derived.Carry
import Derived.Deep.DeepCutAuto
import Derived.Deep.QuietTactic
import Derived.BigQuiet
import Derived.Deep.LoopGhost
import Derived.Deep.RegionHeld3
import Derived.RegionTactic
import Derived.ProofKit
import Derived.OpenShut
import Derived.SliceStrings
import Derived.SizedLaws
import Derived.Deep.Slices
import Derived.Deep.SlicePairs
import Derived.Deep.Strs
import Derived.Lib.SmallJoins
import Derived.Lib.LaidU8
/- The document's CorsCovers: a set of keys, struck through. -/
namespace Go.Proofs.YtoblpjknnchlmabGreatDoor
open Go.RowKit

theorem Strs.grown {w w' : World} {a0 : Option Addr} {len b off : Nat} {xs : List ByteArray} {row : Option Nat} (h : Strs w a0 len b off xs) (hg : w.grownBy w' row) (hr : some b ≠ row) : Strs w' a0 len b off xs := by
  refine ⟨h.len_eq, fun h0 => ⟨(h.lies h0).1, Nat.lt_of_lt_of_le (h.lies h0).2 hg.size⟩, fun j x hx => ?_⟩
  exact hg.cell (h.cells j x hx) hr
theorem grown_tr9 {a b c : World} {row : Option Nat} (h : a.grownBy b row) (k : b.grownBy c row) : a.grownBy c row :=
  ⟨k.os.trans h.os, k.tape.trans h.tape, k.output.trans h.output, Nat.le_trans h.size k.size, fun i hi hr => (k.block i (Nat.lt_of_lt_of_le hi h.size) hr).trans (h.block i hi hr)⟩
theorem grown_be9 {w w' : World} (hb : Below w.heap.size w w') (row : Option Nat) : w.grownBy w' row := ⟨hb.os, hb.tape, hb.output, hb.size, fun i hi _ => hb.block i hi⟩
theorem methodB_size (s : ByteArray) (h : s.size ≤ 3000) : (methodB s).size ≤ 3000 := by
  unfold methodB
  repeat' split
  all_goals first | exact h | decide
theorem bytes_cons (c : UInt8) (x : ByteArray) : ((⟨#[c]⟩ : ByteArray) ++ x).data.toList = c :: x.toList := by
  rw [ByteArray.toList_eq]
  simp
theorem bytes_cons_size (c : UInt8) (x : ByteArray) : ((⟨#[c]⟩ : ByteArray) ++ x).size = x.size + 1 := by
  rw [ByteArray.size_append]
  show 1 + _ = _
  omega
theorem below_grown {B : Nat} {a w w' : World} {b : Nat} (h : Below B a w) (hg : w.grownBy w' (some b)) (hb : B ≤ b) (hB : B ≤ w.heap.size) : Below B a w' :=
  h.trans ⟨hg.os, hg.tape, hg.output, hg.size, fun i hi => hg.block i (by omega) (by intro e; injection e; omega)⟩
theorem u8_eq9 (c d : UInt8) (n : Int) (h : (d.toNat : Int) = n) : ((c.toNat : Int) == n) = (c == d) := by
  subst h
  rw [Bool.eq_iff_iff, beq_iff_eq, beq_iff_eq]
  constructor
  · intro e
    exact UInt8.toNat_inj.1 (by omega)
  · rintro rfl
    rfl
set_option maxRecDepth 100000 in
set_option maxHeartbeats 8000000 in
theorem refCovers9_any (hs : List Par) (hps : Small8 hs) (ra : Option Addr) (rl rc rb ro : Nat) (hrl : rl ≤ 60) (pt fp up : Int) (fs us wi : Bool) (fh uh pa qu me bo : ByteArray) (hme : me.size ≤ 3000) (hxs : ∀ x ∈ askedL hs, x.size ≤ 3000)
    (ps : List PsV) (hpz : ∀ p ∈ ps, p.me.size ≤ 4000 ∧ p.he.size ≤ 4000) (a0 : Option Addr) (len cap b off : Nat) (hlen : len ≤ 60) (w : World) (hh : Pars w ra rl rb ro hs) (hx : Pss w a0 len b off ps) :
    Calls Tryz.prog 26 #[.agg #[.int .i64 pt, .bool fs, .string fh, .int .i64 fp, .bool us, .string uh, .int .i64 up, .string pa, .string qu, .string me, .slice ra rl rc, .bool wi, .string bo], .slice a0 len cap] w fun e w' => e = .returned (.bool (coversL wi (methodB me) (askedL hs) ps)) ∧ Below w.heap.size w w' := by
  have HQ : Hid (BoxQ 28 w #[.int .i64 pt, .bool fs, .string fh, .int .i64 fp, .bool us, .string uh, .int .i64 up, .string pa, .string qu, .string me, .slice ra rl rc, .bool wi, .string bo] (w.alloc (.cells #[.int .i64 pt, .bool fs, .string fh, .int .i64 fp, .bool us, .string uh, .int .i64 up, .string pa, .string qu, .string me, .slice ra rl rc, .bool wi, .string bo] 28))) := BoxQ.new _ _ _
  have HX : Hid (Pss w a0 len b off ps) := hx
  have HH : Hid (Pars w ra rl rb ro hs) := hh
  have HPS : Hid (Small8 hs) := hps
  have HPZ : Hid (∀ p ∈ ps, p.me.size ≤ 4000 ∧ p.he.size ≤ 4000) := hpz
  have HLN : Hid (ps.length = len) := hx.len_eq
  have hmc := fun W => refMethod_any me hme W
  have hmz : (methodB me).size ≤ 3000 := methodB_size me hme
  obtain ⟨m, HM⟩ : ∃ m, Hid (methodB me = m) := ⟨_, rfl⟩
  have hsm := fun W => refSimple_any m W
  rw [HM.out] at hmc hmz
  rw [HM.out]
  obtain ⟨xs, HXS⟩ : ∃ xs, Hid (askedL hs = xs) := ⟨_, rfl⟩
  rw [HXS.out] at hxs
  rw [HXS.out]
  have HXZ : Hid (∀ x ∈ xs, x.size ≤ 3000) := hxs
  have hxl : xs.length ≤ 60 := by
    rw [← HXS.out]
    unfold askedL
    rw [List.length_map]
    have h1 := compact_len (sortL (tx (askedNames hs)))
    have h2 : (tx (askedNames hs)).length = (askedNames hs).length := by unfold tx; simp
    rw [sortL_len, h2] at h1
    have h3 := lens_le hs
    have h4 : (askedNames hs).length ≤ hs.length := by
      unfold askedNames
      split
      · rw [List.length_append]; omega
      · omega
    have := hh.len_eq
    omega
  clear hx hh hps hxs hpz
  obtain ⟨z, HZ⟩ : ∃ z, Hid (simpleL m.toList = z) := ⟨_, rfl⟩
  rw [HZ.out] at hsm
  have HLS : Hid (∀ ps, (∀ l, left9 z m.toList xs wi ps l = false) → coversL wi m xs ps = true) := fun ps h => left_none m xs wi ps (by rw [HZ.out]; exact h)
  have HLF : Hid (∀ ps l, left9 z m.toList xs wi ps l = true → coversL wi m xs ps = false) := fun ps l h => left_some m xs wi ps l (by rw [HZ.out]; exact h)
  have hmm := @run_makeMap Tryz.prog
  have c9 := HQ.out.at 9 _ rfl
  go_enter Tryz.func26, Tryz.ntmps26
  go_wp2_with fail
  refine (hmc _).mono ?_
  rintro e w1 ⟨rfl, hb1⟩
  have HQ1 : Hid (BoxQ 28 w #[.int .i64 pt, .bool fs, .string fh, .int .i64 fp, .bool us, .string uh, .int .i64 up, .string pa, .string qu, .string me, .slice ra rl rc, .bool wi, .string bo] w1) := HQ.out.step hb1
  have hlt1 := HQ1.out.lt
  clear hb1 c9 hmc HQ
  have HO0 : Hid (Own9 (w1.alloc (.map #[] 0)) w1.heap.size 0 (fun _ => false)) := own9_made w1
  have HQ2 : Hid (BoxQ 28 w #[.int .i64 pt, .bool fs, .string fh, .int .i64 fp, .bool us, .string uh, .int .i64 up, .string pa, .string qu, .string me, .slice ra rl rc, .bool wi, .string bo] (w1.alloc (.map #[] 0))) := HQ1.out.step ((Below.refl _ _).alloc (Nat.le_refl _) _)
  have HG0 : Hid (w1.heap.size < (w1.alloc (.map #[] 0)).heap.size) := by show _ < _; simp
  have HB0 : Hid (Below w1.heap.size w1 (w1.alloc (.map #[] 0))) := (Below.refl _ _).alloc (Nat.le_refl _) _
  go_upto_region 3 with fail
  generalize hW : w1.alloc (.map #[] 0) = W2 at HO0 HQ2 HG0 HB0 ⊢
  obtain ⟨g, HGG⟩ : ∃ g, Hid (w1.heap.size = g) := ⟨_, rfl⟩
  rw [HGG.out] at HO0 HG0 HB0 hlt1 ⊢
  clear hW
  have HB2 : Hid (Below g w1 W2) := HB0.out
  go_wp2_with fail
  refine (hsm _).mono ?_
  rintro e w3 ⟨rfl, hw3⟩
  obtain rfl := hw3.symm
  clear hsm
  go_upto_if 18 with fail
  go_cut [] (fun wc => Hid (Own9 wc g 1 (keys9 z m.toList []) ∧ Below g w1 wc ∧ g < wc.heap.size))
  case first =>
    cases z
    · go_wp2_with (first | (at_mapUpdate; refine wp_put9 rfl _ _ _ _ rfl Tryz.underlying89 W2 g 0 _ rfl HO0.out (by omega) _ rfl (by rw [bytes_cons_size]; omega) rfl ?_; intro w4 ho4 hg4) | go_in)
      have HR : Hid (Own9 w4 g 1 (keys9 false m.toList []) ∧ Below g w1 w4 ∧ g < w4.heap.size) := ⟨ho4.congr fun l => by rw [bytes_cons]; simp [keys9], below_grown HB2.out hg4 (Nat.le_refl _) (Nat.le_of_lt HG0.out), Nat.lt_of_lt_of_le HG0.out hg4.size⟩
      clear ho4 hg4
      go_wp2
      go_meet
      exact HR
    · go_wp2
      go_meet
      exact ⟨(HO0.out.mono (by omega)).congr fun l => by simp [keys9], HB2.out, HG0.out⟩
  case rest =>
  have HCU := hcut
  clear hcut HO0 HG0 HB0 HB2
  have HQC : Hid (BoxQ 28 w #[.int .i64 pt, .bool fs, .string fh, .int .i64 fp, .bool us, .string uh, .int .i64 up, .string pa, .string qu, .string me, .slice ra rl rc, .bool wi, .string bo] wc) := ⟨HQ1.out.bel.trans (HCU.out.2.1.mono (Nat.le_of_lt hlt1)), (HCU.out.2.1.block _ hlt1).trans HQ1.out.row⟩
  have c10 := HQC.out.at 10 _ rfl
  go_wp2_with fail
  refine (refAsked8_any hs HPS.out ra rl rc rb ro hrl _ (HH.out.below HQC.out.bel)).mono ?_
  rintro e w5 ⟨⟨v, rfl, hown⟩, hb5⟩
  rw [HXS.out] at hown
  obtain ⟨xa, xc, xg, rfl, _⟩ := hown.strs
  have HS5 : Hid (OwnS w5 wc.heap.size (.slice xa xs.length xc) xs) := hown
  have HO5 : Hid (Own9 w5 g 1 (keys9 z m.toList []) ∧ Below g w1 w5 ∧ g < wc.heap.size ∧ wc.heap.size ≤ w5.heap.size) := ⟨HCU.out.1.kept (grown_be9 hb5 none) (by simp), HCU.out.2.1.trans (hb5.mono (Nat.le_of_lt HCU.out.2.2)), HCU.out.2.2, hb5.size⟩
  clear hown hb5 c10 HQC HCU
  obtain ⟨n, HN⟩ : ∃ n, Hid (xs.length = n) := ⟨_, rfl⟩
  rw [HN.out] at HS5 hxl
  rw [HN.out]
  obtain ⟨B5, HB5⟩ : ∃ B5, Hid (wc.heap.size = B5) := ⟨_, rfl⟩
  rw [HB5.out] at HS5 HO5
  go_wp2
  go_loopw [26] (fun i wr => ∃ k : Nat, k ≤ n ∧ i = .int .i64 k ∧ Hid (Own9 wr g (k + 1) (keys9 z m.toList (xs.take k)) ∧ w5.grownBy wr (some g))) (fun i _ => n - (intOf i).toNat)
  case atStart => exact ⟨0, Nat.zero_le _, rfl, HO5.out.1, World.grownBy.refl _ _⟩
  case round =>
    obtain ⟨k, hk, rfl, HI⟩ := hrel
    by_cases hlt : k < n
    · have hltz : (k : Int) < (n : Int) := by omega
      obtain ⟨x, hx⟩ : ∃ x, xs[k]? = some x := ⟨xs[k]'(by have := HN.out; omega), List.getElem?_eq_getElem _⟩
      have HXK : Hid (xs[k]? = some x) := hx
      have hxz := HXZ.out x (List.mem_of_getElem? hx)
      obtain ⟨ya, yc, yg, he, hst⟩ := (HS5.out.grown HI.out.2 HO5.out.2.2.1).strs
      injection he with he1 he2 he3
      subst he1
      obtain ⟨rfl, _⟩ := hst.lies (by have := HN.out; omega)
      have cx : wr.cell? ⟨yg, k, none⟩ = some (.string x) := by
        have := hst.cells k x hx
        rwa [Nat.zero_add] at this
      clear hx hst he2 he3
      go_wp2_with (first | (at_mapUpdate; refine wp_put9 rfl _ _ _ _ rfl Tryz.underlying89 wr g (k + 1) _ rfl HI.out.1 (by omega) _ rfl (by rw [bytes_cons_size]; omega) rfl ?_; intro w6 ho6 hg6) | go_in)
      have HR : Hid (Own9 w6 g (k + 1 + 1) (keys9 z m.toList (xs.take (k + 1))) ∧ w5.grownBy w6 (some g)) := ⟨ho6.congr fun l => by rw [bytes_cons, keys_next z m.toList xs k x HXK.out], grown_tr9 HI.out.2 hg6⟩
      clear ho6 hg6
      go_wp2
      go_roundw
      case rel => exact ⟨k + 1, by omega, by go_num, HR⟩
      case measure => simp [intOf]; omega
    · have hltz : ¬ (k : Int) < (n : Int) := by omega
      have HW : Hid (Own9 wr g (n + 1) (keys9 z m.toList xs) ∧ Below g w1 wr ∧ g < wr.heap.size) := by
        have h1 := HI.out.1
        rw [List.take_of_length_le (by have := HN.out; omega)] at h1
        exact ⟨h1.mono (by omega), below_grown HO5.out.2.1 HI.out.2 (Nat.le_refl _) (by have := HO5.out.2.2; omega), Nat.lt_of_lt_of_le (by have := HO5.out.2.2; omega) HI.out.2.size⟩
      clear HI hk HO5 HS5 HB5
      go_wp2
      go_loopw [36] (fun i wq => ∃ k : Nat, k ≤ len ∧ i = .int .i64 k ∧ Hid (Own9 wq g (n + 1) (left9 z m.toList xs wi (ps.take k)) ∧ Below g w1 wq ∧ g < wq.heap.size)) (fun i _ => len - (intOf i).toNat)
      case atStart => exact ⟨0, Nat.zero_le _, rfl, HW.out.1.congr fun l => by simp [left9], HW.out.2⟩
      case round =>
        clear hlt hltz
        obtain ⟨k, hk, rfl, HI⟩ := hrel
        by_cases hlt : k < len
        · have hltz : (k : Int) < (len : Int) := by omega
          obtain ⟨p, hp⟩ : ∃ p, ps[k]? = some p := ⟨ps[k]'(by have := HLN.out; omega), List.getElem?_eq_getElem _⟩
          have HPK : Hid (ps[k]? = some p) := hp
          have HPS2 : Hid (p.me.size ≤ 4000 ∧ p.he.size ≤ 4000) := HPZ.out p (List.mem_of_getElem? hp)
          have HWQ : Hid (Below w.heap.size w wr) := HQ1.out.bel.trans (HI.out.2.1.mono (Nat.le_of_lt hlt1))
          obtain ⟨rfl, _⟩ := HX.out.lies (by omega)
          obtain ⟨c0, c1, c2, c3, c4, c5, c6, c7, c8, c9, c10, c11⟩ := (HX.out.below HWQ.out).all (j := k) hp
          have HBX : Hid ((wr.alloc (.cells #[.bool p.fs, .string p.fh, .int .i64 p.fp, .bool p.us, .string p.uh, .int .i64 p.up, .string p.pa, .string p.qu, .bool p.wi, .string p.me, .string p.he, .int .i64 p.un] 50)).heap[wr.heap.size]? = some (.cells #[.bool p.fs, .string p.fh, .int .i64 p.fp, .bool p.us, .string p.uh, .int .i64 p.up, .string p.pa, .string p.qu, .bool p.wi, .string p.me, .string p.he, .int .i64 p.un] 50 (0, 0))) := heap_alloc_new wr _
          have HIA : Hid (Own9 (wr.alloc (.cells #[.bool p.fs, .string p.fh, .int .i64 p.fp, .bool p.us, .string p.uh, .int .i64 p.up, .string p.pa, .string p.qu, .bool p.wi, .string p.me, .string p.he, .int .i64 p.un] 50)) g (n + 1) (left9 z m.toList xs wi (ps.take k)) ∧ Below g w1 (wr.alloc (.cells #[.bool p.fs, .string p.fh, .int .i64 p.fp, .bool p.us, .string p.uh, .int .i64 p.up, .string p.pa, .string p.qu, .bool p.wi, .string p.me, .string p.he, .int .i64 p.un] 50)) ∧ g < wr.heap.size ∧ (wr.alloc (.cells #[.bool p.fs, .string p.fh, .int .i64 p.fp, .bool p.us, .string p.uh, .int .i64 p.up, .string p.pa, .string p.qu, .bool p.wi, .string p.me, .string p.he, .int .i64 p.un] 50)).heap.size = wr.heap.size + 1) := ⟨HI.out.1.kept (World.grownBy_alloc _ _ none) (by simp), HI.out.2.1.trans ((Below.refl _ _).alloc (Nat.le_of_lt HI.out.2.2) _), HI.out.2.2, by simp⟩
          have d9 : (wr.alloc (.cells #[.bool p.fs, .string p.fh, .int .i64 p.fp, .bool p.us, .string p.uh, .int .i64 p.up, .string p.pa, .string p.qu, .bool p.wi, .string p.me, .string p.he, .int .i64 p.un] 50)).cell? ⟨wr.heap.size, 9, none⟩ = some (.string p.me) := cells_of HBX.out 9 _ rfl
          clear hp HI HWQ
          go_upto_region 13 with fail
          clear c0 c1 c2 c3 c4 c5 c6 c7 c8 c9 c10 c11
          generalize hW : wr.alloc (.cells #[.bool p.fs, .string p.fh, .int .i64 p.fp, .bool p.us, .string p.uh, .int .i64 p.up, .string p.pa, .string p.qu, .bool p.wi, .string p.me, .string p.he, .int .i64 p.un] 50) = W3 at HBX HIA d9 ⊢
          clear hW
          obtain ⟨gp, HGP⟩ : ∃ gp, Hid (wr.heap.size = gp) := ⟨_, rfl⟩
          rw [HGP.out] at HBX HIA d9 ⊢
          have hgp : g < gp := HIA.out.2.2.1
          have hz1 : p.me.size ≤ 4000 := HPS2.out.1
          have hz2 : p.he.size ≤ 4000 := HPS2.out.2
          have hlg : gp < W3.heap.size := by rw [HIA.out.2.2.2]; omega
          go_wp2_with (first | (at_delete; refine wp_del9 rfl _ _ _ rfl Tryz.underlying89 W3 g (n + 1) _ rfl HIA.out.1 _ rfl (by rw [bytes_cons_size]; have := HPS2.out; omega) ?_; intro w7 ho7 hg7; have HO7 : Hid (Own9 w7 g (n + 1) _) := ho7; have HG7 : Hid (W3.grownBy w7 (some g)) := hg7; clear ho7 hg7; have HBX7 : Hid (w7.heap[gp]? = some (.cells #[.bool p.fs, .string p.fh, .int .i64 p.fp, .bool p.us, .string p.uh, .int .i64 p.up, .string p.pa, .string p.qu, .bool p.wi, .string p.me, .string p.he, .int .i64 p.un] 50 (0, 0))) := (HG7.out.block gp hlg (by simp; omega)).trans HBX.out; have d10 := cells_of HBX7.out 10 _ rfl) | (at_delete; refine wp_del9 rfl _ _ _ rfl Tryz.underlying89 w7 g (n + 1) _ rfl HO7.out _ rfl (by rw [bytes_cons_size]; have := HPS2.out; omega) ?_; intro w8 ho8 hg8; have HO8 : Hid (Own9 w8 g (n + 1) _) := ho8; have HG8 : Hid (w7.grownBy w8 (some g)) := hg8; clear ho8 hg8) | (at_range; refine wp_range9 rfl _ _ rfl Tryz.underlying89 w8 g (n + 1) _ rfl HO8.out ?_; intro w9 cnt9 hr9 hg9 hs9; have HR9 : Hid (Rng9 w9 g w8.heap.size (n + 1) _ _ cnt9) := hr9; have HG9 : Hid (w8.grownBy w9 none ∧ w9.heap.size = w8.heap.size + 1) := ⟨hg9, hs9⟩; clear hr9 hg9 hs9) | go_in)
          clear hz1 hz2
          go_frame
          obtain ⟨r, HR⟩ : ∃ r, Hid (w8.heap.size = r) := ⟨_, rfl⟩
          obtain ⟨F, HF⟩ : ∃ F : List UInt8 → Bool, Hid (F = fun l => (left9 z m.toList xs wi (ps.take k) l && !(l == 109 :: p.me.toList)) && !(l == 104 :: p.he.toList)) := ⟨_, rfl⟩
          have HBX9 : Hid (w9.heap[gp]? = some (.cells #[.bool p.fs, .string p.fh, .int .i64 p.fp, .bool p.us, .string p.uh, .int .i64 p.up, .string p.pa, .string p.qu, .bool p.wi, .string p.me, .string p.he, .int .i64 p.un] 50 (0, 0)) ∧ gp < r) := ⟨by rw [HG9.out.1.block gp (by have := HG8.out.size; have := HG7.out.size; omega) (by simp), HG8.out.block gp (by have := HG7.out.size; omega) (by simp; omega)]; exact HBX7.out, by rw [← HR.out]; have := HG8.out.size; have := HG7.out.size; omega⟩
          have HI9 : Hid (Rng9 w9 g r (n + 1) F F cnt9 ∧ Below g w1 w9 ∧ w9.heap.size = r + 1) := by
            refine ⟨?_, ?_, ?_⟩
            · rw [← HR.out]
              refine HR9.out.congr (fun l => ?_) (fun l => ?_) <;> rw [HF.out, bytes_cons, bytes_cons]
            · refine (below_grown (below_grown HIA.out.2.1 HG7.out (Nat.le_refl _) (by omega)) HG8.out (Nat.le_refl _) (by have := HG7.out.size; omega)).trans ⟨HG9.out.1.os, HG9.out.1.tape, HG9.out.1.output, HG9.out.1.size, fun i hi => HG9.out.1.block i (by have := HG8.out.size; have := HG7.out.size; omega) (by simp)⟩
            · rw [HG9.out.2, HR.out]
          rw [HR.out]
          have HFK : Hid (∀ l, F l = true → ∃ c t, l = c :: t ∧ t.length ≤ 3000) := fun l hl => by
            rw [HF.out] at hl
            simp only [Bool.and_eq_true] at hl
            obtain ⟨c, t, e, ht⟩ := left_key hl.1.1
            refine ⟨c, t, e, ?_⟩
            rcases ht with rfl | ⟨x, hx, rfl⟩
            · rw [ByteArray.toList_eq, Array.length_toList]; exact hmz
            · rw [ByteArray.toList_eq, Array.length_toList]; exact HXZ.out x hx
          have HFN : Hid (∀ l, left9 z m.toList xs wi (ps.take (k + 1)) l = (F l && !star9 wi p.me.toList p.he.toList l)) := fun l => by
            rw [left_next z m.toList xs wi ps k p HPK.out l, HF.out]
            unfold strikes
            dsimp only
            generalize left9 z m.toList xs wi (ps.take k) l = q1
            generalize (l == 109 :: p.me.toList) = q2
            generalize (l == 104 :: p.he.toList) = q3
            generalize star9 wi p.me.toList p.he.toList l = q4
            cases q1 <;> cases q2 <;> cases q3 <;> cases q4 <;> rfl
          clear HR9 HG9 HO8 HG8 HO7 HG7 HBX7 HBX HIA d9 hlg
          go_loopw [] (fun wr => ∃ (cnt : Nat) (f lf : List UInt8 → Bool), Hid (Rng9 wr g r (n + 1) f lf cnt ∧ Below g w1 wr ∧ r < wr.heap.size ∧ wr.heap[gp]? = some (.cells #[.bool p.fs, .string p.fh, .int .i64 p.fp, .bool p.us, .string p.uh, .int .i64 p.up, .string p.pa, .string p.qu, .bool p.wi, .string p.me, .string p.he, .int .i64 p.un] 50 (0, 0)) ∧ (∀ l, f l = (F l && (lf l || !star9 wi p.me.toList p.he.toList l))) ∧ ∀ l, lf l = true → F l = true)) (fun wr => wr.rangeLeft g r)
          case atStart => exact ⟨cnt9, F, F, HI9.out.1, HI9.out.2.1, by rw [HI9.out.2.2]; omega, HBX9.out.1, fun l => by cases F l <;> simp, fun l h => h⟩
          case round =>
            obtain ⟨cnt, f, lf, HJ⟩ := hrel
            go_wp2_with (first | (at_next; refine wp_next9 rfl _ rfl wr g r (n + 1) cnt f lf rfl HJ.out.1 ?_ ?_) | go_in)
            · intro hdone
              have HR : Hid (Own9 wr g (n + 1) (left9 z m.toList xs wi (ps.take (k + 1))) ∧ Below g w1 wr ∧ g < wr.heap.size) := ⟨HJ.out.1.own.congr fun l => by rw [HFN.out l, HJ.out.2.2.2.2.1 l, hdone l, Bool.false_or], HJ.out.2.1, by have := HJ.out.2.2.1; have := HBX9.out.2; omega⟩
              clear HJ hdone
              go_wp2
              go_roundw
              case rel => exact ⟨k + 1, by omega, by go_num, HR⟩
              case measure => simp [intOf]; omega
            · intro s c w10 cnt10 hlf hr10 hc10 hg10 hs10 hen
              obtain ⟨ch, tl, hct, htl⟩ := HFK.out _ (HJ.out.2.2.2.2.2 _ hlf)
              have hsz : s.size ≤ 3001 ∧ 0 < s.size := by
                have h1 : s.data.toList.length = s.size := Array.length_toList
                rw [hct, List.length_cons] at h1
                omega
              obtain ⟨hsz1, hsz0⟩ := hsz
              have hch : s.data[0]! = ch := by
                rw [getElem!_pos s.data 0 hsz0]
                have : s.data.toList[0]? = some ch := by rw [hct]; rfl
                rw [Array.getElem?_toList, Array.getElem?_eq_getElem hsz0] at this
                exact Option.some.inj this
              obtain ⟨T, HT⟩ : ∃ T, Hid (star9 wi p.me.toList p.he.toList s.data.toList = T) := ⟨_, rfl⟩
              have HJA : Hid (Rng9 w10 g r (n + 1) f (fun l => lf l && !(l == s.data.toList)) cnt10) := hr10
              have HJB : Hid (Below g w1 w10 ∧ r < w10.heap.size ∧ w10.heap[gp]? = some (.cells #[.bool p.fs, .string p.fh, .int .i64 p.fp, .bool p.us, .string p.uh, .int .i64 p.up, .string p.pa, .string p.qu, .bool p.wi, .string p.me, .string p.he, .int .i64 p.un] 50 (0, 0)) ∧ cnt10 < cnt ∧ wr.rangeLeft g r = cnt) := by
                have hr : g < r := by have := HBX9.out.2; omega
                refine ⟨below_grown HJ.out.2.1 hg10 (Nat.le_of_lt hr) (by have := HJ.out.2.2.1; omega), by rw [hs10]; exact HJ.out.2.2.1, (hg10.block gp (by have := HJ.out.2.2.1; have := HBX9.out.2; omega) (by simp; have := HBX9.out.2; omega)).trans HJ.out.2.2.2.1, hc10, HJ.out.1.left_eq⟩
              have HJC : Hid ((∀ l, f l = (F l && (lf l || !star9 wi p.me.toList p.he.toList l))) ∧ (∀ l, lf l = true → F l = true) ∧ lf s.data.toList = true) := ⟨HJ.out.2.2.2.2.1, HJ.out.2.2.2.2.2, hlf⟩
              have HCT : Hid (s.data.toList = ch :: tl) := hct
              have d9 := cells_of HJB.out.2.2.1 9 _ rfl
              have d10 := cells_of HJB.out.2.2.1 10 _ rfl
              have d11 : w10.cell? ⟨w.heap.size, 11, none⟩ = some (.bool wi) := (show BoxQ 28 w #[.int .i64 pt, .bool fs, .string fh, .int .i64 fp, .bool us, .string uh, .int .i64 up, .string pa, .string qu, .string me, .slice ra rl rc, .bool wi, .string bo] w10 from ⟨HQ1.out.bel.trans (HJB.out.1.mono (Nat.le_of_lt hlt1)), (HJB.out.1.block _ hlt1).trans HQ1.out.row⟩).at 11 _ rfl
              clear hr10 hg10 hs10 hc10 hlf HJ hct htl
              go_upto_region 18 with fail
              go_cut [80] (fun v wc => v = .bool T ∧ wc = w10)
              case first =>
                cases wi
                · obtain ⟨q1, HQ1A⟩ : ∃ q, Hid ((p.me.toList == [42]) = q) := ⟨_, rfl⟩
                  obtain ⟨q2, HQ2A⟩ : ∃ q, Hid ((p.he.toList == [42]) = q) := ⟨_, rfl⟩
                  obtain ⟨q3, HQ3A⟩ : ∃ q, Hid ((s.toList == [104, 97, 117, 116, 104, 111, 114, 105, 122, 97, 116, 105, 111, 110]) = q) := ⟨_, rfl⟩
                  obtain ⟨a1, HA1⟩ : ∃ q, Hid ((ch == 109) = q) := ⟨_, rfl⟩
                  obtain ⟨a2, HA2⟩ : ∃ q, Hid ((ch == 104) = q) := ⟨_, rfl⟩
                  have HTT : Hid ((q1 && a1 || q2 && (a2 && !q3)) = T) := by
                    show _ = _
                    rw [← HT.out, ← HQ1A.out, ← HQ2A.out, ← HQ3A.out, ← HA1.out, ← HA2.out, ByteArray.toList_eq (bs := s), HCT.out]
                    rfl
                  have e1 : (p.me.toList == [42]) = q1 := HQ1A.out
                  have e2 : (p.he.toList == [42]) = q2 := HQ2A.out
                  have e3 : (s.toList == [104, 97, 117, 116, 104, 111, 114, 105, 122, 97, 116, 105, 111, 110]) = q3 := HQ3A.out
                  have hs0 : (s[0]'hsz0) = ch := by
                    rw [← hch]
                    exact (getElem!_pos s.data 0 hsz0).symm
                  have i1 : (((s[0]'hsz0).toNat : Int) == 109) = a1 := by rw [hs0, ← HA1.out]; exact u8_eq9 ch 109 109 rfl
                  have i2 : (((s[0]'hsz0).toNat : Int) == 104) = a2 := by rw [hs0, ← HA2.out]; exact u8_eq9 ch 104 104 rfl
                  clear hs0
                  cases q1
                  · cases q2
                    · go_wp2
                      go_meet
                      exact ⟨congrArg Value.bool (by rw [← HTT.out]; first | rfl | simp), rfl⟩
                    · cases a2
                      · go_wp2
                        go_meet
                        exact ⟨congrArg Value.bool (by rw [← HTT.out]; first | rfl | simp), rfl⟩
                      · cases q3
                        · go_wp2
                          go_meet
                          exact ⟨congrArg Value.bool (by rw [← HTT.out]; first | rfl | simp), rfl⟩
                        · go_wp2
                          go_meet
                          exact ⟨congrArg Value.bool (by rw [← HTT.out]; first | rfl | simp), rfl⟩
                  · cases a1
                    · cases q2
                      · go_wp2
                        go_meet
                        exact ⟨congrArg Value.bool (by rw [← HTT.out]; first | rfl | simp), rfl⟩
                      · cases a2
                        · go_wp2
                          go_meet
                          exact ⟨congrArg Value.bool (by rw [← HTT.out]; first | rfl | simp), rfl⟩
                        · cases q3
                          · go_wp2
                            go_meet
                            exact ⟨congrArg Value.bool (by rw [← HTT.out]; first | rfl | simp), rfl⟩
                          · go_wp2
                            go_meet
                            exact ⟨congrArg Value.bool (by rw [← HTT.out]; first | rfl | simp), rfl⟩
                    · go_wp2
                      go_meet
                      exact ⟨congrArg Value.bool (by rw [← HTT.out]; first | rfl | simp), rfl⟩
                · go_wp2
                  go_meet
                  exact ⟨by rw [← HT.out]; rfl, rfl⟩
              case rest =>
              obtain ⟨rfl, rfl⟩ := hcut
              clear d9 d10 d11 hch hen
              cases T
              · have HR : Hid (Rng9 wc g r (n + 1) f (fun l => lf l && !(l == s.data.toList)) cnt10 ∧ Below g w1 wc ∧ r < wc.heap.size ∧ wc.heap[gp]? = some (.cells #[.bool p.fs, .string p.fh, .int .i64 p.fp, .bool p.us, .string p.uh, .int .i64 p.up, .string p.pa, .string p.qu, .bool p.wi, .string p.me, .string p.he, .int .i64 p.un] 50 (0, 0)) ∧ (∀ l, f l = (F l && ((lf l && !(l == s.data.toList)) || !star9 wi p.me.toList p.he.toList l))) ∧ ∀ l, (lf l && !(l == s.data.toList)) = true → F l = true) := by
                  refine ⟨HJA.out, HJB.out.1, HJB.out.2.1, HJB.out.2.2.1, fun l => ?_, fun l h => HJC.out.2.1 l (by simp at h; exact h.1)⟩
                  rw [HJC.out.1 l]
                  by_cases e : l = s.data.toList
                  · subst e
                    rw [HT.out]
                    simp
                  · have : (l == s.data.toList) = false := by simpa using e
                    rw [this]
                    simp
                go_wp2
                go_roundw
                case rel => exact ⟨cnt10, f, _, HR⟩
                case measure =>
                  rw [HJB.out.2.2.2.2, HJA.out.left_eq]
                  exact HJB.out.2.2.2.1
              · go_wp2_with (first | (at_delete; refine wp_delr9 rfl _ _ _ rfl Tryz.underlying89 wc g r (n + 1) cnt10 f _ rfl HJA.out s rfl (by omega) (by simp) ?_; intro w11 cnt11 hr11 hc11 hg11) | go_in)
                have HR : Hid (Rng9 w11 g r (n + 1) (fun l => f l && !(l == s.data.toList)) (fun l => lf l && !(l == s.data.toList)) cnt11 ∧ Below g w1 w11 ∧ r < w11.heap.size ∧ w11.heap[gp]? = some (.cells #[.bool p.fs, .string p.fh, .int .i64 p.fp, .bool p.us, .string p.uh, .int .i64 p.up, .string p.pa, .string p.qu, .bool p.wi, .string p.me, .string p.he, .int .i64 p.un] 50 (0, 0)) ∧ (∀ l, (f l && !(l == s.data.toList)) = (F l && ((lf l && !(l == s.data.toList)) || !star9 wi p.me.toList p.he.toList l))) ∧ ∀ l, (lf l && !(l == s.data.toList)) = true → F l = true) := by
                  have hr : g < r := by have := HBX9.out.2; omega
                  refine ⟨hr11, below_grown HJB.out.1 hg11 (Nat.le_refl _) (by have := HJB.out.2.1; omega), Nat.lt_of_lt_of_le HJB.out.2.1 hg11.size, (hg11.block gp (by have := HJB.out.2.1; have := HBX9.out.2; omega) (by simp; omega)).trans HJB.out.2.2.1, fun l => ?_, fun l h => HJC.out.2.1 l (by simp at h; exact h.1)⟩
                  rw [HJC.out.1 l]
                  by_cases e : l = s.data.toList
                  · subst e
                    rw [HT.out]
                    simp
                  · have : (l == s.data.toList) = false := by simpa using e
                    rw [this]
                    simp
                have HRM : Hid (cnt11 < cnt) := Nat.lt_of_le_of_lt hc11 HJB.out.2.2.2.1
                clear hr11 hc11 hg11
                go_wp2
                try go_frame
                go_roundw
                case rel => exact ⟨cnt11, _, _, HR⟩
                case measure =>
                  rw [HJB.out.2.2.2.2, HR.out.1.left_eq]
                  exact HRM.out
        · have hltz : ¬ (k : Int) < (len : Int) := by omega
          have HE : Hid (Own9 wr g (n + 1) (left9 z m.toList xs wi ps)) := by
            have h1 := HI.out.1
            rw [List.take_of_length_le (by have := HLN.out; omega)] at h1
            exact h1
          have HWQ : Hid (Below w.heap.size w wr) := HQ1.out.bel.trans (HI.out.2.1.mono (Nat.le_of_lt hlt1))
          clear HI
          go_wp2_with (first | (at_len; refine wp_len9 rfl _ _ rfl Tryz.underlying89 wr g (n + 1) _ rfl HE.out ?_; intro c hc0 hc1 hcn; have HC0 : Hid (c = 0 → ∀ l, left9 z m.toList xs wi ps l = false) := hc0; have HC1 : Hid (c ≠ 0 → ∃ l, left9 z m.toList xs wi ps l = true) := hc1; clear hc0 hc1; by_cases hcz : c = 0) | go_in)
          · go_ret
            exact ⟨ret_bool (by rw [HLS.out ps (HC0.out hcz)]), HWQ.out⟩
          · go_ret
            obtain ⟨l, hl⟩ := HC1.out hcz
            exact ⟨ret_bool (by rw [HLF.out ps l hl]; simpa using hcz), HWQ.out⟩
end Go.Proofs.YtoblpjknnchlmabGreatDoor

/- What must be asked for, as lists: rising, each once, in small letters; in whichever order. -/
namespace Go.Proofs.YtoblpjknnchlmabGreatDoor
open Go.RowKit

theorem lt_of_le_ne8 {a b : List UInt8} (h : a ≤ b) (hne : a ≠ b) : a < b := by
  rcases Decidable.em (a < b) with h1 | h1
  · exact h1
  · exact absurd (List.le_antisymm h (List.not_lt.1 h1)) hne
theorem compact_rises (ss : List (List UInt8)) (hs : ss.Pairwise fun a b => a ≤ b) : ∀ m, m ≤ ss.length → (Lib.compactUpTo ss.toArray m).Pairwise (fun a b => a < b) ∧ ∀ x ∈ Lib.compactUpTo ss.toArray m, ∀ z, ss[m - 1]? = some z → x = z ∨ x < z
  | 0, _ => by
    unfold Lib.compactUpTo
    simp
  | m + 1, hm => by
    obtain ⟨h1, h2⟩ := compact_rises ss hs m (by omega)
    have hml : m < ss.length := by omega
    have em : ss.toArray[m]! = ss[m] := by simp [getElem!_pos, hml]
    rw [Lib.compactUpTo_succ]
    by_cases h0 : m = 0
    · subst h0
      have e0 : Lib.compactUpTo ss.toArray 0 = [] := by unfold Lib.compactUpTo; simp
      rw [e0, if_pos (by simp [Lib.keeps]), em]
      refine ⟨by simp, fun x hx z hz => ?_⟩
      have hz' : ss[0]? = some z := by simpa using hz
      obtain ⟨_, e⟩ := List.getElem?_eq_some_iff.1 hz'
      exact .inl ((show x = ss[0] by simpa using hx).trans e)
    · have em1 : ss.toArray[m - 1]! = ss[m - 1] := by simp [getElem!_pos, show m - 1 < ss.length by omega]
      have hle : ss[m - 1] ≤ ss[m] := List.pairwise_iff_getElem.1 hs (m - 1) m (by omega) hml (by omega)
      by_cases he : ss[m] = ss[m - 1]
      · rw [if_neg (by unfold Lib.keeps; rw [em, em1]; simp [h0, he])]
        simp only [List.append_nil]
        refine ⟨h1, fun x hx z hz => ?_⟩
        have hz' : ss[m]? = some z := by simpa using hz
        obtain ⟨_, e⟩ := List.getElem?_eq_some_iff.1 hz'
        rw [← e, he]
        exact h2 x hx _ (List.getElem?_eq_getElem (by omega))
      · have hlt : ss[m - 1] < ss[m] := lt_of_le_ne8 hle (fun e => he e.symm)
        rw [if_pos (by unfold Lib.keeps; rw [em, em1]; simp [he]), em]
        have hall : ∀ x ∈ Lib.compactUpTo ss.toArray m, x < ss[m] := fun x hx => by
          rcases h2 x hx _ (List.getElem?_eq_getElem (show m - 1 < ss.length by omega)) with e | e
          · rw [e]; exact hlt
          · exact List.lt_trans e hlt
        refine ⟨?_, fun x hx z hz => ?_⟩
        · rw [List.pairwise_append]
          exact ⟨h1, by simp, fun a ha b hb => by rw [List.mem_singleton.1 hb]; exact hall a ha⟩
        · have hz' : ss[m]? = some z := by simpa using hz
          obtain ⟨_, e⟩ := List.getElem?_eq_some_iff.1 hz'
          rw [← e]
          rcases List.mem_append.1 hx with h | h
          · exact .inr (hall x h)
          · exact .inl (List.mem_singleton.1 h)
theorem compact_mem (ss : List (List UInt8)) (x : List UInt8) (h : x ∈ Lib.compact ss) : x ∈ ss := by
  unfold Lib.compact Lib.compactUpTo at h
  obtain ⟨j, hj, rfl⟩ := List.mem_map.1 h
  have hj1 := List.mem_range.1 (List.mem_filter.1 hj).1
  rw [show ss.toArray[j]! = ss[j] by simp [getElem!_pos, hj1]]
  exact List.getElem_mem hj1
/-- The names that must be asked for, as lists. -/
def askT (ps : List Par) : List (List UInt8) := Lib.compact (sortL (tx (askedNames ps)))
theorem askedL_is (ps : List Par) : askedL ps = (askT ps).map bs := rfl
theorem askT_rises (ps : List Par) : (askT ps).Pairwise fun a b => a < b := by
  have := (compact_rises (sortL (tx (askedNames ps))) (sortL_sorted _) _ (Nat.le_refl _)).1
  exact this
theorem askT_next (ps : List Par) (k : Nat) (x y : List UInt8) (hx : (askT ps)[k]? = some x) (hy : (askT ps)[k + 1]? = some y) : x < y := by
  obtain ⟨h1, e1⟩ := List.getElem?_eq_some_iff.1 hx
  obtain ⟨h2, e2⟩ := List.getElem?_eq_some_iff.1 hy
  rw [← e1, ← e2]
  exact List.pairwise_iff_getElem.1 (askT_rises ps) k (k + 1) h1 h2 (by omega)
theorem low8_low : ∀ c : UInt8, low (low c) = low c := by
  intro c
  have : ∀ n : Fin 256, low (low (UInt8.ofNat n.1)) = low (UInt8.ofNat n.1) := by decide +kernel
  have h := this ⟨c.toNat, c.toNat_lt⟩
  simpa using h
theorem askT_from (ps : List Par) (x : List UInt8) (h : x ∈ askT ps) : ∃ p ∈ ps, x = p.1.data.toList.map low := by
  have h1 := compact_mem _ x h
  have h2 := (sortL_perm _).mem_iff.1 h1
  unfold tx at h2
  obtain ⟨b, hb, rfl⟩ := List.mem_map.1 h2
  have h3 : ∃ p ∈ ps, b = lowN p := by
    unfold askedNames notPlain arePlain at hb
    split at hb
    · rcases List.mem_append.1 hb with h | h
      · obtain ⟨p, hp, e⟩ := List.mem_map.1 h; exact ⟨p, (List.mem_filter.1 hp).1, e.symm⟩
      · obtain ⟨p, hp, e⟩ := List.mem_map.1 h; exact ⟨p, (List.mem_filter.1 hp).1, e.symm⟩
    · obtain ⟨p, hp, e⟩ := List.mem_map.1 hb; exact ⟨p, (List.mem_filter.1 hp).1, e.symm⟩
  obtain ⟨p, hp, rfl⟩ := h3
  exact ⟨p, hp, by unfold lowN; rw [bs_data]⟩
theorem askT_low (ps : List Par) (x : List UInt8) (h : x ∈ askT ps) : x.map low = x := by
  obtain ⟨p, _, rfl⟩ := askT_from ps x h
  rw [List.map_map]
  apply List.map_congr_left
  intro c _
  exact low8_low c
theorem askT_size (ps : List Par) (hs : Small8 ps) (x : List UInt8) (h : x ∈ askT ps) : (bs x).size ≤ 3000 := by
  obtain ⟨p, hp, rfl⟩ := askT_from ps x h
  rw [bs_size, List.length_map]
  have e : p.1.data.toList.length = p.1.size := Array.length_toList
  have := (hs p hp).1
  omega
theorem together_rev (ps : List Par) : together ps.reverse = together ps := by
  unfold together
  rw [List.filter_reverse, List.map_reverse, List.sum_reverse]
theorem askedL_rev (ps : List Par) : askedL ps.reverse = askedL ps := by
  unfold askedL
  congr 2
  apply sortL_of_perm
  unfold tx
  apply List.Perm.map
  unfold askedNames
  rw [together_rev]
  have h1 : (notPlain ps.reverse).Perm (notPlain ps) := by
    unfold notPlain
    rw [List.filter_reverse, List.map_reverse]
    exact List.reverse_perm _
  have h2 : (arePlain ps.reverse).Perm (arePlain ps) := by
    unfold arePlain
    rw [List.filter_reverse, List.map_reverse]
    exact List.reverse_perm _
  split
  · exact h1.append h2
  · exact h1
theorem not_leq (x y : List UInt8) (h : x < y) : (Op.bytesLess y x || y == x) = false := by
  rw [bytesLess_eq]
  have h1 : ¬ y < x := fun h2 => List.lt_irrefl x (List.lt_trans h h2)
  have h2 : y ≠ x := fun e => List.lt_irrefl x (by rw [e] at h; exact h)
  rw [decide_eq_false h1, beq_eq_false_iff_ne.2 h2]
  rfl
theorem asked_len (ps : List Par) : (askedL ps).length ≤ ps.length := by
  unfold askedL
  rw [List.length_map]
  have h1 := compact_len (sortL (tx (askedNames ps)))
  have h2 : (tx (askedNames ps)).length = (askedNames ps).length := by unfold tx; simp
  rw [sortL_len, h2] at h1
  have h3 := lens_le ps
  have h4 : (askedNames ps).length ≤ ps.length := by
    unfold askedNames
    split
    · rw [List.length_append]; omega
    · omega
  omega
end Go.Proofs.YtoblpjknnchlmabGreatDoor

/- How long the names are that must be asked for. -/
namespace Go.Proofs.YtoblpjknnchlmabGreatDoor
open Go.RowKit

theorem askedL_size (ps : List Par) (hs : Small8 ps) (x : ByteArray) (h : x ∈ askedL ps) : x.size ≤ 3000 := by
  rw [askedL_is] at h
  obtain ⟨y, hy, rfl⟩ := List.mem_map.1 h
  exact askT_size ps hs y hy
end Go.Proofs.YtoblpjknnchlmabGreatDoor

/- The document's Needs. -/
namespace Go.Proofs.YtoblpjknnchlmabGreatDoor
open Go.RowKit

set_option maxRecDepth 100000 in
set_option maxHeartbeats 4000000 in
theorem refNeeds9_any (hs : List Par) (hps : Small8 hs) (ra : Option Addr) (rl rc rb ro : Nat) (hrl : rl ≤ 60) (pt fp up : Int) (fs us wi : Bool) (fh uh pa qu me bo : ByteArray) (hme : me.size ≤ 3000)
    (w : World) (hh : Pars w ra rl rb ro hs) :
    Calls Tryz.prog 11 #[.agg #[.int .i64 pt, .bool fs, .string fh, .int .i64 fp, .bool us, .string uh, .int .i64 up, .string pa, .string qu, .string me, .slice ra rl rc, .bool wi, .string bo]] w fun e w' => e = .returned (.bool (!sameO fs fh fp us uh up && !coversL wi (methodB me) (askedL hs) [])) ∧ Below w.heap.size w w' := by
  have HQ : Hid (BoxQ 28 w #[.int .i64 pt, .bool fs, .string fh, .int .i64 fp, .bool us, .string uh, .int .i64 up, .string pa, .string qu, .string me, .slice ra rl rc, .bool wi, .string bo] (w.alloc (.cells #[.int .i64 pt, .bool fs, .string fh, .int .i64 fp, .bool us, .string uh, .int .i64 up, .string pa, .string qu, .string me, .slice ra rl rc, .bool wi, .string bo] 28))) := BoxQ.new _ _ _
  obtain ⟨t, HT⟩ : ∃ t, Hid (coversL wi (methodB me) (askedL hs) [] = t) := ⟨_, rfl⟩
  have hcv := refCovers9_any hs hps ra rl rc rb ro hrl pt fp up fs us wi fh uh pa qu me bo hme (fun x hx => askedL_size hs hps x hx) [] (fun p hp => by cases hp) none 0 0 0 0 (by decide) _ (hh.below HQ.out.bel) (pss_nil _)
  rw [HT.out] at hcv
  rw [HT.out]
  obtain ⟨q, HE⟩ : ∃ q, Hid (sameO fs fh fp us uh up = q) := ⟨_, rfl⟩
  have eo := fun W => eqR9 fs us fh uh fp up q HE.out W
  rw [HE.out]
  have c0 := HQ.out.at 0 _ rfl
  have c1 := HQ.out.at 1 _ rfl
  have c2 := HQ.out.at 2 _ rfl
  have c3 := HQ.out.at 3 _ rfl
  have c4 := HQ.out.at 4 _ rfl
  have c5 := HQ.out.at 5 _ rfl
  have c6 := HQ.out.at 6 _ rfl
  have c7 := HQ.out.at 7 _ rfl
  have c8 := HQ.out.at 8 _ rfl
  have c9 := HQ.out.at 9 _ rfl
  have c10 := HQ.out.at 10 _ rfl
  have c11 := HQ.out.at 11 _ rfl
  have c12 := HQ.out.at 12 _ rfl
  clear hh hps
  go_enter Tryz.func11, Tryz.ntmps11
  cases q
  · go_wp2_with fail
    refine hcv.mono ?_
    rintro e w1 ⟨rfl, hb1⟩
    have HB1 : Hid (Below w.heap.size w w1) := HQ.out.inB hb1
    clear hb1 hcv c0 c1 c2 c3 c4 c5 c6 c7 c8 c9 c10 c11 c12
    go_wp2
    go_ret
    exact ⟨ret_bool (by simp), HB1.out⟩
  · go_wp2
    go_ret
    exact ⟨ret_bool (by simp), HQ.out.bel⟩
end Go.Proofs.YtoblpjknnchlmabGreatDoor

/- Headers that are too long to be held. -/
namespace Go.Proofs.YtoblpjknnchlmabGreatDoor
open Go.RowKit

def overP (p : Par) : Bool := decide (300 < p.1.size + p.2.size)
/-- Headers that are too many, or too long; n: the bytes of all else. -/
def largeL (ps : List Par) (n : Nat) : Bool := decide (45 < ps.length) || (decide (900 < n) || ps.any overP)
theorem over_snoc {ps : List Par} {k : Nat} {p : Par} (h : (ps.take k).any overP = false) (hk : ps[k]? = some p) (hp : ¬ 300 < p.1.size + p.2.size) : (ps.take (k + 1)).any overP = false := by
  obtain ⟨hk1, e⟩ := List.getElem?_eq_some_iff.1 hk
  rw [List.take_succ_eq_append_getElem hk1, List.any_append, h, e]
  have : overP p = false := by unfold overP; exact decide_eq_false hp
  simp [this]
theorem large_small {ps : List Par} {n : Nat} (h : largeL ps n = false) : ps.length ≤ 45 ∧ n ≤ 900 ∧ ∀ p ∈ ps, p.1.size + p.2.size ≤ 300 := by
  unfold largeL at h
  simp only [Bool.or_eq_false_iff, decide_eq_false_iff_not] at h
  refine ⟨by omega, by omega, fun p hp => ?_⟩
  have h3 := List.any_eq_false.1 h.2.2 p hp
  unfold overP at h3
  simpa using h3
end Go.Proofs.YtoblpjknnchlmabGreatDoor

/- New blocks: what they hold, and that nothing older has turned. -/
namespace Go.Proofs.YtoblpjknnchlmabGreatDoor
open Go.RowKit

theorem cells_new (W : World) (cs : Array Value) (t : TypeId) (j : Nat) : (W.alloc (.cells cs t)).cell? ⟨W.heap.size, j, none⟩ = cs[j]? := World.cell?_alloc_mark _ _ _ _ _
theorem drewN_below {B : Nat} {a w : World} (h : Below B a w) (n : Nat) : Below B a (w.drewN n) := h.trans ⟨rfl, rfl, rfl, Nat.le_refl _, fun _ _ => rfl⟩
end Go.Proofs.YtoblpjknnchlmabGreatDoor

/- Whether a request is too large to be held, by the law's own words. -/
namespace Go.Proofs.YtoblpjknnchlmabGreatDoor
open Go.RowKit

theorem req_at {w : World} {g : Nat} {v0 v1 v2 v3 v4 v5 v6 v7 v8 v9 v10 v11 v12 : Value} {T : TypeId} (h : w.heap[g]? = some (.cells #[v0, v1, v2, v3, v4, v5, v6, v7, v8, v9, v10, v11, v12] T (0, 0))) :
    w.cell? ⟨g, 0, none⟩ = some v0 ∧ w.cell? ⟨g, 2, none⟩ = some v2 ∧ w.cell? ⟨g, 5, none⟩ = some v5 ∧ w.cell? ⟨g, 7, none⟩ = some v7 ∧ w.cell? ⟨g, 8, none⟩ = some v8 ∧ w.cell? ⟨g, 9, none⟩ = some v9 ∧ w.cell? ⟨g, 10, none⟩ = some v10 ∧ w.cell? ⟨g, 12, none⟩ = some v12 :=
  ⟨by simp [World.cell?, h], by simp [World.cell?, h], by simp [World.cell?, h], by simp [World.cell?, h], by simp [World.cell?, h], by simp [World.cell?, h], by simp [World.cell?, h], by simp [World.cell?, h]⟩
set_option maxRecDepth 100000 in
set_option maxHeartbeats 4000000 in
theorem large_any (ps : List Par) (hz : ∀ p ∈ ps, p.1.size ≤ 140737488355328 ∧ p.2.size ≤ 140737488355328) (a0 : Option Addr) (len cap b off : Nat) (hlb : len ≤ 9223372036854775807)
    (pt fp up : Int) (fs us wi : Bool) (fh uh pa qu me bo : ByteArray) (h1 : fh.size ≤ 140737488355328) (h2 : uh.size ≤ 140737488355328) (h3 : pa.size ≤ 140737488355328) (h4 : qu.size ≤ 140737488355328) (h5 : me.size ≤ 140737488355328) (h6 : bo.size ≤ 140737488355328) (w : World) (hx : Pars w a0 len b off ps) :
    Calls Tryz.prog 9 #[.agg #[.int .i64 pt, .bool fs, .string fh, .int .i64 fp, .bool us, .string uh, .int .i64 up, .string pa, .string qu, .string me, .slice a0 len cap, .bool wi, .string bo]] w fun e w' => e = .returned (.bool (largeL ps (me.size + pa.size + qu.size + uh.size + fh.size + bo.size))) ∧ Below w.heap.size w w' := by
  have hb0 : Below w.heap.size w (w.alloc (.cells #[.int .i64 pt, .bool fs, .string fh, .int .i64 fp, .bool us, .string uh, .int .i64 up, .string pa, .string qu, .string me, .slice a0 len cap, .bool wi, .string bo] 28)) := (Below.refl _ _).alloc (Nat.le_refl _) _
  have HX : Hid (Pars (w.alloc (.cells #[.int .i64 pt, .bool fs, .string fh, .int .i64 fp, .bool us, .string uh, .int .i64 up, .string pa, .string qu, .string me, .slice a0 len cap, .bool wi, .string bo] 28)) a0 len b off ps) := hx.below hb0
  have HL : Hid (ps.length = len) := hx.len_eq
  have HZ : Hid (∀ p ∈ ps, p.1.size ≤ 140737488355328 ∧ p.2.size ≤ 140737488355328) := hz
  have HB0 : Hid (Below w.heap.size w (w.alloc (.cells #[.int .i64 pt, .bool fs, .string fh, .int .i64 fp, .bool us, .string uh, .int .i64 up, .string pa, .string qu, .string me, .slice a0 len cap, .bool wi, .string bo] 28)) ∧ (w.alloc (.cells #[.int .i64 pt, .bool fs, .string fh, .int .i64 fp, .bool us, .string uh, .int .i64 up, .string pa, .string qu, .string me, .slice a0 len cap, .bool wi, .string bo] 28)).heap[w.heap.size]? = some (.cells #[.int .i64 pt, .bool fs, .string fh, .int .i64 fp, .bool us, .string uh, .int .i64 up, .string pa, .string qu, .string me, .slice a0 len cap, .bool wi, .string bo] 28 (0, 0))) := ⟨hb0, heap_alloc_new w _⟩
  clear hb0 hx hz
  by_cases h45 : (45 : Int) < (len : Int)
  · have HA : Hid (largeL ps (me.size + pa.size + qu.size + uh.size + fh.size + bo.size) = true) := by
      show _ = _
      unfold largeL
      rw [decide_eq_true (by have := HL.out; omega), Bool.true_or]
    go_enter Tryz.func9, Tryz.ntmps9
    go_wp2
    go_ret
    exact ⟨ret_bool (by rw [HA.out]), HB0.out.1⟩
  by_cases h900 : (900 : Int) < (me.size : Int) + (pa.size : Int) + (qu.size : Int) + (uh.size : Int) + (fh.size : Int) + (bo.size : Int)
  · have HA : Hid (largeL ps (me.size + pa.size + qu.size + uh.size + fh.size + bo.size) = true) := by
      show _ = _
      unfold largeL
      rw [decide_eq_true (show 900 < me.size + pa.size + qu.size + uh.size + fh.size + bo.size by omega), Bool.true_or, Bool.or_true]
    go_enter Tryz.func9, Tryz.ntmps9
    go_wp2
    go_ret
    exact ⟨ret_bool (by rw [HA.out]), HB0.out.1⟩
  have HAA : Hid (largeL ps (me.size + pa.size + qu.size + uh.size + fh.size + bo.size) = ps.any overP) := by
    show _ = _
    unfold largeL
    rw [decide_eq_false (by have := HL.out; omega), decide_eq_false (show ¬ 900 < me.size + pa.size + qu.size + uh.size + fh.size + bo.size by omega), Bool.false_or, Bool.false_or]
  go_enter Tryz.func9, Tryz.ntmps9
  go_wp2
  generalize hW0 : w.alloc (.cells #[.int .i64 pt, .bool fs, .string fh, .int .i64 fp, .bool us, .string uh, .int .i64 up, .string pa, .string qu, .string me, .slice a0 len cap, .bool wi, .string bo] 28) = W0 at HB0 HX ⊢
  clear hW0
  obtain ⟨_, c2, c5, c7, c8, c9, c10, c12⟩ := req_at HB0.out.2
  go_loopw [4] (fun i wr => ∃ (k q : Nat), k ≤ len ∧ i = .int .i64 k ∧ wr = W0.drewN q ∧ Hid ((ps.take k).any overP = false)) (fun i _ => len - (intOf i).toNat)
  case atStart => exact ⟨0, 0, Nat.zero_le _, rfl, rfl, rfl⟩
  case round =>
    obtain ⟨k, q, hk, rfl, rfl, HK⟩ := hrel
    have c10' : (W0.drewN q).cell? ⟨w.heap.size, 10, none⟩ = some (.slice a0 len cap) := c10
    by_cases hlt : k < len
    · have hltz : (k : Int) < (len : Int) := by omega
      obtain ⟨p, hp⟩ : ∃ p, ps[k]? = some p := ⟨ps[k]'(by have := HL.out; omega), List.getElem?_eq_getElem _⟩
      have hpz := HZ.out p (List.mem_of_getElem? hp)
      obtain ⟨pn, pv⟩ := p
      have HPK : Hid (ps[k]? = some (pn, pv)) := hp
      have hp1 : pn.size ≤ 140737488355328 := hpz.1
      have hp2 : pv.size ≤ 140737488355328 := hpz.2
      obtain ⟨ha0, _⟩ := HX.out.lies (by omega)
      subst ha0
      have d1 : W0.cell? ⟨b, off + k * 2, none⟩ = some (.string pn) := HX.out.one k _ hp
      have d2 : W0.cell? ⟨b, off + k * 2 + 1, none⟩ = some (.string pv) := HX.out.two k _ hp
      clear hp hpz
      by_cases h300 : (300 : Int) < (pn.size : Int) + (pv.size : Int)
      · have HE : Hid (ps.any overP = true) := List.any_eq_true.2 ⟨_, List.mem_of_getElem? HPK.out, by unfold overP; exact decide_eq_true (by show 300 < pn.size + pv.size; omega)⟩
        go_wp2
        go_quiet (fail)
        go_wp2
        go_ret
        exact ⟨ret_bool (by rw [HAA.out, HE.out]), drewN_below (drewN_below HB0.out.1 _) _⟩
      · have HS : Hid ((ps.take (k + 1)).any overP = false) := over_snoc HK.out HPK.out (by show ¬ 300 < pn.size + pv.size; omega)
        go_wp2
        go_quiet (fail)
        go_wp2
        go_roundw
        case rel => exact ⟨k + 1, _, by omega, by go_num, rfl, HS⟩
        case measure => simp [intOf]; omega
    · have hltz : ¬ (k : Int) < (len : Int) := by omega
      have HE : Hid (ps.any overP = false) := by
        have := HK.out
        rw [List.take_of_length_le (by have := HL.out; omega)] at this
        exact this
      go_wp2
      go_ret
      exact ⟨ret_bool (by rw [HAA.out, HE.out]), drewN_below HB0.out.1 _⟩
end Go.Proofs.YtoblpjknnchlmabGreatDoor

/- A region driven by hand: an operation taken first. -/
namespace Go.Proofs.YtoblpjknnchlmabGreatDoor
open Go.RowKit

section
variable {P : Program} {ops : Array Oper} {Q : Exit → Act → World → Prop} {md : Region.Mode} {S : World → Prop}
theorem takeH {i : Nat} {oi : Oper} {d : Option Tmp} {v : Value} {fuel : Nat} {listed : Array Bool} {a : Act} {w : World} (hi : ops[i]? = some oi) (hd : oi.dst = d)
    (hs : Region.noSelect ops = true) (hf : Region.free md ops listed i = true) (hr : (Region.ready md ops listed).contains i = true)
    (hQ : ∀ c a w, Q (.panic c) (a.put oi.dst v) w → Q (.panic c) a w) (hw : Region.wanted oi (yielded ops a.tmps) = true) (hy : ∀ w, S w → (execOp a.eval oi).run P w = .ok (.value v) w) (hS : S w)
    (h : wpAnyH P md ops Q S fuel (listed.setIfInBounds i true) (a.put d v) w) : wpAnyH P md ops Q S (fuel + 1) listed a w := by
  subst hd
  exact wpAnyH_take hi hs hf hr hQ (Or.inl ⟨hw, hy⟩) hS h
theorem skipH {i : Nat} {oi : Oper} {d : Option Tmp} {fuel : Nat} {listed : Array Bool} {a : Act} {w : World} (hi : ops[i]? = some oi) (hd : oi.dst = d)
    (hs : Region.noSelect ops = true) (hf : Region.free md ops listed i = true) (hr : (Region.ready md ops listed).contains i = true)
    (hQ : ∀ c a w, Q (.panic c) (a.put oi.dst undef) w → Q (.panic c) a w) (hw : Region.wanted oi (yielded ops a.tmps) = false) (hS : S w)
    (h : wpAnyH P md ops Q S fuel (listed.setIfInBounds i true) (a.put d undef) w) : wpAnyH P md ops Q S (fuel + 1) listed a w := by
  subst hd
  exact wpAnyH_take hi hs hf hr hQ (Or.inr ⟨hw, rfl⟩) hS h
end
end Go.Proofs.YtoblpjknnchlmabGreatDoor

/- The law CorsNeeds, walked. -/
namespace Go.Proofs.YtoblpjknnchlmabGreatDoor
open Go.RowKit
set_option linter.unusedVariables false
set_option linter.unusedSimpArgs false

set_option maxRecDepth 100000 in
set_option maxHeartbeats 8000000 in
theorem corsNeeds_walk (pt fp up : Int) (ht : (-9223372036854775808 ≤ pt ∧ pt ≤ 9223372036854775807) ∧ (-9223372036854775808 ≤ fp ∧ fp ≤ 9223372036854775807) ∧ -9223372036854775808 ≤ up ∧ up ≤ 9223372036854775807) (fs us wi : Bool) (fh uh pa qu me bo : ByteArray) (hs : List Par) (hz : (fh.size ≤ 140737488355328 ∧ uh.size ≤ 140737488355328 ∧ pa.size ≤ 140737488355328 ∧ qu.size ≤ 140737488355328 ∧ me.size ≤ 140737488355328 ∧ bo.size ≤ 140737488355328) ∧ ∀ q ∈ hs, q.1.size ≤ 140737488355328 ∧ q.2.size ≤ 140737488355328) (ra : Option Addr) (rl rc rb ro : Nat) (hlr : rl ≤ 9223372036854775807) (w : World) (hh : Pars w ra rl rb ro hs) (hm : Methods w) :
    Calls Tryz.prog 3 #[.agg #[.int .i64 pt, .bool fs, .string fh, .int .i64 fp, .bool us, .string uh, .int .i64 up, .string pa, .string qu, .string me, .slice ra rl rc, .bool wi, .string bo]] w fun e w' => e = .returned (.bool true) ∧ Below w.heap.size w w' := by
  have HQ := BoxQ.new 28 w #[.int .i64 pt, .bool fs, .string fh, .int .i64 fp, .bool us, .string uh, .int .i64 up, .string pa, .string qu, .string me, .slice ra rl rc, .bool wi, .string bo]
  have HD : Hid (BoxQ 28 w #[.int .i64 pt, .bool fs, .string fh, .int .i64 fp, .bool us, .string uh, .int .i64 up, .string pa, .string qu, .string me, .slice ra rl rc, .bool wi, .string bo] (w.alloc (.cells #[.int .i64 pt, .bool fs, .string fh, .int .i64 fp, .bool us, .string uh, .int .i64 up, .string pa, .string qu, .string me, .slice ra rl rc, .bool wi, .string bo] 28)).drew) := HQ.step (Below.refl _ _).drew
  have hbase : ∀ W, Hid (BoxQ 28 w #[.int .i64 pt, .bool fs, .string fh, .int .i64 fp, .bool us, .string uh, .int .i64 up, .string pa, .string qu, .string me, .slice ra rl rc, .bool wi, .string bo] W) → W.cell? ⟨w.heap.size, 0, none⟩ = some (.int .i64 pt) ∧ W.cell? ⟨w.heap.size, 1, none⟩ = some (.bool fs) ∧ W.cell? ⟨w.heap.size, 2, none⟩ = some (.string fh) ∧ W.cell? ⟨w.heap.size, 3, none⟩ = some (.int .i64 fp) ∧ W.cell? ⟨w.heap.size, 4, none⟩ = some (.bool us) ∧ W.cell? ⟨w.heap.size, 5, none⟩ = some (.string uh) ∧ W.cell? ⟨w.heap.size, 6, none⟩ = some (.int .i64 up) ∧ W.cell? ⟨w.heap.size, 7, none⟩ = some (.string pa) ∧ W.cell? ⟨w.heap.size, 8, none⟩ = some (.string qu) ∧ W.cell? ⟨w.heap.size, 9, none⟩ = some (.string me) ∧ W.cell? ⟨w.heap.size, 10, none⟩ = some (.slice ra rl rc) ∧ W.cell? ⟨w.heap.size, 11, none⟩ = some (.bool wi) ∧ W.cell? ⟨w.heap.size, 12, none⟩ = some (.string bo) ∧ Hid (BoxQ 28 w #[.int .i64 pt, .bool fs, .string fh, .int .i64 fp, .bool us, .string uh, .int .i64 up, .string pa, .string qu, .string me, .slice ra rl rc, .bool wi, .string bo] W) := fun W h => ⟨(show BoxQ _ _ _ _ from h.out).at 0 _ rfl, (show BoxQ _ _ _ _ from h.out).at 1 _ rfl, (show BoxQ _ _ _ _ from h.out).at 2 _ rfl, (show BoxQ _ _ _ _ from h.out).at 3 _ rfl, (show BoxQ _ _ _ _ from h.out).at 4 _ rfl, (show BoxQ _ _ _ _ from h.out).at 5 _ rfl, (show BoxQ _ _ _ _ from h.out).at 6 _ rfl, (show BoxQ _ _ _ _ from h.out).at 7 _ rfl, (show BoxQ _ _ _ _ from h.out).at 8 _ rfl, (show BoxQ _ _ _ _ from h.out).at 9 _ rfl, (show BoxQ _ _ _ _ from h.out).at 10 _ rfl, (show BoxQ _ _ _ _ from h.out).at 11 _ rfl, (show BoxQ _ _ _ _ from h.out).at 12 _ rfl, h⟩
  obtain ⟨z1, HZ1⟩ : ∃ z, Hid (largeL hs (me.size + pa.size + qu.size + uh.size + fh.size + bo.size) = z) := ⟨_, rfl⟩
  have HL1 : Hid (∀ W, Below w.heap.size w W → Calls Tryz.prog 9 #[.agg #[.int .i64 pt, .bool fs, .string fh, .int .i64 fp, .bool us, .string uh, .int .i64 up, .string pa, .string qu, .string me, .slice ra rl rc, .bool wi, .string bo]] W fun e w' => e = .returned (.bool z1) ∧ Below W.heap.size W w') := fun W hW => by
    have := large_any hs hz.2 ra rl rc rb ro hlr pt fp up fs us wi fh uh pa qu me bo hz.1.1 hz.1.2.1 hz.1.2.2.1 hz.1.2.2.2.1 hz.1.2.2.2.2.1 hz.1.2.2.2.2.2 W (hh.below hW)
    rw [HZ1.out] at this
    exact this
  cases z1
  · obtain ⟨hl45, hn, hsm⟩ := large_small HZ1.out
    have HS8 : Hid (Small8 hs) := fun p hp => by have := hsm p hp; omega
    have hme : me.size ≤ 3000 := by omega
    have hrl : rl ≤ 60 := by have := hh.len_eq; omega
    obtain ⟨y, HY⟩ : ∃ y, Hid ((!sameO fs fh fp us uh up && !coversL wi (methodB me) (askedL hs) []) = y) := ⟨_, rfl⟩
    have HM1 : Hid (∀ W, Below w.heap.size w W → Calls Tryz.prog 10 #[.agg #[.int .i64 pt, .bool fs, .string fh, .int .i64 fp, .bool us, .string uh, .int .i64 up, .string pa, .string qu, .string me, .slice ra rl rc, .bool wi, .string bo]] W fun e w' => e = .returned (.bool y) ∧ Below W.heap.size W w') := fun W hW => by
      have := needs9_any hs HS8.out ra rl rc rb ro hrl pt fp up fs us wi fh uh pa qu me bo hme W (hm.below hW (Nat.le_refl _)) (hh.below hW)
      rw [HY.out] at this
      exact this
    have HM2 : Hid (∀ W, Below w.heap.size w W → Calls Tryz.prog 11 #[.agg #[.int .i64 pt, .bool fs, .string fh, .int .i64 fp, .bool us, .string uh, .int .i64 up, .string pa, .string qu, .string me, .slice ra rl rc, .bool wi, .string bo]] W fun e w' => e = .returned (.bool y) ∧ Below W.heap.size W w') := fun W hW => by
      have := refNeeds9_any hs HS8.out ra rl rc rb ro hrl pt fp up fs us wi fh uh pa qu me bo hme W (hh.below hW)
      rw [HY.out] at this
      exact this
    clear hz hh hm ht hlr hl45 hn hsm hme hrl HQ
    go_enter Tryz.func3, Tryz.ntmps3
    go_upto_region 1 with fail
    refine wp_region_held_drew (S := fun W => W.cell? ⟨w.heap.size, 0, none⟩ = some (.int .i64 pt) ∧ W.cell? ⟨w.heap.size, 1, none⟩ = some (.bool fs) ∧ W.cell? ⟨w.heap.size, 2, none⟩ = some (.string fh) ∧ W.cell? ⟨w.heap.size, 3, none⟩ = some (.int .i64 fp) ∧ W.cell? ⟨w.heap.size, 4, none⟩ = some (.bool us) ∧ W.cell? ⟨w.heap.size, 5, none⟩ = some (.string uh) ∧ W.cell? ⟨w.heap.size, 6, none⟩ = some (.int .i64 up) ∧ W.cell? ⟨w.heap.size, 7, none⟩ = some (.string pa) ∧ W.cell? ⟨w.heap.size, 8, none⟩ = some (.string qu) ∧ W.cell? ⟨w.heap.size, 9, none⟩ = some (.string me) ∧ W.cell? ⟨w.heap.size, 10, none⟩ = some (.slice ra rl rc) ∧ W.cell? ⟨w.heap.size, 11, none⟩ = some (.bool wi) ∧ W.cell? ⟨w.heap.size, 12, none⟩ = some (.string bo) ∧ Hid (BoxQ 28 w #[.int .i64 pt, .bool fs, .string fh, .int .i64 fp, .bool us, .string uh, .int .i64 up, .string pa, .string qu, .string me, .slice ra rl rc, .bool wi, .string bo] W)) (by kernel_rfl) (hbase _ HD) (fun hHeld => ?_)
    refine takeH (i := 0) (d := some 3) (v := ?_) rfl rfl (by kernel_rfl) (by kernel_rfl) (by kernel_rfl) (fun _ _ _ h => h) (by rfl) ?_ (by assumption) ?_
    rotate_left
    · intro w hSw; (try dsimp only at hSw); obtain ⟨q0, q1, q2, q3, q4, q5, q6, q7, q8, q9, q10, q11, q12, _⟩ := hSw; go_simp; with_reducible rfl
    try simp only [Act.put, List.setIfInBounds_toArray, List.set_cons_zero, List.set_cons_succ]
    refine wpAnyH_ready (rs := [1]) (by kernel_rfl) (by simp) ?_
    refine AllReadyH.cons (by rfl) (fun K hKK => ?_) AllReadyH.nil
    go_simp
    refine (HL1.out _ (show BoxQ _ _ _ _ from HD.out).bel).mono ?_
    rintro e w1 ⟨rfl, hb⟩
    have H1 : Hid (BoxQ 28 w #[.int .i64 pt, .bool fs, .string fh, .int .i64 fp, .bool us, .string uh, .int .i64 up, .string pa, .string qu, .string me, .slice ra rl rc, .bool wi, .string bo] w1) := (show BoxQ _ _ _ _ from HD.out).step hb
    clear hb
    go_wp2_with fail
    refine hKK.out _ _ (hbase _ H1) (fun hHeld => ?_)
    clear hKK K
    try simp only [Act.put, List.setIfInBounds_toArray, List.set_cons_zero, List.set_cons_succ]
    refine takeH (i := 2) (d := some 5) (v := ?_) rfl rfl (by kernel_rfl) (by kernel_rfl) (by kernel_rfl) (fun _ _ _ h => h) (by rfl) ?_ (by assumption) ?_
    rotate_left
    · intro w hSw; (try dsimp only at hSw); obtain ⟨q0, q1, q2, q3, q4, q5, q6, q7, q8, q9, q10, q11, q12, _⟩ := hSw; go_simp; with_reducible rfl
    try simp only [Act.put, List.setIfInBounds_toArray, List.set_cons_zero, List.set_cons_succ]
    refine takeH (i := 3) (d := some 6) (v := ?_) rfl rfl (by kernel_rfl) (by kernel_rfl) (by kernel_rfl) (fun _ _ _ h => h) (by rfl) ?_ (by assumption) ?_
    rotate_left
    · intro w hSw; (try dsimp only at hSw); obtain ⟨q0, q1, q2, q3, q4, q5, q6, q7, q8, q9, q10, q11, q12, _⟩ := hSw; go_simp; with_reducible rfl
    try simp only [Act.put, List.setIfInBounds_toArray, List.set_cons_zero, List.set_cons_succ]
    refine takeH (i := 5) (d := some 8) (v := ?_) rfl rfl (by kernel_rfl) (by kernel_rfl) (by kernel_rfl) (fun _ _ _ h => h) (by rfl) ?_ (by assumption) ?_
    rotate_left
    · intro w hSw; (try dsimp only at hSw); obtain ⟨q0, q1, q2, q3, q4, q5, q6, q7, q8, q9, q10, q11, q12, _⟩ := hSw; go_simp; with_reducible rfl
    try simp only [Act.put, List.setIfInBounds_toArray, List.set_cons_zero, List.set_cons_succ]
    refine wpAnyH_ready (rs := [4]) (by kernel_rfl) (by simp) ?_
    refine AllReadyH.cons (by rfl) (fun K hKK => ?_) AllReadyH.nil
    go_simp
    refine (HM1.out _ (show BoxQ _ _ _ _ from H1.out).bel).mono ?_
    rintro e w2 ⟨rfl, hb⟩
    have H2 : Hid (BoxQ 28 w #[.int .i64 pt, .bool fs, .string fh, .int .i64 fp, .bool us, .string uh, .int .i64 up, .string pa, .string qu, .string me, .slice ra rl rc, .bool wi, .string bo] w2) := (show BoxQ _ _ _ _ from H1.out).step hb
    clear hb
    go_wp2_with fail
    refine hKK.out _ _ (hbase _ H2) (fun hHeld => ?_)
    clear hKK K
    try simp only [Act.put, List.setIfInBounds_toArray, List.set_cons_zero, List.set_cons_succ]
    refine wpAnyH_ready (rs := [6]) (by kernel_rfl) (by simp) ?_
    refine AllReadyH.cons (by rfl) (fun K hKK => ?_) AllReadyH.nil
    go_simp
    refine (HM2.out _ (show BoxQ _ _ _ _ from H2.out).bel).mono ?_
    rintro e w3 ⟨rfl, hb⟩
    have H3 : Hid (BoxQ 28 w #[.int .i64 pt, .bool fs, .string fh, .int .i64 fp, .bool us, .string uh, .int .i64 up, .string pa, .string qu, .string me, .slice ra rl rc, .bool wi, .string bo] w3) := (show BoxQ _ _ _ _ from H2.out).step hb
    clear hb
    go_wp2_with fail
    refine hKK.out _ _ (hbase _ H3) (fun hHeld => ?_)
    clear hKK K
    try simp only [Act.put, List.setIfInBounds_toArray, List.set_cons_zero, List.set_cons_succ]
    refine takeH (i := 7) (d := some 10) (v := ?_) rfl rfl (by kernel_rfl) (by kernel_rfl) (by kernel_rfl) (fun _ _ _ h => h) (by rfl) ?_ (by assumption) ?_
    rotate_left
    · intro w hSw; (try dsimp only at hSw); obtain ⟨q0, q1, q2, q3, q4, q5, q6, q7, q8, q9, q10, q11, q12, _⟩ := hSw; go_simp; with_reducible rfl
    try simp only [Act.put, List.setIfInBounds_toArray, List.set_cons_zero, List.set_cons_succ]
    refine takeH (i := 8) (d := some 11) (v := ?_) rfl rfl (by kernel_rfl) (by kernel_rfl) (by kernel_rfl) (fun _ _ _ h => h) (by rfl) ?_ (by assumption) ?_
    rotate_left
    · intro w hSw; (try dsimp only at hSw); obtain ⟨q0, q1, q2, q3, q4, q5, q6, q7, q8, q9, q10, q11, q12, _⟩ := hSw; go_simp; with_reducible rfl
    try simp only [Act.put, List.setIfInBounds_toArray, List.set_cons_zero, List.set_cons_succ]
    refine takeH (i := 9) (d := some 2) (v := ?_) rfl rfl (by kernel_rfl) (by kernel_rfl) (by kernel_rfl) (fun _ _ _ h => h) (by rfl) ?_ (by assumption) ?_
    rotate_left
    · intro w hSw; (try dsimp only at hSw); obtain ⟨q0, q1, q2, q3, q4, q5, q6, q7, q8, q9, q10, q11, q12, _⟩ := hSw; go_simp; with_reducible rfl
    try simp only [Act.put, List.setIfInBounds_toArray, List.set_cons_zero, List.set_cons_succ]
    refine wpAnyH_done (by kernel_rfl) ?_ _
    go_wp2_with fail
    go_ret
    exact ⟨ret_bool (by simp), (show BoxQ _ _ _ _ from H3.out).bel⟩
  · clear hz hh hm ht hlr HQ
    go_enter Tryz.func3, Tryz.ntmps3
    go_upto_region 1 with fail
    refine wp_region_held_drew (S := fun W => W.cell? ⟨w.heap.size, 0, none⟩ = some (.int .i64 pt) ∧ W.cell? ⟨w.heap.size, 1, none⟩ = some (.bool fs) ∧ W.cell? ⟨w.heap.size, 2, none⟩ = some (.string fh) ∧ W.cell? ⟨w.heap.size, 3, none⟩ = some (.int .i64 fp) ∧ W.cell? ⟨w.heap.size, 4, none⟩ = some (.bool us) ∧ W.cell? ⟨w.heap.size, 5, none⟩ = some (.string uh) ∧ W.cell? ⟨w.heap.size, 6, none⟩ = some (.int .i64 up) ∧ W.cell? ⟨w.heap.size, 7, none⟩ = some (.string pa) ∧ W.cell? ⟨w.heap.size, 8, none⟩ = some (.string qu) ∧ W.cell? ⟨w.heap.size, 9, none⟩ = some (.string me) ∧ W.cell? ⟨w.heap.size, 10, none⟩ = some (.slice ra rl rc) ∧ W.cell? ⟨w.heap.size, 11, none⟩ = some (.bool wi) ∧ W.cell? ⟨w.heap.size, 12, none⟩ = some (.string bo) ∧ Hid (BoxQ 28 w #[.int .i64 pt, .bool fs, .string fh, .int .i64 fp, .bool us, .string uh, .int .i64 up, .string pa, .string qu, .string me, .slice ra rl rc, .bool wi, .string bo] W)) (by kernel_rfl) (hbase _ HD) (fun hHeld => ?_)
    refine takeH (i := 0) (d := some 3) (v := ?_) rfl rfl (by kernel_rfl) (by kernel_rfl) (by kernel_rfl) (fun _ _ _ h => h) (by rfl) ?_ (by assumption) ?_
    rotate_left
    · intro w hSw; (try dsimp only at hSw); obtain ⟨q0, q1, q2, q3, q4, q5, q6, q7, q8, q9, q10, q11, q12, _⟩ := hSw; go_simp; with_reducible rfl
    try simp only [Act.put, List.setIfInBounds_toArray, List.set_cons_zero, List.set_cons_succ]
    refine wpAnyH_ready (rs := [1]) (by kernel_rfl) (by simp) ?_
    refine AllReadyH.cons (by rfl) (fun K hKK => ?_) AllReadyH.nil
    go_simp
    refine (HL1.out _ (show BoxQ _ _ _ _ from HD.out).bel).mono ?_
    rintro e w1 ⟨rfl, hb⟩
    have H1 : Hid (BoxQ 28 w #[.int .i64 pt, .bool fs, .string fh, .int .i64 fp, .bool us, .string uh, .int .i64 up, .string pa, .string qu, .string me, .slice ra rl rc, .bool wi, .string bo] w1) := (show BoxQ _ _ _ _ from HD.out).step hb
    clear hb
    go_wp2_with fail
    refine hKK.out _ _ (hbase _ H1) (fun hHeld => ?_)
    clear hKK K
    try simp only [Act.put, List.setIfInBounds_toArray, List.set_cons_zero, List.set_cons_succ]
    refine takeH (i := 2) (d := some 5) (v := ?_) rfl rfl (by kernel_rfl) (by kernel_rfl) (by kernel_rfl) (fun _ _ _ h => h) (by rfl) ?_ (by assumption) ?_
    rotate_left
    · intro w hSw; (try dsimp only at hSw); obtain ⟨q0, q1, q2, q3, q4, q5, q6, q7, q8, q9, q10, q11, q12, _⟩ := hSw; go_simp; with_reducible rfl
    try simp only [Act.put, List.setIfInBounds_toArray, List.set_cons_zero, List.set_cons_succ]
    refine skipH (i := 3) (d := some 6) rfl rfl (by kernel_rfl) (by kernel_rfl) (by kernel_rfl) (fun _ _ _ h => h) (by rfl) (by assumption) ?_
    try simp only [Act.put, List.setIfInBounds_toArray, List.set_cons_zero, List.set_cons_succ]
    refine skipH (i := 4) (d := some 7) rfl rfl (by kernel_rfl) (by kernel_rfl) (by kernel_rfl) (fun _ _ _ h => h) (by rfl) (by assumption) ?_
    try simp only [Act.put, List.setIfInBounds_toArray, List.set_cons_zero, List.set_cons_succ]
    refine skipH (i := 5) (d := some 8) rfl rfl (by kernel_rfl) (by kernel_rfl) (by kernel_rfl) (fun _ _ _ h => h) (by rfl) (by assumption) ?_
    try simp only [Act.put, List.setIfInBounds_toArray, List.set_cons_zero, List.set_cons_succ]
    refine skipH (i := 6) (d := some 9) rfl rfl (by kernel_rfl) (by kernel_rfl) (by kernel_rfl) (fun _ _ _ h => h) (by rfl) (by assumption) ?_
    try simp only [Act.put, List.setIfInBounds_toArray, List.set_cons_zero, List.set_cons_succ]
    refine skipH (i := 7) (d := some 10) rfl rfl (by kernel_rfl) (by kernel_rfl) (by kernel_rfl) (fun _ _ _ h => h) (by rfl) (by assumption) ?_
    try simp only [Act.put, List.setIfInBounds_toArray, List.set_cons_zero, List.set_cons_succ]
    refine takeH (i := 8) (d := some 11) (v := ?_) rfl rfl (by kernel_rfl) (by kernel_rfl) (by kernel_rfl) (fun _ _ _ h => h) (by rfl) ?_ (by assumption) ?_
    rotate_left
    · intro w hSw; (try dsimp only at hSw); obtain ⟨q0, q1, q2, q3, q4, q5, q6, q7, q8, q9, q10, q11, q12, _⟩ := hSw; go_simp; with_reducible rfl
    try simp only [Act.put, List.setIfInBounds_toArray, List.set_cons_zero, List.set_cons_succ]
    refine takeH (i := 9) (d := some 2) (v := ?_) rfl rfl (by kernel_rfl) (by kernel_rfl) (by kernel_rfl) (fun _ _ _ h => h) (by rfl) ?_ (by assumption) ?_
    rotate_left
    · intro w hSw; (try dsimp only at hSw); obtain ⟨q0, q1, q2, q3, q4, q5, q6, q7, q8, q9, q10, q11, q12, _⟩ := hSw; go_simp; with_reducible rfl
    try simp only [Act.put, List.setIfInBounds_toArray, List.set_cons_zero, List.set_cons_succ]
    refine wpAnyH_done (by kernel_rfl) ?_ _
    go_wp2_with fail
    go_ret
    exact ⟨rfl, (show BoxQ _ _ _ _ from H1.out).bel⟩
end Go.Proofs.YtoblpjknnchlmabGreatDoor

/- What came in: no text of it is longer than a machine can hold. -/
namespace Go.Proofs.YtoblpjknnchlmabGreatDoor
open Go.ChangeShapes Go.WideShapes Go.ChangeAt Go.RowKit Go.Joins

theorem laidOutP : laidOutB Tryz.prog = true := by kernel_rfl
theorem weightsAll_mem {H : Type} {P : Program} {e : TypeId} : ∀ {ds : List (DataW H)} {d : DataW H}, d ∈ ds → ∀ n ∈ d.weights P e, n ∈ DataW.weightsAll P e ds
  | d0 :: ds, d, hd, n, hn => by
    rw [DataW.weightsAll, List.mem_append]
    rcases List.mem_cons.1 hd with rfl | h
    · exact .inl hn
    · exact .inr (weightsAll_mem h n hn)
theorem weights_slice {H : Type} {t e : TypeId} (ht : Tryz.prog.underlying t = some (.slice e)) {ds es : List (DataW H)} {d : DataW H} (hd : d ∈ ds) : ∀ n ∈ d.weights Tryz.prog e, n ∈ (DataW.slice ds es).weights Tryz.prog t := by
  intro n hn
  rw [DataW.weights, ht]
  simp only [List.mem_cons, List.mem_append]
  exact .inr (.inl (weightsAll_mem hd n hn))
/-- No text of it is longer than a machine can hold. -/
def Reach {H : Type} (t : TypeId) (d : DataW H) : Prop := ∀ n ∈ d.weights Tryz.prog t, n ≤ 140737488355328
theorem reach_all {H : Type} {ts : List TypeId} {ds : List (DataW H)} (h : (DataW.weightsEach Tryz.prog ts ds).all (· ≤ reachBytes) = true) {j : Nat} {t : TypeId} {d : DataW H} (ht : ts[j]? = some t) (hd : ds[j]? = some d) : Reach t d := fun n hn => by
  have h1 := List.all_eq_true.1 h _ (DataW.weights_mem_each ht hd n hn)
  have h2 : n ≤ reachBytes := of_decide_eq_true h1
  have := reachBytes_lt
  have e3 : (2 : Nat) ^ 47 = 140737488355328 := by decide
  omega
theorem reach_string {H : Type} {t : TypeId} {s : ByteArray} (h : Reach (H := H) t (.lit (.string s.data.toList))) : s.size ≤ 140737488355328 := by
  have := h s.data.toList.length (by simp [DataW.weights])
  rw [Array.length_toList] at this
  exact this
def strOf : Value → ByteArray
  | .string s => s
  | _ => ⟨#[]⟩
end Go.Proofs.YtoblpjknnchlmabGreatDoor

/- Parameters that came in: one, and a row of them. -/
namespace Go.Proofs.YtoblpjknnchlmabGreatDoor
open Go.ChangeShapes Go.WideShapes Go.ChangeAt Go.RowKit Go.Joins

theorem cellsP : Tryz.prog.cellsOf 37 = 2 := by kernel_rfl
section
variable {H : Type} {enc : TypeId × Value → H} {W : World}
theorem open_pars {fuel : Nat} {v : Value} {x : DataW H × List MemPlace} (h : DataW.trod enc Tryz.prog W 0 (fun _ => true) true fuel 26 [v] = some x) :
    ∃ (a0 : Option Addr) (len cap b off : Nat) (ps : List Par), v = .slice a0 len cap ∧ (len ≤ cap ∧ cap ≤ 9223372036854775807) ∧ Pars W a0 len b off ps ∧ (Reach 26 x.1 → ∀ p ∈ ps, p.1.size ≤ 140737488355328 ∧ p.2.size ≤ 140737488355328) := by
  rcases Go.Deep.open_slice_pairs Tryz.underlying26 Tryz.underlying37 cellsP rfl rfl (by kernel_rfl) (by kernel_rfl) h with ⟨hcs, hx⟩ | ⟨a, len, cap, m, n, V0, V1, D0, D1, P0, P1, hcs, _, hl, hm, hmm, hx, hall⟩
  · simp only [List.cons.injEq, and_true] at hcs
    exact ⟨none, 0, 0, 0, 0, [], hcs, ⟨by omega, by omega⟩, ⟨rfl, fun h => absurd h (by omega), (fun j p hp => by simp at hp), (fun j p hp => by simp at hp)⟩, fun _ p hp => by cases hp⟩
  · simp only [List.cons.injEq, and_true] at hcs
    simp only [if_true] at hmm
    obtain rfl := hmm.symm
    unfold maxLen at hm
    have hS : ∀ i, i < len → V0 i = .string (strOf (V0 i)) ∧ V1 i = .string (strOf (V1 i)) ∧ D0 i = .lit (.string (strOf (V0 i)).data.toList) ∧ D1 i = .lit (.string (strOf (V1 i)).data.toList) := fun i hi => by
      obtain ⟨_, _, t0, t1⟩ := hall i (by omega)
      obtain ⟨s0, e0, x0, _⟩ := DataW.trod_string Tryz.underlying9 t0
      obtain ⟨s1, e1, x1, _⟩ := DataW.trod_string Tryz.underlying9 t1
      simp only [List.cons.injEq, and_true] at e0 e1
      simp only [Prod.mk.injEq] at x0 x1
      rw [e0, e1, x0.1, x1.1]
      exact ⟨rfl, rfl, rfl, rfl⟩
    obtain ⟨b, off, spot⟩ := a
    have hget : ∀ (j : Nat) (p : Par), ((List.range len).map fun i => ((strOf (V0 i), strOf (V1 i)) : Par))[j]? = some p → j < len ∧ p = (strOf (V0 j), strOf (V1 j)) := fun j p hp => by
      rw [List.getElem?_map] at hp
      by_cases hj : j < len
      · rw [List.getElem?_range hj] at hp
        simp only [Option.map_some, Option.some.injEq] at hp
        exact ⟨hj, hp.symm⟩
      · rw [List.getElem?_eq_none (by simp; omega)] at hp
        cases hp
    have hspot : 0 < len → spot = none := fun h0 => by simpa [Addr.add] using World.cell?_spot (hall 0 (by omega)).1
    refine ⟨some ⟨b, off, spot⟩, len, cap, b, off, (List.range len).map fun i => (strOf (V0 i), strOf (V1 i)), hcs, ⟨by omega, by omega⟩, ⟨by simp, fun h0 => ?_, fun j p hp => ?_, fun j p hp => ?_⟩, fun hr p hp => ?_⟩
    · obtain rfl := hspot h0
      refine ⟨rfl, ?_⟩
      have hc := (hall 0 (by omega)).1
      rcases Nat.lt_or_ge b W.heap.size with h1 | h1
      · exact h1
      · simp [World.cell?, Addr.add, Array.getElem?_eq_none h1] at hc
    · obtain ⟨hj, rfl⟩ := hget j p hp
      obtain rfl := hspot (by omega)
      rw [← add_plain]
      exact (hall j (by omega)).1.trans (congrArg some (hS j hj).1)
    · obtain ⟨hj, rfl⟩ := hget j p hp
      obtain rfl := hspot (by omega)
      rw [Nat.add_assoc, ← add_plain]
      exact (hall j (by omega)).2.1.trans (congrArg some (hS j hj).2.1)
    · obtain ⟨i, hi, rfl⟩ := List.mem_map.1 hp
      have hi' : i < len := List.mem_range.1 hi
      have hw : ∀ n ∈ (DataW.agg [D0 i, D1 i]).weights Tryz.prog 37, n ≤ 140737488355328 := fun n hn => by
        refine hr n ?_
        rw [hx]
        exact weights_slice Tryz.underlying26 (List.mem_map.2 ⟨i, hi, rfl⟩) n hn
      rw [(hS i hi').2.2.1, (hS i hi').2.2.2] at hw
      have w0 := hw (strOf (V0 i)).data.toList.length (by simp [DataW.weights, DataW.weightsEach, Tryz.underlying37])
      have w1 := hw (strOf (V1 i)).data.toList.length (by simp [DataW.weights, DataW.weightsEach, Tryz.underlying37])
      rw [Array.length_toList] at w0 w1
      exact ⟨w0, w1⟩
set_option maxRecDepth 100000 in
/-- A parameter that came in. -/
theorem open_param {b0 : Nat} {v : Value} {d : DataW H} {p : List MemPlace} (hv : Value.okWide Tryz.prog W .any b0 37 v) (h : DataW.Trod enc Tryz.prog W 0 (fun _ => true) true 37 v d p) :
    ∃ x y : ByteArray, v = .agg #[.string x, .string y] ∧ (Reach 37 d → x.size ≤ 140737488355328 ∧ y.size ≤ 140737488355328) := by
  obtain ⟨c0, c1, y0, y1, m, rfl, rfl, rfl, g0, g1⟩ := open_agg2 Tryz.underlying37 (by kernel_rfl) (by kernel_rfl) hv h
  obtain ⟨s0, e0, rfl, _⟩ := DataW.trod_string Tryz.underlying9 g0
  obtain ⟨s1, e1, rfl, _⟩ := DataW.trod_string Tryz.underlying9 g1
  simp only [List.cons.injEq, and_true] at e0 e1
  subst e0 e1
  refine ⟨s0, s1, rfl, fun hw => ?_⟩
  have w0 := hw s0.data.toList.length (by simp [DataW.weights, DataW.weightsEach, Tryz.underlying37])
  have w1 := hw s1.data.toList.length (by simp [DataW.weights, DataW.weightsEach, Tryz.underlying37])
  rw [Array.length_toList] at w0 w1
  exact ⟨w0, w1⟩
/-- A row of parameters that came in. -/
theorem open_parsT {v : Value} {d : DataW H} {p : List MemPlace} {a0 : Option Addr} {len cap : Nat} (h : DataW.Trod enc Tryz.prog W 0 (fun _ => true) true 26 v d p) (hv : v = .slice a0 len cap) :
    ∃ (b off : Nat) (ps : List Par), (len ≤ cap ∧ cap ≤ 9223372036854775807) ∧ Pars W a0 len b off ps ∧ (Reach 26 d → ∀ q ∈ ps, q.1.size ≤ 140737488355328 ∧ q.2.size ≤ 140737488355328) := by
  subst hv
  obtain ⟨fuel, hf⟩ := h
  obtain ⟨a1, n1, c1, b, off, ps, e, hl, hp, hr⟩ := open_pars (v := .slice a0 len cap) hf
  injection e with e1 e2 e3
  subst e1 e2 e3
  exact ⟨b, off, ps, hl, hp, hr⟩
end
end Go.Proofs.YtoblpjknnchlmabGreatDoor

/- A request that came in: opened, with its numbers' bounds. -/
namespace Go.Proofs.YtoblpjknnchlmabGreatDoor
open Go.ChangeShapes Go.WideShapes Go.ChangeAt Go.RowKit Go.Joins

theorem array13q {α : Type} {cs : Array α} (h : cs.size = 13) : ∃ c0 c1 c2 c3 c4 c5 c6 c7 c8 c9 c10 c11 c12, cs = #[c0, c1, c2, c3, c4, c5, c6, c7, c8, c9, c10, c11, c12] := by
  obtain ⟨l⟩ := cs
  match l, h with
  | [c0, c1, c2, c3, c4, c5, c6, c7, c8, c9, c10, c11, c12], _ => exact ⟨c0, c1, c2, c3, c4, c5, c6, c7, c8, c9, c10, c11, c12, rfl⟩
theorem list3q {α : Type} {l : List α} (h : l.length = 3) : ∃ c0 c1 c2, l = [c0, c1, c2] := by
  match l, h with
  | [c0, c1, c2], _ => exact ⟨c0, c1, c2, rfl⟩
theorem list7q {α : Type} {l : List α} (h : l.length = 7) : ∃ c0 c1 c2 c3 c4 c5 c6, l = [c0, c1, c2, c3, c4, c5, c6] := by
  match l, h with
  | [c0, c1, c2, c3, c4, c5, c6], _ => exact ⟨c0, c1, c2, c3, c4, c5, c6, rfl⟩
section
variable {H : Type} {enc : TypeId × Value → H} {W : World}
set_option maxRecDepth 100000 in
/-- An origin among the cells of a greater thing. -/
theorem open_orgAt9 {fuel : Nat} {c0 c1 c2 : Value} {x : DataW H × List MemPlace} (h : DataW.trod enc Tryz.prog W 0 (fun _ => true) true fuel 23 [c0, c1, c2] = some x) :
    ∃ (s : Bool) (t : ByteArray) (p : Int), c0 = .bool s ∧ c1 = .string t ∧ c2 = .int .i64 p ∧ x.1 = .agg [.lit (.bool s), .lit (.string t.data.toList), .lit (.int .i64 p)] ∧ (Lit.int .i64 p).wf = true := by
  obtain ⟨xs, n, rfl, rfl, _, hlen, hff⟩ := DataW.trod_struct Tryz.underlying23 h
  obtain ⟨y0, y1, y2, rfl⟩ := list3q (hlen.trans rfl)
  have g0 : DataW.trod enc Tryz.prog W 0 (fun _ => true) true n 4 [c0] = some y0 := hff 0 _ rfl
  have g1 : DataW.trod enc Tryz.prog W 0 (fun _ => true) true n 9 [c1] = some y1 := hff 1 _ rfl
  have g2 : DataW.trod enc Tryz.prog W 0 (fun _ => true) true n 3 [c2] = some y2 := hff 2 _ rfl
  obtain ⟨s, e0, rfl⟩ := DataW.trod_bool Tryz.underlying4 g0
  obtain ⟨t, e1, rfl, _⟩ := DataW.trod_string Tryz.underlying9 g1
  obtain ⟨p, e2, rfl, wp⟩ := DataW.trod_int Tryz.underlying3 g2
  simp only [List.cons.injEq, and_true] at e0 e1 e2
  exact ⟨s, t, p, e0, e1, e2, rfl, wp⟩
set_option maxRecDepth 100000 in
set_option maxHeartbeats 2000000 in
theorem open_req9 {b0 : Nat} {v : Value} {d : DataW H} {p : List MemPlace} (hv : Value.okWide Tryz.prog W .any b0 28 v) (h : DataW.Trod enc Tryz.prog W 0 (fun _ => true) true 28 v d p) :
    ∃ (pt fp up : Int) (fs us wi : Bool) (fh uh pa qu me bo : ByteArray) (a0 : Option Addr) (len cap b off : Nat) (ps : List Par),
      v = .agg #[.int .i64 pt, .bool fs, .string fh, .int .i64 fp, .bool us, .string uh, .int .i64 up, .string pa, .string qu, .string me, .slice a0 len cap, .bool wi, .string bo] ∧
      ((Lit.int .i64 pt).wf = true ∧ (Lit.int .i64 fp).wf = true ∧ (Lit.int .i64 up).wf = true) ∧ (len ≤ cap ∧ cap ≤ 9223372036854775807) ∧ Pars W a0 len b off ps ∧
      (Reach 28 d → (fh.size ≤ 140737488355328 ∧ uh.size ≤ 140737488355328 ∧ pa.size ≤ 140737488355328 ∧ qu.size ≤ 140737488355328 ∧ me.size ≤ 140737488355328 ∧ bo.size ≤ 140737488355328) ∧ ∀ q ∈ ps, q.1.size ≤ 140737488355328 ∧ q.2.size ≤ 140737488355328) := by
  obtain ⟨cs, rfl, hsz⟩ := okWide_struct Tryz.underlying28 hv
  obtain ⟨c0, c1, c2, c3, c4, c5, c6, c7, c8, c9, c10, c11, c12, rfl⟩ := array13q (hsz.trans (by kernel_rfl))
  obtain ⟨fuel, hf⟩ := h
  obtain ⟨xs, n, _, hx, _, hlen, hff⟩ := DataW.trod_struct Tryz.underlying28 hf
  obtain ⟨y0, y1, y2, y3, y4, y5, y6, rfl⟩ := list7q (hlen.trans rfl)
  simp only [Prod.mk.injEq] at hx
  have g0 : DataW.trod enc Tryz.prog W 0 (fun _ => true) true n 3 [c0] = some y0 := hff 0 _ rfl
  have g1 : DataW.trod enc Tryz.prog W 0 (fun _ => true) true n 23 [c1, c2, c3] = some y1 := hff 1 _ rfl
  have g2 : DataW.trod enc Tryz.prog W 0 (fun _ => true) true n 25 [c4, c5, c6, c7, c8] = some y2 := hff 2 _ rfl
  have g3 : DataW.trod enc Tryz.prog W 0 (fun _ => true) true n 9 [c9] = some y3 := hff 3 _ rfl
  have g4 : DataW.trod enc Tryz.prog W 0 (fun _ => true) true n 26 [c10] = some y4 := hff 4 _ rfl
  have g5 : DataW.trod enc Tryz.prog W 0 (fun _ => true) true n 4 [c11] = some y5 := hff 5 _ rfl
  have g6 : DataW.trod enc Tryz.prog W 0 (fun _ => true) true n 9 [c12] = some y6 := hff 6 _ rfl
  obtain ⟨pt, e0, rfl, wpt⟩ := DataW.trod_int Tryz.underlying3 g0
  obtain ⟨fs, fh, fp, rfl, rfl, rfl, x1, wfp⟩ := open_orgAt9 g1
  obtain ⟨us', m, rfl, hx2, _, hlen2, hff2⟩ := DataW.trod_struct Tryz.underlying25 g2
  obtain ⟨u0, u1, u2, rfl⟩ := list3q (hlen2.trans rfl)
  have q0 : DataW.trod enc Tryz.prog W 0 (fun _ => true) true m 23 [c4, c5, c6] = some u0 := hff2 0 _ rfl
  have q1 : DataW.trod enc Tryz.prog W 0 (fun _ => true) true m 9 [c7] = some u1 := hff2 1 _ rfl
  have q2 : DataW.trod enc Tryz.prog W 0 (fun _ => true) true m 9 [c8] = some u2 := hff2 2 _ rfl
  obtain ⟨us, uh, up, rfl, rfl, rfl, z0, wup⟩ := open_orgAt9 q0
  obtain ⟨pa, e7, rfl, _⟩ := DataW.trod_string Tryz.underlying9 q1
  obtain ⟨qu, e8, rfl, _⟩ := DataW.trod_string Tryz.underlying9 q2
  obtain ⟨me, e9, rfl, _⟩ := DataW.trod_string Tryz.underlying9 g3
  obtain ⟨a0, len, cap, b, off, ps, rfl, hl, hp, hr⟩ := open_pars g4
  obtain ⟨wi, e11, rfl⟩ := DataW.trod_bool Tryz.underlying4 g5
  obtain ⟨bo, e12, rfl, _⟩ := DataW.trod_string Tryz.underlying9 g6
  simp only [List.cons.injEq, and_true] at e0 e7 e8 e9 e11 e12
  subst e0 e7 e8 e9 e11 e12
  refine ⟨pt, fp, up, fs, us, wi, fh, uh, pa, qu, me, bo, a0, len, cap, b, off, ps, rfl, ⟨wpt, wfp, wup⟩, hl, hp, fun hw => ?_⟩
  have hd := hx.1
  simp only [List.map_cons, List.map_nil, x1, hx2, z0] at hd
  subst hd
  have w1 := hw fh.data.toList.length (by simp [DataW.weights, DataW.weightsEach, Tryz.underlying28, Tryz.underlying23])
  have w2 := hw uh.data.toList.length (by simp [DataW.weights, DataW.weightsEach, Tryz.underlying28, Tryz.underlying23, Tryz.underlying25])
  have w3 := hw pa.data.toList.length (by simp [DataW.weights, DataW.weightsEach, Tryz.underlying28, Tryz.underlying23, Tryz.underlying25])
  have w4 := hw qu.data.toList.length (by simp [DataW.weights, DataW.weightsEach, Tryz.underlying28, Tryz.underlying23, Tryz.underlying25])
  have w5 := hw me.data.toList.length (by simp [DataW.weights, DataW.weightsEach, Tryz.underlying28])
  have w6 := hw bo.data.toList.length (by simp [DataW.weights, DataW.weightsEach, Tryz.underlying28])
  rw [Array.length_toList] at w1 w2 w3 w4 w5 w6
  refine ⟨⟨w1, w2, w3, w4, w5, w6⟩, hr fun k hk => hw k ?_⟩
  simp only [DataW.weights, Tryz.underlying28]
  simp [DataW.weightsEach, hk]
end
end Go.Proofs.YtoblpjknnchlmabGreatDoor

/- New blocks; rows of bytes. -/

/- The two schemes, as the program's table has them; the program's ports. -/
namespace Go.Proofs.YtoblpjknnchlmabGreatDoor
open Go.RowKit

/-- What the table of schemes holds. -/
structure Schemes (w : World) : Prop where
  lt : 1 < w.heap.size
  c0 : w.cell? ⟨1, 0, none⟩ = some (.string ⟨#[104, 116, 116, 112, 58, 47, 47]⟩)
  c1 : w.cell? ⟨1, 1, none⟩ = some (.bool false)
  c2 : w.cell? ⟨1, 2, none⟩ = some (.int .i64 80)
  c3 : w.cell? ⟨1, 3, none⟩ = some (.string ⟨#[104, 116, 116, 112, 115, 58, 47, 47]⟩)
  c4 : w.cell? ⟨1, 4, none⟩ = some (.bool true)
  c5 : w.cell? ⟨1, 5, none⟩ = some (.int .i64 443)
theorem Schemes.below {w w' : World} (h : Schemes w) {H : Nat} (hb : Below H w w') (hH : w.heap.size ≤ H) : Schemes w' := by
  have hg := Nat.lt_of_lt_of_le h.lt hH
  have hc := fun i => hb.cell (p := ⟨1, i, none⟩) hg
  have hz := hb.size
  exact ⟨by have := h.lt; omega, (hc 0).trans h.c0, (hc 1).trans h.c1, (hc 2).trans h.c2, (hc 3).trans h.c3, (hc 4).trans h.c4, (hc 5).trans h.c5⟩
theorem lt_of_cell {W : World} {g i : Nat} {v : Value} (h : W.cell? ⟨g, i, none⟩ = some v) : g < W.heap.size := by
  rcases Nat.lt_or_ge g W.heap.size with hl | hl
  · exact hl
  · simp [World.cell?, Array.getElem?_eq_none hl] at h
set_option maxRecDepth 100000 in
theorem scheme_cells {H : Type} {enc : TypeId × Value → H} {w : World} {base : Nat} {sp : Nat → Bool} {held : Bool} {fuel : Nat} {cs : List Value} {p : List MemPlace} {m : List UInt8} {b : Bool} {n : Int}
    (h : DataW.trod enc Tryz.prog w base sp held fuel 103 cs = some (.agg [.lit (.string m), .lit (.bool b), .lit (.int .i64 n)], p)) : cs[0]? = some (.string (bs m)) ∧ cs[1]? = some (.bool b) ∧ cs[2]? = some (.int .i64 n) := by
  obtain ⟨xs, k, rfl, hx, hl, hxl, hall⟩ := DataW.trod_struct Tryz.underlying103 h
  have hxs : xs.map (·.1) = [(.lit (.string m) : DataW H), .lit (.bool b), .lit (.int .i64 n)] := by
    have := congrArg Prod.fst hx
    simpa using this.symm
  have k9 : Tryz.prog.cellsOf 9 = 1 := by kernel_rfl
  have k4 : Tryz.prog.cellsOf 4 = 1 := by kernel_rfl
  have k3 : Tryz.prog.cellsOf 3 = 1 := by kernel_rfl
  have h0 : DataW.trod enc Tryz.prog w base sp held k 9 ((cs.drop 0).take (Tryz.prog.cellsOf 9)) = xs[0]? := hall 0 _ rfl
  have h1 : DataW.trod enc Tryz.prog w base sp held k 4 ((cs.drop 1).take (Tryz.prog.cellsOf 4)) = xs[1]? := hall 1 _ rfl
  have h2 : DataW.trod enc Tryz.prog w base sp held k 3 ((cs.drop 2).take (Tryz.prog.cellsOf 3)) = xs[2]? := hall 2 _ rfl
  rw [k9] at h0
  rw [k4] at h1
  rw [k3] at h2
  match xs, hxs with
  | [x0, x1, x2], hxs =>
    simp only [List.map_cons, List.map_nil, List.cons.injEq, and_true] at hxs
    obtain ⟨e0, e1, e2⟩ := hxs
    simp only [List.getElem?_cons_zero, List.getElem?_cons_succ] at h0 h1 h2
    obtain ⟨s, hs, hx0, _⟩ := DataW.trod_string Tryz.underlying9 h0
    obtain ⟨c, hc, hx1⟩ := DataW.trod_bool Tryz.underlying4 h1
    obtain ⟨z, hz, hx2, _⟩ := DataW.trod_int Tryz.underlying3 h2
    rw [hx0] at e0
    rw [hx1] at e1
    rw [hx2] at e2
    simp only [DataW.lit.injEq, Lit.string.injEq, Lit.bool.injEq, Lit.int.injEq, true_and] at e0 e1 e2
    subst e0 e1 e2
    rw [bs_self]
    refine ⟨?_, ?_, ?_⟩
    · have := congrArg (·[0]?) hs
      simpa [List.getElem?_take, List.getElem?_drop] using this
    · have := congrArg (·[0]?) hc
      simpa [List.getElem?_take, List.getElem?_drop] using this
    · have := congrArg (·[0]?) hz
      simpa [List.getElem?_take, List.getElem?_drop] using this
set_option maxRecDepth 100000 in
theorem schemes_laid {W : World} (h : Lib.VarReads Tryz.prog W "gatepost/url.schemes" Rows.laid_gatepost_url_schemes) : Schemes W := by
  obtain ⟨g', t', cs, fuel, p, hg, hty, hvar, hd⟩ := h
  have hn : Tryz.prog.globalNamed "gatepost/url.schemes" = some 1 := by kernel_rfl
  have ht : (Tryz.prog.globals[1]?).map (·.type) = some 124 := by kernel_rfl
  obtain rfl := Option.some.inj (hn.symm.trans hg)
  obtain rfl := Option.some.inj (ht.symm.trans hty)
  have k3 : Tryz.prog.cellsOf 103 = 3 := by kernel_rfl
  obtain ⟨f0, d0, q0, hd0, he0⟩ := Lib.array_elem Tryz.underlying124 hd 0 (by omega)
  obtain ⟨f1, d1, q1, hd1, he1⟩ := Lib.array_elem Tryz.underlying124 hd 1 (by omega)
  simp only [List.getElem?_cons_zero, List.getElem?_cons_succ, Option.some.injEq] at hd0 hd1
  subst hd0 hd1
  clear hd
  obtain ⟨a0, a1, a2⟩ := scheme_cells he0
  obtain ⟨b0, b1, b2⟩ := scheme_cells he1
  clear he0 he1
  rw [k3] at a0 a1 a2 b0 b1 b2
  simp only [List.getElem?_take, List.getElem?_drop] at a0 a1 a2 b0 b1 b2
  have hv := fun i => World.var?_cell hg hvar i
  have c0 : W.cell? ⟨1, 0, none⟩ = some (.string ⟨#[104, 116, 116, 112, 58, 47, 47]⟩) := by rw [hv 0, ← Array.getElem?_toList]; exact a0
  refine ⟨lt_of_cell c0, c0, ?_, ?_, ?_, ?_, ?_⟩
  · rw [hv 1, ← Array.getElem?_toList]; exact a1
  · rw [hv 2, ← Array.getElem?_toList]; exact a2
  · rw [hv 3, ← Array.getElem?_toList]; exact b0
  · rw [hv 4, ← Array.getElem?_toList]; exact b1
  · rw [hv 5, ← Array.getElem?_toList]; exact b2

theorem field_mark (a b c : Value) (W : World) : (Instr.field 103 (.agg #[a, b, c]) 0).run Tryz.prog W = .ok a W := by kernel_rfl
theorem field_secure (a b c : Value) (W : World) : (Instr.field 103 (.agg #[a, b, c]) 1).run Tryz.prog W = .ok b W := by kernel_rfl
theorem field_port (a b c : Value) (W : World) : (Instr.field 103 (.agg #[a, b, c]) 2).run Tryz.prog W = .ok c W := by kernel_rfl
def markOf (sec : Bool) : ByteArray := if sec then ⟨#[104, 116, 116, 112, 115, 58, 47, 47]⟩ else ⟨#[104, 116, 116, 112, 58, 47, 47]⟩
theorem schemeOf_yes (w : World) (h : Schemes w) :
    Calls Tryz.prog 69 #[.bool true] w fun e w' => e = .returned (.agg #[.string ⟨#[104, 116, 116, 112, 115, 58, 47, 47]⟩, .bool true, .int .i64 443]) ∧ Below w.heap.size w w' := by
  obtain ⟨hlt, h0, h1, h2, h3, h4, h5⟩ := h
  go_enter Tryz.func69, Tryz.ntmps69
  go_wp2
  (try simp only [Exit.inBlock, Exit.then])
  refine bodyPost_ret (v := .agg #[.string ⟨#[104, 116, 116, 112, 115, 58, 47, 47]⟩, .bool true, .int .i64 443]) ?_ rfl ⟨rfl, (Below.refl _ _).alloc (Nat.le_refl _) _⟩
  simp [results, Tryz.f69, go_sem]
theorem schemeOf_no (w : World) (h : Schemes w) :
    Calls Tryz.prog 69 #[.bool false] w fun e w' => e = .returned (.agg #[.string ⟨#[104, 116, 116, 112, 58, 47, 47]⟩, .bool false, .int .i64 80]) ∧ Below w.heap.size w w' := by
  obtain ⟨hlt, h0, h1, h2, h3, h4, h5⟩ := h
  go_enter Tryz.func69, Tryz.ntmps69
  go_wp2
  (try simp only [Exit.inBlock, Exit.then])
  refine bodyPost_ret (v := .agg #[.string ⟨#[104, 116, 116, 112, 58, 47, 47]⟩, .bool false, .int .i64 80]) ?_ rfl ⟨rfl, (Below.refl _ _).alloc (Nat.le_refl _) _⟩
  simp [results, Tryz.f69, go_sem]
theorem schemeOf_any (sec : Bool) (w : World) (h : Schemes w) :
    Calls Tryz.prog 69 #[.bool sec] w fun e w' => e = .returned (.agg #[.string (markOf sec), .bool sec, .int .i64 (portI sec)]) ∧ Below w.heap.size w w' := by
  cases sec
  · exact schemeOf_no w h
  · exact schemeOf_yes w h
end Go.Proofs.YtoblpjknnchlmabGreatDoor
