/- Texts of one claim, joined: each begins with what it proves. -/
import Derived.Test.YtihhabidfcgogaaDoorJo3
import Derived.Test.YtihhabidfcgogaaDoorJo5
import Derived.Test.YtihhabidfcgogaaDoorJo1
import Derived.Test.YtihhabidfcgogaaDoorJo4
import Derived.Test.YtihhabidfcgogaaDoorJo2
import Derived.RegionTactic
import Derived.Deep.LoopGhost
import Derived.ProofKit
import Derived.OpenShut
import Derived.SliceStrings
import Derived.Carry
import Derived.SizedLaws
import Derived.Deep.Slices
import Derived.Deep.SlicePairs
import Derived.Deep.Strs
import Derived.Lib.SmallJoins
/- Passes few and short enough to be held, by the law's own function. -/
namespace Go.Proofs.YtihhabidfcgogaaDoor
open Go.RowKit
set_option linter.unusedVariables false

/-- A pass whose texts are long. -/
def longP (p : PsV) : Bool := decide (400 < p.me.size + p.he.size + p.pa.size + p.qu.size + p.uh.size + p.fh.size)
def passesL (ps : List PsV) : Bool := decide (ps.length ≤ 60) && !ps.any longP
theorem passesL_len {ps : List PsV} (h : passesL ps = true) : ps.length ≤ 60 := by
  unfold passesL at h
  simp only [Bool.and_eq_true, decide_eq_true_eq] at h
  exact h.1
set_option maxRecDepth 100000 in
set_option maxHeartbeats 2000000 in
theorem longIs (p : PsV) (hp : Wee p) (w : World) :
    Calls Tryd.prog 24 #[.agg #[.bool p.fs, .string p.fh, .int .i64 p.fp, .bool p.us, .string p.uh, .int .i64 p.up, .string p.pa, .string p.qu, .bool p.wi, .string p.me, .string p.he, .int .i64 p.un]] w fun e w' => e = .returned (.bool (longP p)) ∧ Below w.heap.size w w' := by
  have h1 := hp.h1
  have h2 := hp.h2
  have h3 := hp.h3
  have h4 := hp.h4
  have h5 := hp.h5
  have h6 := hp.h6
  have HB : Hid (Below w.heap.size w (w.alloc (.cells #[.bool p.fs, .string p.fh, .int .i64 p.fp, .bool p.us, .string p.uh, .int .i64 p.up, .string p.pa, .string p.qu, .bool p.wi, .string p.me, .string p.he, .int .i64 p.un] 35))) := (Below.refl _ _).alloc (Nat.le_refl _) _
  go_enter Tryd.func24, Tryd.ntmps24
  go_wp2
  go_ret
  refine ⟨ret_bool ?_, HB.out⟩
  unfold longP
  exact decide_eq_decide.2 (by omega)
theorem kindLP (ps : List PsV) (hz : ∀ p ∈ ps, Wee p) (w : World) : KindQ 24 #[] longP ps w :=
  ⟨fun p hp W _ => longIs p (hz p hp) W, enters_at Tryd.func24 (by kernel_rfl) rfl⟩
set_option maxRecDepth 100000 in
set_option maxHeartbeats 2000000 in
theorem passes_any (ps : List PsV) (hz : ∀ p ∈ ps, Wee p) (a0 : Option Addr) (len cap b off : Nat) (hlb : len ≤ 9223372036854775807) (w : World) (hx : Pss w a0 len b off ps) :
    Calls Tryd.prog 7 #[.slice a0 len cap] w fun e w' => e = .returned (.bool (passesL ps)) ∧ Below w.heap.size w w' := by
  have HL : Hid (ps.length = len) := hx.len_eq
  go_enter Tryd.func7, Tryd.ntmps7
  by_cases h : len ≤ 60
  · have hi : (len : Int) ≤ 60 := by omega
    have hc := containsQ_any 24 #[] longP ps w (kindLP ps hz w) a0 len cap b off (by omega) hx
    clear hz hx
    obtain ⟨r, HR⟩ : ∃ r, Hid (ps.any longP = r) := ⟨_, rfl⟩
    rw [HR.out] at hc
    go_wp2_with fail
    refine hc.mono ?_
    rintro e w1 ⟨rfl, hb⟩
    go_wp2
    go_ret
    refine ⟨ret_bool ?_, hb⟩
    unfold passesL
    rw [HR.out, HL.out, decide_eq_true h]
    simp
  · have hi : ¬ (len : Int) ≤ 60 := by omega
    clear hz hx
    go_wp2
    go_ret
    refine ⟨ret_bool ?_, Below.refl _ _⟩
    unfold passesL
    rw [HL.out, decide_eq_false h]
    rfl
end Go.Proofs.YtihhabidfcgogaaDoor

/- The law BookFew, walked. -/
namespace Go.Proofs.YtihhabidfcgogaaDoor
open Go.RowKit
set_option linter.unusedVariables false
set_option linter.unusedSimpArgs false

set_option maxRecDepth 100000 in
set_option maxHeartbeats 8000000 in
theorem bookFew_walk (a1 : Option Addr) (l1 c1 b1 o1 : Nat) (xs : List PsV) (a2 : Option Addr) (l2 c2 b2 o2 : Nat) (ys : List PsV) (hl1 : l1 ≤ 9223372036854775807) (hl2 : l2 ≤ 9223372036854775807) (hx : ∀ p ∈ xs, GoodP p) (hy : ∀ p ∈ ys, GoodP p) (t u : Int) (w : World) (hm : Methods w) (h1 : Pss w a1 l1 b1 o1 xs) (h2 : Pss w a2 l2 b2 o2 ys) :
    Calls Tryd.prog 3 #[.slice a1 l1 c1, .slice a2 l2 c2, .int .i64 t, .int .i64 u] w fun e w' => e = .returned (.bool true) ∧ Below w.heap.size w w' := by
  have HX : Hid (Pss w a1 l1 b1 o1 xs ∧ xs.length = l1 ∧ ∀ p ∈ xs, GoodP p) := ⟨h1, h1.len_eq, hx⟩
  have HY : Hid (Pss w a2 l2 b2 o2 ys ∧ ys.length = l2 ∧ ∀ p ∈ ys, GoodP p) := ⟨h2, h2.len_eq, hy⟩
  have HM : Hid (Methods w) := hm
  clear h1 h2 hx hy hm
  go_enter Tryd.func3, Tryd.ntmps3
  go_wp2_with fail
  refine (booked_any _ HM.out).mono ?_
  rintro e w1 ⟨rfl, hb1⟩
  have HB1 : Hid (Below w.heap.size w w1) := hb1
  clear hb1
  go_wp2_with fail
  refine (passes_any xs (fun p hp => (HX.out.2.2 p hp).2) a1 l1 c1 b1 o1 hl1 _ (HX.out.1.below HB1.out)).mono ?_
  rintro e w2 ⟨rfl, hb2⟩
  have HB2 : Hid (Below w.heap.size w w2) := HB1.out.trans (hb2.mono HB1.out.size)
  clear hb2 HB1
  obtain ⟨q1, HQ1⟩ : ∃ q, Hid (passesL xs = q) := ⟨_, rfl⟩
  rw [HQ1.out]
  cases q1
  · go_wp2
    go_ret
    exact ⟨rfl, HB2.out⟩
  have hx60 : l1 ≤ 60 := by have h1 := passesL_len HQ1.out; have h2 := HX.out.2.1; omega
  go_wp2_with fail
  refine (passes_any ys (fun p hp => (HY.out.2.2 p hp).2) a2 l2 c2 b2 o2 hl2 _ (HY.out.1.below HB2.out)).mono ?_
  rintro e w3 ⟨rfl, hb3⟩
  have HB3 : Hid (Below w.heap.size w w3) := HB2.out.trans (hb3.mono HB2.out.size)
  clear hb3 HB2
  obtain ⟨q2, HQ2⟩ : ∃ q, Hid (passesL ys = q) := ⟨_, rfl⟩
  rw [HQ2.out]
  cases q2
  · go_wp2
    go_ret
    exact ⟨rfl, HB3.out⟩
  have hy60 : l2 ≤ 60 := by have h1 := passesL_len HQ2.out; have h2 := HY.out.2.1; omega
  have hb4 : Below w3.heap.size w3 (w3.alloc (.cells #[.slice none 0 0] 27)) := (Below.refl _ _).alloc (Nat.le_refl _) _
  have HK4 : Hid (BookW (w3.alloc (.cells #[.slice none 0 0] 27)) w3.heap.size w3.heap.size (.slice none 0 0) [] ∧ Below w.heap.size w (w3.alloc (.cells #[.slice none 0 0] 27))) := ⟨book_new w3, HB3.out.trans (hb4.mono HB3.out.size)⟩
  have hws := HB3.out.size
  clear hb4
  go_wp2_with fail
  generalize w3.alloc (.cells #[.slice none 0 0] 27) = w4 at HK4 ⊢
  obtain ⟨bk, hbk⟩ : ∃ bk, w3.heap.size = bk := ⟨_, rfl⟩
  rw [hbk] at HK4 hws ⊢
  clear hbk HB3
  refine (put_any _ HK4.out.1 xs a1 l1 c1 b1 o1 (HX.out.1.below HK4.out.2) hx60 HX.out.2.2 t).mono ?_
  rintro e w5 ⟨⟨r5, rfl⟩, v5, H5⟩
  have HK5 : Hid (BookW w5 bk bk v5 (putL t [] xs) ∧ Below w.heap.size w w5) := ⟨H5.out.1, HK4.out.2.grown H5.out.2.1 HK4.out.2.size (fun i hi => by injection hi with hi; omega)⟩
  clear H5 HK4
  go_wp2_with fail
  refine (put_any _ HK5.out.1 ys a2 l2 c2 b2 o2 (HY.out.1.below HK5.out.2) hy60 HY.out.2.2 u).mono ?_
  rintro e w6 ⟨⟨r6, rfl⟩, v6, H6⟩
  obtain ⟨ps, HPS⟩ : ∃ ps, Hid (putL u (putL t [] xs) ys = ps) := ⟨_, rfl⟩
  have HP : Hid ((∀ p ∈ ps, u < p.un) ∧ ps.length ≤ 32 ∧ ps.Pairwise (fun p q => p.key ≠ q.key)) := by
    rw [← HPS.out]
    exact ⟨fun p hp => (putL_mem hp).2, putL_len _ _ _, putL_apart _ _ _⟩
  rw [HPS.out] at H6
  have HK6 : Hid (BookW w6 bk bk v6 ps ∧ Below w.heap.size w w6) := ⟨H6.out.1, HK5.out.2.grown H6.out.2.1 HK5.out.2.size (fun i hi => by injection hi with hi; omega)⟩
  clear H6 HK5 HPS hx60 hy60
  go_wp2_with fail
  refine (list_any _ HK6.out.1).mono ?_
  rintro e w7 ⟨⟨u7, rfl, h7⟩, hb7⟩
  obtain ⟨pa, pc, pg, rfl, hp7⟩ := OwnQ.pss h7
  obtain ⟨n, HN⟩ : ∃ n, Hid (ps.length = n) := ⟨_, rfl⟩
  rw [HN.out] at hp7 ⊢
  have hn32 : n ≤ 32 := by rw [← HN.out]; exact HP.out.2.1
  have hn32z : (n : Int) ≤ 32 := by omega
  have HB7 : Hid (Below w.heap.size w w7) := HK6.out.2.trans (hb7.mono HK6.out.2.size)
  have HR : Hid (Pss w7 pa n pg 0 ps) := hp7
  clear hp7 h7 hb7 HK6 HX HY HM
  go_wp2
  go_loopw [11] (fun i wr => ∃ k : Nat, k ≤ n ∧ i = .int .i64 k ∧ Hid (Below w7.heap.size w7 wr)) (fun i _ => n - (intOf i).toNat)
  case atStart => exact ⟨0, Nat.zero_le _, rfl, Below.refl _ _⟩
  case round =>
    obtain ⟨k, hk, rfl, HW⟩ := hrel
    by_cases hlt : k < n
    · have hkL : (k : Int) < (n : Int) := by omega
      obtain ⟨x, hxk⟩ : ∃ x, ps[k]? = some x := ⟨ps[k]'(by have := HR.out.len_eq; omega), List.getElem?_eq_getElem _⟩
      have HXK : Hid (ps[k]? = some x) := hxk
      have hux : ¬ x.un ≤ u := by have := HP.out.1 x (List.mem_of_getElem? hxk); omega
      obtain ⟨rfl, _⟩ := HR.out.lies (by omega)
      clear hxk
      go_wp2
      go_loopw [12] (fun i wx => ∃ j : Nat, j ≤ k ∧ i = .int .i64 j ∧ Hid (Below w7.heap.size w7 wx)) (fun i _ => k - (intOf i).toNat)
      case atStart => exact ⟨0, Nat.zero_le _, rfl, HW.out⟩
      case round =>
        obtain ⟨j, hj, rfl, HX⟩ := hrel
        by_cases hjk : j < k
        · have hjL : (j : Int) < (k : Int) := by omega
          have hjn : (j : Int) < (n : Int) := by omega
          obtain ⟨v, hv⟩ : ∃ v, ps[j]? = some v := ⟨ps[j]'(by have := HR.out.len_eq; omega), List.getElem?_eq_getElem _⟩
          have hne : ({ v with un := x.un } : PsV) ≠ x := by
            have hpw := HP.out.2.2
            obtain ⟨hj1, e1⟩ := List.getElem?_eq_some_iff.1 hv
            obtain ⟨hk1, e2⟩ := List.getElem?_eq_some_iff.1 HXK.out
            have := List.pairwise_iff_getElem.1 hpw j k hj1 hk1 hjk
            rw [e1, e2] at this
            intro e
            exact this (by rw [← e]; rfl)
          have heq := fun W => eqPB { v with un := x.un } x false (by simp [hne]) W
          dsimp only at heq
          obtain ⟨c0, c1', c2', c3, c4, c5, c6, c7, c8, c9, c10, c11⟩ := (HR.out.below HX.out).all HXK.out
          obtain ⟨d0, d1, d2, d3, d4, d5, d6, d7, d8, d9, d10, d11⟩ := (HR.out.below HX.out).all hv
          simp only [Nat.zero_add] at c0 c1' c2' c3 c4 c5 c6 c7 c8 c9 c10 c11 d0 d1 d2 d3 d4 d5 d6 d7 d8 d9 d10 d11
          have hb8 : Below wr.heap.size wr (wr.alloc (.cells #[.bool v.fs, .string v.fh, .int .i64 v.fp, .bool v.us, .string v.uh, .int .i64 v.up, .string v.pa, .string v.qu, .bool v.wi, .string v.me, .string v.he, .int .i64 x.un] 35)) := (Below.refl _ _).alloc (Nat.le_refl _) _
          have HB8 : Hid (Below w7.heap.size w7 (wr.alloc (.cells #[.bool v.fs, .string v.fh, .int .i64 v.fp, .bool v.us, .string v.uh, .int .i64 v.up, .string v.pa, .string v.qu, .bool v.wi, .string v.me, .string v.he, .int .i64 x.un] 35)).drew) := (HX.out.trans (hb8.mono HX.out.size)).trans ((Below.refl _ _).drew)
          have hq8 : (wr.alloc (.cells #[.bool v.fs, .string v.fh, .int .i64 v.fp, .bool v.us, .string v.uh, .int .i64 v.up, .string v.pa, .string v.qu, .bool v.wi, .string v.me, .string v.he, .int .i64 x.un] 35)).drew.heap[wr.heap.size]? = some (.cells #[.bool v.fs, .string v.fh, .int .i64 v.fp, .bool v.us, .string v.uh, .int .i64 v.up, .string v.pa, .string v.qu, .bool v.wi, .string v.me, .string v.he, .int .i64 x.un] 35 (0, 0)) := heap_alloc_new wr _
          have hbv : Below wr.heap.size wr (wr.alloc (.cells #[.bool v.fs, .string v.fh, .int .i64 v.fp, .bool v.us, .string v.uh, .int .i64 v.up, .string v.pa, .string v.qu, .bool v.wi, .string v.me, .string v.he, .int .i64 v.un] 35)) := (Below.refl _ _).alloc (Nat.le_refl _) _
          obtain ⟨_, _, _, _, _, _, _, _, _, _, _, e11⟩ := (HR.out.below (HX.out.trans (hbv.mono HX.out.size))).all HXK.out
          simp only [Nat.zero_add] at e11
          clear hv hne hbv
          go_upto_region 17 with fail
          clear e11 c0 c1' c2' c3 c4 c5 c6 c7 c8 c9 c10 c11 d0 d1 d2 d3 d4 d5 d6 d7 d8 d9 d10 d11
          generalize wr.alloc (.cells #[.bool v.fs, .string v.fh, .int .i64 v.fp, .bool v.us, .string v.uh, .int .i64 v.up, .string v.pa, .string v.qu, .bool v.wi, .string v.me, .string v.he, .int .i64 x.un] 35) = w8 at HB8 hq8 ⊢
          obtain ⟨c0, c1', c2', c3, c4, c5, c6, c7, c8, c9, c10, c11⟩ := (HR.out.below HB8.out).all HXK.out
          simp only [Nat.zero_add] at c0 c1' c2' c3 c4 c5 c6 c7 c8 c9 c10 c11
          have y0 := (cell_of (i := 0) hq8).trans rfl
          have y1 := (cell_of (i := 1) hq8).trans rfl
          have y2 := (cell_of (i := 2) hq8).trans rfl
          have y3 := (cell_of (i := 3) hq8).trans rfl
          have y4 := (cell_of (i := 4) hq8).trans rfl
          have y5 := (cell_of (i := 5) hq8).trans rfl
          have y6 := (cell_of (i := 6) hq8).trans rfl
          have y7 := (cell_of (i := 7) hq8).trans rfl
          have y8 := (cell_of (i := 8) hq8).trans rfl
          have y9 := (cell_of (i := 9) hq8).trans rfl
          have y10 := (cell_of (i := 10) hq8).trans rfl
          have y11 := (cell_of (i := 11) hq8).trans rfl
          clear hq8
          refine wp_region_held_drew (S := fun W => W = w8.drew) (by kernel_rfl) rfl (fun hHeld => ?_)
          refine takeH (i := 0) (d := some 57) (v := ?_) rfl rfl (by kernel_rfl) (by kernel_rfl) (by kernel_rfl) (fun _ _ _ h => h) (by rfl) ?_ rfl ?_
          rotate_left
          · intro w hSw; subst hSw; go_simp; with_reducible rfl
          try simp only [Act.put, List.setIfInBounds_toArray, List.set_cons_zero, List.set_cons_succ]
          refine takeH (i := 1) (d := some 58) (v := ?_) rfl rfl (by kernel_rfl) (by kernel_rfl) (by kernel_rfl) (fun _ _ _ h => h) (by rfl) ?_ rfl ?_
          rotate_left
          · intro w hSw; subst hSw; go_simp; with_reducible rfl
          try simp only [Act.put, List.setIfInBounds_toArray, List.set_cons_zero, List.set_cons_succ]
          refine takeH (i := 2) (d := some 59) (v := ?_) rfl rfl (by kernel_rfl) (by kernel_rfl) (by kernel_rfl) (fun _ _ _ h => h) (by rfl) ?_ rfl ?_
          rotate_left
          · intro w hSw; subst hSw; go_simp; with_reducible rfl
          try simp only [Act.put, List.setIfInBounds_toArray, List.set_cons_zero, List.set_cons_succ]
          refine takeH (i := 3) (d := some 60) (v := ?_) rfl rfl (by kernel_rfl) (by kernel_rfl) (by kernel_rfl) (fun _ _ _ h => h) (by rfl) ?_ rfl ?_
          rotate_left
          · intro w hSw; subst hSw; go_simp; with_reducible rfl
          try simp only [Act.put, List.setIfInBounds_toArray, List.set_cons_zero, List.set_cons_succ]
          refine takeH (i := 4) (d := some 61) (v := ?_) rfl rfl (by kernel_rfl) (by kernel_rfl) (by kernel_rfl) (fun _ _ _ h => h) (by rfl) ?_ rfl ?_
          rotate_left
          · intro w hSw; subst hSw; go_simp; with_reducible rfl
          try simp only [Act.put, List.setIfInBounds_toArray, List.set_cons_zero, List.set_cons_succ]
          refine takeH (i := 5) (d := some 62) (v := ?_) rfl rfl (by kernel_rfl) (by kernel_rfl) (by kernel_rfl) (fun _ _ _ h => h) (by rfl) ?_ rfl ?_
          rotate_left
          · intro w hSw; subst hSw; go_simp; with_reducible rfl
          try simp only [Act.put, List.setIfInBounds_toArray, List.set_cons_zero, List.set_cons_succ]
          refine wpAnyH_done (by kernel_rfl) ?_ _
          clear c0 c1' c2' c3 c4 c5 c6 c7 c8 c9 c10 c11 y0 y1 y2 y3 y4 y5 y6 y7 y8 y9 y10 y11 heq
          generalize w8.drew = w9 at HB8 ⊢
          go_wp2
          go_roundw
          case rel => exact ⟨j + 1, by omega, by go_num, HB8.out⟩
          case measure => simp [intOf]; omega
        · have hjL : ¬ (j : Int) < (k : Int) := by omega
          obtain ⟨c0, c1', c2', c3, c4, c5, c6, c7, c8, c9, c10, c11⟩ := (HR.out.below HX.out).all HXK.out
          simp only [Nat.zero_add] at c0 c1' c2' c3 c4 c5 c6 c7 c8 c9 c10 c11
          clear c0 c1' c2' c3 c4 c5 c6 c7 c8 c9 c10
          go_wp2
          go_roundw
          case rel => exact ⟨k + 1, by omega, by go_num, HX.out⟩
          case measure => simp [intOf]; omega
    · have hkL : ¬ (k : Int) < (n : Int) := by omega
      go_wp2
      go_ret
      exact ⟨rfl, HB7.out.trans (HW.out.mono HB7.out.size)⟩
theorem bookFew_law (a1 : Option Addr) (l1 c1 b1 o1 : Nat) (xs : List PsV) (m1 : l1 ≤ c1 ∧ c1 ≤ 9223372036854775807) (z1 : ∀ p ∈ xs, GoodP p) (a2 : Option Addr) (l2 c2 b2 o2 : Nat) (ys : List PsV) (m2 : l2 ≤ c2 ∧ c2 ≤ 9223372036854775807) (z2 : ∀ p ∈ ys, GoodP p) (t : Int) (_ : -9223372036854775808 ≤ t) (_ : t ≤ 9223372036854775807) (u : Int) (_ : -9223372036854775808 ≤ u) (_ : u ≤ 9223372036854775807)
    (w : World) (g1 : Pss w a1 l1 b1 o1 xs) (g2 : Pss w a2 l2 b2 o2 ys) (hm : Methods w) :
    Calls Tryd.prog 3 #[.slice a1 l1 c1, .slice a2 l2 c2, .int .i64 t, .int .i64 u] w fun e w' => e = .returned (.bool true) ∧ Below w.heap.size w w' :=
  bookFew_walk a1 l1 c1 b1 o1 xs a2 l2 c2 b2 o2 ys (by omega) (by omega) z1 z2 t u w hm g1 g2
end Go.Proofs.YtihhabidfcgogaaDoor

/- What came in: no text of it is longer than a machine can hold. -/
namespace Go.Proofs.YtihhabidfcgogaaDoor
open Go.ChangeShapes Go.WideShapes Go.ChangeAt Go.RowKit Go.Joins

theorem laidOutP : laidOutB Tryd.prog = true := by kernel_rfl
theorem weightsAll_mem {H : Type} {P : Program} {e : TypeId} : ∀ {ds : List (DataW H)} {d : DataW H}, d ∈ ds → ∀ n ∈ d.weights P e, n ∈ DataW.weightsAll P e ds
  | d0 :: ds, d, hd, n, hn => by
    rw [DataW.weightsAll, List.mem_append]
    rcases List.mem_cons.1 hd with rfl | h
    · exact .inl hn
    · exact .inr (weightsAll_mem h n hn)
theorem weights_slice {H : Type} {t e : TypeId} (ht : Tryd.prog.underlying t = some (.slice e)) {ds es : List (DataW H)} {d : DataW H} (hd : d ∈ ds) : ∀ n ∈ d.weights Tryd.prog e, n ∈ (DataW.slice ds es).weights Tryd.prog t := by
  intro n hn
  rw [DataW.weights, ht]
  simp only [List.mem_cons, List.mem_append]
  exact .inr (.inl (weightsAll_mem hd n hn))
/-- No text of it is longer than a machine can hold. -/
def Reach {H : Type} (t : TypeId) (d : DataW H) : Prop := ∀ n ∈ d.weights Tryd.prog t, n ≤ 140737488355328
theorem reach_all {H : Type} {ts : List TypeId} {ds : List (DataW H)} (h : (DataW.weightsEach Tryd.prog ts ds).all (· ≤ reachBytes) = true) {j : Nat} {t : TypeId} {d : DataW H} (ht : ts[j]? = some t) (hd : ds[j]? = some d) : Reach t d := fun n hn => by
  have h1 := List.all_eq_true.1 h _ (DataW.weights_mem_each ht hd n hn)
  have h2 : n ≤ reachBytes := of_decide_eq_true h1
  have := reachBytes_lt
  have e3 : (2 : Nat) ^ 47 = 140737488355328 := by decide
  omega
theorem reach_string {H : Type} {t : TypeId} {s : ByteArray} (h : Reach (H := H) t (.lit (.string s.data.toList))) : s.size ≤ 140737488355328 := by
  have := h s.data.toList.length (by simp [DataW.weights])
  rw [Array.length_toList] at this
  exact this
def strOf : Value → ByteArray
  | .string s => s
  | _ => ⟨#[]⟩
end Go.Proofs.YtihhabidfcgogaaDoor

/- Parameters that came in: one, and a row of them. -/
namespace Go.Proofs.YtihhabidfcgogaaDoor
open Go.ChangeShapes Go.WideShapes Go.ChangeAt Go.RowKit Go.Joins

theorem cellsP : Tryd.prog.cellsOf 71 = 2 := by kernel_rfl
section
variable {H : Type} {enc : TypeId × Value → H} {W : World}
theorem open_pars {fuel : Nat} {v : Value} {x : DataW H × List MemPlace} (h : DataW.trod enc Tryd.prog W 0 (fun _ => true) true fuel 37 [v] = some x) :
    ∃ (a0 : Option Addr) (len cap b off : Nat) (ps : List Par), v = .slice a0 len cap ∧ (len ≤ cap ∧ cap ≤ 9223372036854775807) ∧ Pars W a0 len b off ps ∧ (Reach 37 x.1 → ∀ p ∈ ps, p.1.size ≤ 140737488355328 ∧ p.2.size ≤ 140737488355328) := by
  rcases Go.Deep.open_slice_pairs Tryd.underlying37 Tryd.underlying71 cellsP rfl rfl (by kernel_rfl) (by kernel_rfl) h with ⟨hcs, hx⟩ | ⟨a, len, cap, m, n, V0, V1, D0, D1, P0, P1, hcs, _, hl, hm, hmm, hx, hall⟩
  · simp only [List.cons.injEq, and_true] at hcs
    exact ⟨none, 0, 0, 0, 0, [], hcs, ⟨by omega, by omega⟩, ⟨rfl, fun h => absurd h (by omega), (fun j p hp => by simp at hp), (fun j p hp => by simp at hp)⟩, fun _ p hp => by cases hp⟩
  · simp only [List.cons.injEq, and_true] at hcs
    simp only [if_true] at hmm
    obtain rfl := hmm.symm
    unfold maxLen at hm
    have hS : ∀ i, i < len → V0 i = .string (strOf (V0 i)) ∧ V1 i = .string (strOf (V1 i)) ∧ D0 i = .lit (.string (strOf (V0 i)).data.toList) ∧ D1 i = .lit (.string (strOf (V1 i)).data.toList) := fun i hi => by
      obtain ⟨_, _, t0, t1⟩ := hall i (by omega)
      obtain ⟨s0, e0, x0, _⟩ := DataW.trod_string Tryd.underlying9 t0
      obtain ⟨s1, e1, x1, _⟩ := DataW.trod_string Tryd.underlying9 t1
      simp only [List.cons.injEq, and_true] at e0 e1
      simp only [Prod.mk.injEq] at x0 x1
      rw [e0, e1, x0.1, x1.1]
      exact ⟨rfl, rfl, rfl, rfl⟩
    obtain ⟨b, off, spot⟩ := a
    have hget : ∀ (j : Nat) (p : Par), ((List.range len).map fun i => ((strOf (V0 i), strOf (V1 i)) : Par))[j]? = some p → j < len ∧ p = (strOf (V0 j), strOf (V1 j)) := fun j p hp => by
      rw [List.getElem?_map] at hp
      by_cases hj : j < len
      · rw [List.getElem?_range hj] at hp
        simp only [Option.map_some, Option.some.injEq] at hp
        exact ⟨hj, hp.symm⟩
      · rw [List.getElem?_eq_none (by simp; omega)] at hp
        cases hp
    have hspot : 0 < len → spot = none := fun h0 => by simpa [Addr.add] using World.cell?_spot (hall 0 (by omega)).1
    refine ⟨some ⟨b, off, spot⟩, len, cap, b, off, (List.range len).map fun i => (strOf (V0 i), strOf (V1 i)), hcs, ⟨by omega, by omega⟩, ⟨by simp, fun h0 => ?_, fun j p hp => ?_, fun j p hp => ?_⟩, fun hr p hp => ?_⟩
    · obtain rfl := hspot h0
      refine ⟨rfl, ?_⟩
      have hc := (hall 0 (by omega)).1
      rcases Nat.lt_or_ge b W.heap.size with h1 | h1
      · exact h1
      · simp [World.cell?, Addr.add, Array.getElem?_eq_none h1] at hc
    · obtain ⟨hj, rfl⟩ := hget j p hp
      obtain rfl := hspot (by omega)
      rw [← add_plain]
      exact (hall j (by omega)).1.trans (congrArg some (hS j hj).1)
    · obtain ⟨hj, rfl⟩ := hget j p hp
      obtain rfl := hspot (by omega)
      rw [Nat.add_assoc, ← add_plain]
      exact (hall j (by omega)).2.1.trans (congrArg some (hS j hj).2.1)
    · obtain ⟨i, hi, rfl⟩ := List.mem_map.1 hp
      have hi' : i < len := List.mem_range.1 hi
      have hw : ∀ n ∈ (DataW.agg [D0 i, D1 i]).weights Tryd.prog 71, n ≤ 140737488355328 := fun n hn => by
        refine hr n ?_
        rw [hx]
        exact weights_slice Tryd.underlying37 (List.mem_map.2 ⟨i, hi, rfl⟩) n hn
      rw [(hS i hi').2.2.1, (hS i hi').2.2.2] at hw
      have w0 := hw (strOf (V0 i)).data.toList.length (by simp [DataW.weights, DataW.weightsEach, Tryd.underlying71])
      have w1 := hw (strOf (V1 i)).data.toList.length (by simp [DataW.weights, DataW.weightsEach, Tryd.underlying71])
      rw [Array.length_toList] at w0 w1
      exact ⟨w0, w1⟩
set_option maxRecDepth 100000 in
/-- A parameter that came in. -/
theorem open_param {b0 : Nat} {v : Value} {d : DataW H} {p : List MemPlace} (hv : Value.okWide Tryd.prog W .any b0 71 v) (h : DataW.Trod enc Tryd.prog W 0 (fun _ => true) true 71 v d p) :
    ∃ x y : ByteArray, v = .agg #[.string x, .string y] ∧ (Reach 71 d → x.size ≤ 140737488355328 ∧ y.size ≤ 140737488355328) := by
  obtain ⟨c0, c1, y0, y1, m, rfl, rfl, rfl, g0, g1⟩ := open_agg2 Tryd.underlying71 (by kernel_rfl) (by kernel_rfl) hv h
  obtain ⟨s0, e0, rfl, _⟩ := DataW.trod_string Tryd.underlying9 g0
  obtain ⟨s1, e1, rfl, _⟩ := DataW.trod_string Tryd.underlying9 g1
  simp only [List.cons.injEq, and_true] at e0 e1
  subst e0 e1
  refine ⟨s0, s1, rfl, fun hw => ?_⟩
  have w0 := hw s0.data.toList.length (by simp [DataW.weights, DataW.weightsEach, Tryd.underlying71])
  have w1 := hw s1.data.toList.length (by simp [DataW.weights, DataW.weightsEach, Tryd.underlying71])
  rw [Array.length_toList] at w0 w1
  exact ⟨w0, w1⟩
/-- A row of parameters that came in. -/
theorem open_parsT {v : Value} {d : DataW H} {p : List MemPlace} {a0 : Option Addr} {len cap : Nat} (h : DataW.Trod enc Tryd.prog W 0 (fun _ => true) true 37 v d p) (hv : v = .slice a0 len cap) :
    ∃ (b off : Nat) (ps : List Par), (len ≤ cap ∧ cap ≤ 9223372036854775807) ∧ Pars W a0 len b off ps ∧ (Reach 37 d → ∀ q ∈ ps, q.1.size ≤ 140737488355328 ∧ q.2.size ≤ 140737488355328) := by
  subst hv
  obtain ⟨fuel, hf⟩ := h
  obtain ⟨a1, n1, c1, b, off, ps, e, hl, hp, hr⟩ := open_pars (v := .slice a0 len cap) hf
  injection e with e1 e2 e3
  subst e1 e2 e3
  exact ⟨b, off, ps, hl, hp, hr⟩
end
end Go.Proofs.YtihhabidfcgogaaDoor

/- A request that came in: opened, with its numbers' bounds. -/
namespace Go.Proofs.YtihhabidfcgogaaDoor
open Go.ChangeShapes Go.WideShapes Go.ChangeAt Go.RowKit Go.Joins

theorem array13q {α : Type} {cs : Array α} (h : cs.size = 13) : ∃ c0 c1 c2 c3 c4 c5 c6 c7 c8 c9 c10 c11 c12, cs = #[c0, c1, c2, c3, c4, c5, c6, c7, c8, c9, c10, c11, c12] := by
  obtain ⟨l⟩ := cs
  match l, h with
  | [c0, c1, c2, c3, c4, c5, c6, c7, c8, c9, c10, c11, c12], _ => exact ⟨c0, c1, c2, c3, c4, c5, c6, c7, c8, c9, c10, c11, c12, rfl⟩
theorem list3q {α : Type} {l : List α} (h : l.length = 3) : ∃ c0 c1 c2, l = [c0, c1, c2] := by
  match l, h with
  | [c0, c1, c2], _ => exact ⟨c0, c1, c2, rfl⟩
theorem list7q {α : Type} {l : List α} (h : l.length = 7) : ∃ c0 c1 c2 c3 c4 c5 c6, l = [c0, c1, c2, c3, c4, c5, c6] := by
  match l, h with
  | [c0, c1, c2, c3, c4, c5, c6], _ => exact ⟨c0, c1, c2, c3, c4, c5, c6, rfl⟩
section
variable {H : Type} {enc : TypeId × Value → H} {W : World}
set_option maxRecDepth 100000 in
/-- An origin among the cells of a greater thing. -/
theorem open_orgAt9 {fuel : Nat} {c0 c1 c2 : Value} {x : DataW H × List MemPlace} (h : DataW.trod enc Tryd.prog W 0 (fun _ => true) true fuel 31 [c0, c1, c2] = some x) :
    ∃ (s : Bool) (t : ByteArray) (p : Int), c0 = .bool s ∧ c1 = .string t ∧ c2 = .int .i64 p ∧ x.1 = .agg [.lit (.bool s), .lit (.string t.data.toList), .lit (.int .i64 p)] ∧ (Lit.int .i64 p).wf = true := by
  obtain ⟨xs, n, rfl, rfl, _, hlen, hff⟩ := DataW.trod_struct Tryd.underlying31 h
  obtain ⟨y0, y1, y2, rfl⟩ := list3q (hlen.trans rfl)
  have g0 : DataW.trod enc Tryd.prog W 0 (fun _ => true) true n 4 [c0] = some y0 := hff 0 _ rfl
  have g1 : DataW.trod enc Tryd.prog W 0 (fun _ => true) true n 9 [c1] = some y1 := hff 1 _ rfl
  have g2 : DataW.trod enc Tryd.prog W 0 (fun _ => true) true n 3 [c2] = some y2 := hff 2 _ rfl
  obtain ⟨s, e0, rfl⟩ := DataW.trod_bool Tryd.underlying4 g0
  obtain ⟨t, e1, rfl, _⟩ := DataW.trod_string Tryd.underlying9 g1
  obtain ⟨p, e2, rfl, wp⟩ := DataW.trod_int Tryd.underlying3 g2
  simp only [List.cons.injEq, and_true] at e0 e1 e2
  exact ⟨s, t, p, e0, e1, e2, rfl, wp⟩
set_option maxRecDepth 100000 in
set_option maxHeartbeats 2000000 in
theorem open_req9 {b0 : Nat} {v : Value} {d : DataW H} {p : List MemPlace} (hv : Value.okWide Tryd.prog W .any b0 39 v) (h : DataW.Trod enc Tryd.prog W 0 (fun _ => true) true 39 v d p) :
    ∃ (pt fp up : Int) (fs us wi : Bool) (fh uh pa qu me bo : ByteArray) (a0 : Option Addr) (len cap b off : Nat) (ps : List Par),
      v = .agg #[.int .i64 pt, .bool fs, .string fh, .int .i64 fp, .bool us, .string uh, .int .i64 up, .string pa, .string qu, .string me, .slice a0 len cap, .bool wi, .string bo] ∧
      ((Lit.int .i64 pt).wf = true ∧ (Lit.int .i64 fp).wf = true ∧ (Lit.int .i64 up).wf = true) ∧ (len ≤ cap ∧ cap ≤ 9223372036854775807) ∧ Pars W a0 len b off ps ∧
      (Reach 39 d → (fh.size ≤ 140737488355328 ∧ uh.size ≤ 140737488355328 ∧ pa.size ≤ 140737488355328 ∧ qu.size ≤ 140737488355328 ∧ me.size ≤ 140737488355328 ∧ bo.size ≤ 140737488355328) ∧ ∀ q ∈ ps, q.1.size ≤ 140737488355328 ∧ q.2.size ≤ 140737488355328) := by
  obtain ⟨cs, rfl, hsz⟩ := okWide_struct Tryd.underlying39 hv
  obtain ⟨c0, c1, c2, c3, c4, c5, c6, c7, c8, c9, c10, c11, c12, rfl⟩ := array13q (hsz.trans (by kernel_rfl))
  obtain ⟨fuel, hf⟩ := h
  obtain ⟨xs, n, _, hx, _, hlen, hff⟩ := DataW.trod_struct Tryd.underlying39 hf
  obtain ⟨y0, y1, y2, y3, y4, y5, y6, rfl⟩ := list7q (hlen.trans rfl)
  simp only [Prod.mk.injEq] at hx
  have g0 : DataW.trod enc Tryd.prog W 0 (fun _ => true) true n 3 [c0] = some y0 := hff 0 _ rfl
  have g1 : DataW.trod enc Tryd.prog W 0 (fun _ => true) true n 31 [c1, c2, c3] = some y1 := hff 1 _ rfl
  have g2 : DataW.trod enc Tryd.prog W 0 (fun _ => true) true n 33 [c4, c5, c6, c7, c8] = some y2 := hff 2 _ rfl
  have g3 : DataW.trod enc Tryd.prog W 0 (fun _ => true) true n 9 [c9] = some y3 := hff 3 _ rfl
  have g4 : DataW.trod enc Tryd.prog W 0 (fun _ => true) true n 37 [c10] = some y4 := hff 4 _ rfl
  have g5 : DataW.trod enc Tryd.prog W 0 (fun _ => true) true n 4 [c11] = some y5 := hff 5 _ rfl
  have g6 : DataW.trod enc Tryd.prog W 0 (fun _ => true) true n 9 [c12] = some y6 := hff 6 _ rfl
  obtain ⟨pt, e0, rfl, wpt⟩ := DataW.trod_int Tryd.underlying3 g0
  obtain ⟨fs, fh, fp, rfl, rfl, rfl, x1, wfp⟩ := open_orgAt9 g1
  obtain ⟨us', m, rfl, hx2, _, hlen2, hff2⟩ := DataW.trod_struct Tryd.underlying33 g2
  obtain ⟨u0, u1, u2, rfl⟩ := list3q (hlen2.trans rfl)
  have q0 : DataW.trod enc Tryd.prog W 0 (fun _ => true) true m 31 [c4, c5, c6] = some u0 := hff2 0 _ rfl
  have q1 : DataW.trod enc Tryd.prog W 0 (fun _ => true) true m 9 [c7] = some u1 := hff2 1 _ rfl
  have q2 : DataW.trod enc Tryd.prog W 0 (fun _ => true) true m 9 [c8] = some u2 := hff2 2 _ rfl
  obtain ⟨us, uh, up, rfl, rfl, rfl, z0, wup⟩ := open_orgAt9 q0
  obtain ⟨pa, e7, rfl, _⟩ := DataW.trod_string Tryd.underlying9 q1
  obtain ⟨qu, e8, rfl, _⟩ := DataW.trod_string Tryd.underlying9 q2
  obtain ⟨me, e9, rfl, _⟩ := DataW.trod_string Tryd.underlying9 g3
  obtain ⟨a0, len, cap, b, off, ps, rfl, hl, hp, hr⟩ := open_pars g4
  obtain ⟨wi, e11, rfl⟩ := DataW.trod_bool Tryd.underlying4 g5
  obtain ⟨bo, e12, rfl, _⟩ := DataW.trod_string Tryd.underlying9 g6
  simp only [List.cons.injEq, and_true] at e0 e7 e8 e9 e11 e12
  subst e0 e7 e8 e9 e11 e12
  refine ⟨pt, fp, up, fs, us, wi, fh, uh, pa, qu, me, bo, a0, len, cap, b, off, ps, rfl, ⟨wpt, wfp, wup⟩, hl, hp, fun hw => ?_⟩
  have hd := hx.1
  simp only [List.map_cons, List.map_nil, x1, hx2, z0] at hd
  subst hd
  have w1 := hw fh.data.toList.length (by simp [DataW.weights, DataW.weightsEach, Tryd.underlying39, Tryd.underlying31])
  have w2 := hw uh.data.toList.length (by simp [DataW.weights, DataW.weightsEach, Tryd.underlying39, Tryd.underlying31, Tryd.underlying33])
  have w3 := hw pa.data.toList.length (by simp [DataW.weights, DataW.weightsEach, Tryd.underlying39, Tryd.underlying31, Tryd.underlying33])
  have w4 := hw qu.data.toList.length (by simp [DataW.weights, DataW.weightsEach, Tryd.underlying39, Tryd.underlying31, Tryd.underlying33])
  have w5 := hw me.data.toList.length (by simp [DataW.weights, DataW.weightsEach, Tryd.underlying39])
  have w6 := hw bo.data.toList.length (by simp [DataW.weights, DataW.weightsEach, Tryd.underlying39])
  rw [Array.length_toList] at w1 w2 w3 w4 w5 w6
  refine ⟨⟨w1, w2, w3, w4, w5, w6⟩, hr fun k hk => hw k ?_⟩
  simp only [DataW.weights, Tryd.underlying39]
  simp [DataW.weightsEach, hk]
end
end Go.Proofs.YtihhabidfcgogaaDoor

/- (whatever any call hands in) Rows of passes that came in: opened. -/
namespace Go.Proofs.YtihhabidfcgogaaDoor
open Go.ChangeShapes Go.WideShapes Go.ChangeAt Go.RowKit Go.Joins

theorem list6b {α : Type} {l : List α} (h : l.length = 6) : ∃ c0 c1 c2 c3 c4 c5, l = [c0, c1, c2, c3, c4, c5] := by
  match l, h with
  | [c0, c1, c2, c3, c4, c5], _ => exact ⟨c0, c1, c2, c3, c4, c5, rfl⟩
instance : Inhabited PsV := ⟨⟨false, ⟨#[]⟩, 0, false, ⟨#[]⟩, 0, ⟨#[]⟩, ⟨#[]⟩, false, ⟨#[]⟩, ⟨#[]⟩, 0⟩⟩
theorem cells12b : Tryd.prog.cellsOf 35 = 12 := by kernel_rfl
section
variable {H : Type} {enc : TypeId × Value → H} {W : World}
set_option maxRecDepth 100000 in
theorem open_passAtG {fuel : Nat} {c0 c1 c2 c3 c4 c5 c6 c7 c8 c9 c10 c11 : Value} {x : DataW H × List MemPlace} (h : DataW.trod enc Tryd.prog W 0 (fun _ => true) true fuel 35 [c0, c1, c2, c3, c4, c5, c6, c7, c8, c9, c10, c11] = some x) :
    ∃ v : PsV, [c0, c1, c2, c3, c4, c5, c6, c7, c8, c9, c10, c11] = v.vals ∧ (Reach 35 x.1 → GoodP v) := by
  obtain ⟨xs, n, rfl, hx, _, hlen, hff⟩ := DataW.trod_struct Tryd.underlying35 h
  obtain ⟨y0, y1, y2, y3, y4, y5, rfl⟩ := list6b (hlen.trans rfl)
  have g0 : DataW.trod enc Tryd.prog W 0 (fun _ => true) true n 31 [c0, c1, c2] = some y0 := hff 0 _ rfl
  have g1 : DataW.trod enc Tryd.prog W 0 (fun _ => true) true n 33 [c3, c4, c5, c6, c7] = some y1 := hff 1 _ rfl
  have g2 : DataW.trod enc Tryd.prog W 0 (fun _ => true) true n 4 [c8] = some y2 := hff 2 _ rfl
  have g3 : DataW.trod enc Tryd.prog W 0 (fun _ => true) true n 9 [c9] = some y3 := hff 3 _ rfl
  have g4 : DataW.trod enc Tryd.prog W 0 (fun _ => true) true n 9 [c10] = some y4 := hff 4 _ rfl
  have g5 : DataW.trod enc Tryd.prog W 0 (fun _ => true) true n 3 [c11] = some y5 := hff 5 _ rfl
  obtain ⟨fs, fh, fp, rfl, rfl, rfl, x1, wfp⟩ := open_orgAt9 g0
  obtain ⟨us', m, rfl, hx2, _, hlen2, hff2⟩ := DataW.trod_struct Tryd.underlying33 g1
  obtain ⟨u0, u1, u2, rfl⟩ := list3q (hlen2.trans rfl)
  have q0 : DataW.trod enc Tryd.prog W 0 (fun _ => true) true m 31 [c3, c4, c5] = some u0 := hff2 0 _ rfl
  have q1 : DataW.trod enc Tryd.prog W 0 (fun _ => true) true m 9 [c6] = some u1 := hff2 1 _ rfl
  have q2 : DataW.trod enc Tryd.prog W 0 (fun _ => true) true m 9 [c7] = some u2 := hff2 2 _ rfl
  obtain ⟨us, uh, up, rfl, rfl, rfl, z0, wup⟩ := open_orgAt9 q0
  obtain ⟨pa, e7, rfl, _⟩ := DataW.trod_string Tryd.underlying9 q1
  obtain ⟨qu, e8, rfl, _⟩ := DataW.trod_string Tryd.underlying9 q2
  obtain ⟨wi, e9, rfl⟩ := DataW.trod_bool Tryd.underlying4 g2
  obtain ⟨me, e10, rfl, _⟩ := DataW.trod_string Tryd.underlying9 g3
  obtain ⟨he, e11, rfl, _⟩ := DataW.trod_string Tryd.underlying9 g4
  obtain ⟨un, e12, rfl, wun⟩ := DataW.trod_int Tryd.underlying3 g5
  simp only [List.cons.injEq, and_true] at e7 e8 e9 e10 e11 e12
  subst e7 e8 e9 e10 e11 e12
  refine ⟨⟨fs, fh, fp, us, uh, up, pa, qu, wi, me, he, un⟩, rfl, fun hw => ?_⟩
  have hd := hx
  simp only [List.map_cons, List.map_nil, x1, hx2, z0] at hd
  subst hd
  have w1 := hw fh.data.toList.length (by simp [DataW.weights, DataW.weightsEach, Tryd.underlying35, Tryd.underlying31])
  have w2 := hw uh.data.toList.length (by simp [DataW.weights, DataW.weightsEach, Tryd.underlying35, Tryd.underlying31, Tryd.underlying33])
  have w3 := hw pa.data.toList.length (by simp [DataW.weights, DataW.weightsEach, Tryd.underlying35, Tryd.underlying33])
  have w4 := hw qu.data.toList.length (by simp [DataW.weights, DataW.weightsEach, Tryd.underlying35, Tryd.underlying33])
  have w5 := hw me.data.toList.length (by simp [DataW.weights, DataW.weightsEach, Tryd.underlying35])
  have w6 := hw he.data.toList.length (by simp [DataW.weights, DataW.weightsEach, Tryd.underlying35])
  rw [Array.length_toList] at w1 w2 w3 w4 w5 w6
  have hM : (140737488355328 : Nat) ≤ maxLen := by unfold maxLen; omega
  exact ⟨⟨Nat.le_trans w1 hM, Nat.le_trans w2 hM, Nat.le_trans w3 hM, Nat.le_trans w4 hM, Nat.le_trans w5 hM, Nat.le_trans w6 hM, wfp, wup, wun⟩, ⟨w1, w2, w3, w4, w5, w6⟩⟩
theorem open_passesB {fuel : Nat} {v : Value} {x : DataW H × List MemPlace} (h : DataW.trod enc Tryd.prog W 0 (fun _ => true) true fuel 22 [v] = some x) :
    ∃ (a0 : Option Addr) (len cap b off : Nat) (gs : List PsV), v = .slice a0 len cap ∧ (len ≤ cap ∧ cap ≤ 9223372036854775807) ∧ Pss W a0 len b off gs ∧ (Reach 22 x.1 → ∀ p ∈ gs, GoodP p) := by
  rcases Go.Deep.open_slice Tryd.underlying22 h with ⟨hcs, hx⟩ | ⟨a, len, cap, m, n, D, Pl, hcs, _, hl, hm, hmm, hx, hall⟩
  · simp only [List.cons.injEq, and_true] at hcs
    exact ⟨none, 0, 0, 0, 0, [], hcs, ⟨by omega, by omega⟩, pss_nil W, fun _ p hp => by cases hp⟩
  · simp only [List.cons.injEq, and_true] at hcs
    simp only [if_true] at hmm
    obtain rfl := hmm.symm
    unfold maxLen at hm
    rw [cells12b] at hall
    have each : ∀ i, i < cap → ∃ g : PsV, (∀ (j : Nat) (u : Value), g.vals[j]? = some u → W.cell? (a.add (i * 12 + j)) = some u) ∧ (Reach 35 (D i) → GoodP g) := fun i hi => by
      obtain ⟨cs', h1, h2⟩ := hall i hi
      obtain ⟨_, hlen, hcell⟩ := World.cells?_some h1
      match cs', hlen with
      | [c0, c1, c2, c3, c4, c5, c6, c7, c8, c9, c10, c11], _ =>
        obtain ⟨g, e, hg⟩ := open_passAtG h2
        refine ⟨g, fun j u hj => ?_, hg⟩
        have hj12 : j < 12 := (List.getElem?_eq_some_iff.1 hj).1
        have e0 := hcell j hj12
        rw [Go.Deep.add_add] at e0
        rw [e0, e, hj]
    obtain ⟨C, hC⟩ := Go.Deep.choose_lt each
    obtain ⟨b, off, spot⟩ := a
    have hget : ∀ (j : Nat) (c : PsV), ((List.range len).map C)[j]? = some c → j < len ∧ c = C j := fun j p hp => by
      rw [List.getElem?_map] at hp
      by_cases hj : j < len
      · rw [List.getElem?_range hj] at hp
        simp only [Option.map_some, Option.some.injEq] at hp
        exact ⟨hj, hp.symm⟩
      · rw [List.getElem?_eq_none (by simp; omega)] at hp
        cases hp
    have hspot : 0 < len → spot = none := fun h0 => by simpa [Addr.add] using World.cell?_spot ((hC 0 (by omega)).1 0 _ rfl)
    refine ⟨some ⟨b, off, spot⟩, len, cap, b, off, (List.range len).map C, hcs, ⟨by omega, by omega⟩, ⟨by simp, fun h0 => ?_, fun j c hc i u hu => ?_⟩, fun hr p hp => ?_⟩
    · obtain rfl := hspot h0
      refine ⟨rfl, ?_⟩
      have hc := (hC 0 (by omega)).1 0 _ rfl
      rcases Nat.lt_or_ge b W.heap.size with h1 | h1
      · exact h1
      · simp [World.cell?, Addr.add, Array.getElem?_eq_none h1] at hc
    · obtain ⟨hj, rfl⟩ := hget j c hc
      obtain rfl := hspot (by omega)
      rw [Nat.add_assoc, ← add_plain]
      exact (hC j (by omega)).1 i u hu
    · obtain ⟨i, hi, rfl⟩ := List.mem_map.1 hp
      have hi' : i < len := List.mem_range.1 hi
      refine (hC i (by omega)).2 fun n hn => ?_
      refine hr n ?_
      rw [hx]
      exact weights_slice Tryd.underlying22 (List.mem_map.2 ⟨i, hi, rfl⟩) n hn
/-- A row of passes that came in. -/
theorem open_passesG {v : Value} {d : DataW H} {p : List MemPlace} {a : Option Addr} {n k : Nat} (h : DataW.Trod enc Tryd.prog W 0 (fun _ => true) true 22 v d p) (hv : v = .slice a n k) :
    ∃ (b off : Nat) (gs : List PsV), (n ≤ k ∧ k ≤ 9223372036854775807) ∧ Pss W a n b off gs ∧ (Reach 22 d → ∀ p ∈ gs, GoodP p) := by
  subst hv
  obtain ⟨fuel, hf⟩ := h
  obtain ⟨a0, len, cap, b, off, gs, e, h1, h2, h3⟩ := open_passesB (v := .slice a n k) hf
  injection e with e1 e2 e3
  subst e1 e2 e3
  exact ⟨b, off, gs, h1, h2, h3⟩
end
end Go.Proofs.YtihhabidfcgogaaDoor
