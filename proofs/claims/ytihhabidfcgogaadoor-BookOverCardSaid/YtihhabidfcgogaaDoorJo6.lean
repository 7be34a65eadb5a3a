/- Texts of one claim, joined: each begins with what it proves. -/
import Derived.Test.YtihhabidfcgogaaDoorJo5
import Derived.Test.YtihhabidfcgogaaDoorJo3
import Derived.Test.YtihhabidfcgogaaDoorJo1
import Derived.Test.YtihhabidfcgogaaDoorJo2
import Derived.Laws.EntriesVeiled
import Derived.Carry
import Derived.Deep.QuietTactic
import Derived.BigQuiet
import Derived.Deep.LoopGhost
import Derived.ProofKit
import Derived.OpenShut
import Derived.SliceStrings
import Derived.SizedLaws
import Derived.Deep.Slices
import Derived.Deep.SlicePairs
import Derived.Deep.Strs
import Derived.Lib.SmallJoins
/- Put: passes kept in a book, by the program. -/
namespace Go.Proofs.YtihhabidfcgogaaDoor
open Go.RowKit
set_option linter.unusedVariables false
set_option linter.unusedSimpArgs false
attribute [local go_sem] Oper.semAt_some

set_option maxRecDepth 100000 in
set_option maxHeartbeats 8000000 in
theorem put_any {B bk : Nat} {v : Value} {xs : List PsV} (w : World) (h : BookW w B bk v xs) (l : List PsV) (a0 : Option Addr) (len cap b off : Nat) (hl : Pss w a0 len b off l) (hlen : len ≤ 60) (hgood : ∀ p ∈ l, GoodP p) (now : Int) :
    Calls Tryd.prog 8 #[.pointer (some ⟨bk, 0, none⟩), .slice a0 len cap, .int .i64 now] w fun e w' => (∃ u, e = .returned u) ∧ ∃ v', Hid (BookW w' B bk v' (putL now xs l) ∧ w.grownBy w' (some bk) ∧ (∀ x, v'.ownBlock = some x → w.heap.size ≤ x)) := by
  have HK : Hid (BookW w B bk v xs) := h
  have HL : Hid (Pss w a0 len b off l) := hl
  have HG : Hid (∀ p ∈ l, GoodP p) := hgood
  obtain ⟨va, vc, vg, hv, hvs⟩ := OwnQ.pss h.row
  subst hv
  have hcb := cell_of (i := 0) h.blk
  simp only [List.getElem?_toArray, List.getElem?_cons_zero] at hcb
  have hbl := h.lt
  clear h hl hgood
  refine (callsIn_wide (n := 3)).1 ?_
  refine callsIn_of_wp_marks Tryd.func8 rfl trivial ?_ rfl
  simp only [Tryd.ntmps8, List.size_toArray, List.length_cons, List.length_nil, Nat.reduceAdd, Nat.reduceSub, Array.replicate_succ, Array.replicate_zero, List.push_toArray, List.append_toArray, List.nil_append, List.cons_append]
  have hmm := @run_makeMap Tryd.prog
  have HP : Hid (Put0 w now ((((w.alloc (.cells #[.int .i64 now] 3)).alloc (.cells #[.slice none 0 0] 22)).alloc (.map #[] 0)).alloc (.cells #[.map (some (w.heap.size + 1 + 1))] 54))) := put0 w now
  have hcb3 := (HP.out.bel.cell (p := ⟨bk, 0, none⟩) hbl).trans hcb
  have hlx : xs.length ≤ 32 := HK.out.few
  obtain ⟨xn, HXN⟩ : ∃ xn, Hid (xs.length = xn) := ⟨_, rfl⟩
  rw [HXN.out] at hcb hcb3 hvs hlx
  have HVS : Hid (Pss w va xn vg 0 xs) := hvs
  clear hcb hvs
  gi_wp2_with fail
  have hsz : ((((w.alloc (.cells #[.int .i64 now] 3)).alloc (.cells #[.slice none 0 0] 22)).alloc (.map #[] 0)).alloc (.cells #[.map (some (w.heap.size + 1 + 1))] 54)).heap.size = w.heap.size + 1 + 1 + 1 + 1 := by simp
  generalize hW3 : ((((w.alloc (.cells #[.int .i64 now] 3)).alloc (.cells #[.slice none 0 0] 22)).alloc (.map #[] 0)).alloc (.cells #[.map (some (w.heap.size + 1 + 1))] 54)) = W3 at HP hcb3 hsz ⊢
  clear hW3
  have HB4 : Hid (Below W3.heap.size W3 (W3.alloc (.cells #[.slice va xn vc, .slice a0 len cap] 22))) := (Below.refl _ _).alloc (Nat.le_refl _) _
  have hg4 : (W3.alloc (.cells #[.slice va xn vc, .slice a0 len cap] 22)).heap[w.heap.size + 1 + 1 + 1 + 1]? = some (.cells #[.slice va xn vc, .slice a0 len cap] 22 (0, 0)) := by
    rw [← hsz]
    exact heap_alloc_new W3 _
  have hcc := concatQ_two (w.heap.size + 1 + 1 + 1 + 1) va a0 xn vc vg 0 len cap b off xs l (W3.alloc (.cells #[.slice va xn vc, .slice a0 len cap] 22)) (Array.getElem?_eq_some_iff.1 hg4).1 ((cell_of hg4).trans rfl) ((cell_of hg4).trans rfl)
    ((HVS.out.below HP.out.bel).below HB4.out) ((HL.out.below HP.out.bel).below HB4.out) (by omega) (by omega)
  have HP4 : Hid (Put0 w now (W3.alloc (.cells #[.slice va xn vc, .slice a0 len cap] 22))) := HP.out.step HB4.out
  have hs4 : (W3.alloc (.cells #[.slice va xn vc, .slice a0 len cap] 22)).heap.size = w.heap.size + 1 + 1 + 1 + 1 + 1 := by simp [hsz]
  generalize hW4 : W3.alloc (.cells #[.slice va xn vc, .slice a0 len cap] 22) = W4 at hcc HP4 hs4 ⊢
  clear hW4 hg4 HB4 hcb3
  refine ⟨trivial, ?_⟩
  refine (callsIn_wide.2 hcc).mono ?_
  rintro e w5 ⟨u, rfl, hq, hb5⟩
  clear hcc
  obtain ⟨ua, uc, ug, rfl, hps⟩ := OwnQ.pss hq
  obtain ⟨n, HN⟩ : ∃ n, Hid ((xs ++ l).length = n) := ⟨_, rfl⟩
  rw [HN.out] at hps hq ⊢
  have hn92 : n ≤ 92 := by
    have := HN.out
    rw [List.length_append, HXN.out, HL.out.len_eq] at this
    omega
  have HP5 : Hid (Put0 w now w5) := HP4.out.step hb5
  have hs5 := hb5.size
  obtain ⟨cb, hcb, hcp, hcn⟩ : ∃ cb, cb < w5.heap.size ∧ Pss w5 ua n cb 0 (xs ++ l) ∧ (0 < n → W4.heap.size ≤ cb) := by
    by_cases h0 : 0 < n
    · refine ⟨ug, (hps.lies h0).2, hps, fun _ => ?_⟩
      have := OwnK.lt hq ug (by rw [(hps.lies h0).1]; rfl)
      exact this.1
    · have hnil : xs ++ l = [] := List.eq_nil_of_length_eq_zero (by rw [HN.out]; omega)
      refine ⟨0, by omega, ⟨HN.out, fun h => absurd h h0, fun j v hj => ?_⟩, fun h => absurd h h0⟩
      rw [hnil] at hj
      simp at hj
  clear hps hq hb5
  have HCP : Hid (Pss w5 ua n cb 0 (xs ++ l)) := hcp
  clear hcp
  gi_wp2_with fail
  refine ⟨trivial, ?_⟩
  refine (callsIn_wide.2 (backward_any (.slice ua n uc) ua n uc _)).mono ?_
  rintro e w6 ⟨rfl, rfl⟩
  gi_wp2_with fail
  have HB6 : Hid (Below w5.heap.size w5 (w5.alloc (.cells #[.slice ua n uc] 22))) := (Below.refl _ _).alloc (Nat.le_refl _) _
  have hs6 : (w5.alloc (.cells #[.slice ua n uc] 22)).heap.size = w5.heap.size + 1 := by simp
  have hbx : (w5.alloc (.cells #[.slice ua n uc] 22)).cell? ⟨w5.heap.size, 0, none⟩ = some (.slice ua n uc) := (cell_of (heap_alloc_new w5 _)).trans rfl
  have HC6 : Hid (Pss (w5.alloc (.cells #[.slice ua n uc] 22)) ua n cb 0 (xs ++ l)) := HCP.out.below HB6.out
  have HP6 : Hid (Put0 w now (w5.alloc (.cells #[.slice ua n uc] 22))) := HP5.out.step HB6.out
  have hgd : ∀ p ∈ xs ++ l, GoodP p := fun p hp => (List.mem_append.1 hp).elim (HK.out.good p) (HG.out p)
  have hcn' : 0 < n → w.heap.size + 3 < cb := fun h0 => by have := hcn h0; omega
  generalize hW6 : w5.alloc (.cells #[.slice ua n uc] 22) = W6 at HB6 hs6 hbx HC6 HP6 ⊢
  clear hW6
  have hm : w.heap.size + 3 < W6.heap.size := by have := HP5.out.siz; omega
  have hs6b : w5.heap.size < W6.heap.size := by omega
  clear hs6
  refine wpIn_rangeFunc_ownH rfl (by omega) (gf := 44) (lb := #[.pointer (some ⟨w5.heap.size, 0, none⟩)]) rfl trivial (enters_of Tryd.func44 (by kernel_rfl) rfl)
    (backward_stops 2 (by omega) w5.heap.size cb 0 ua n uc (xs ++ l) (by omega) W6 (by omega) hbx HC6.out hgd) keepsQ_t (keepsQ_b (by omega) (by omega)) (Below.refl _ _) (fun _ => rfl)
    (fun s W => ∃ rv, PutI w W6.heap.size now rv (s.map (fun y => y.2.1)) W) (fun c s W => c = .exit 0 ∧ ∃ rv, PutX w W6.heap.size now rv (s.map (fun y => y.2.1)) W)
    (putI_own w W6.heap.size now hm) (fun c => (ownFrom_pure _ (fun _ => c = .exit 0)).and (putX_own w W6.heap.size now hm))
    ⟨_, ⟨HP6.out.bel, Nat.le_refl _, HP6.out.cnow, HP6.out.box, HP6.out.mp, ownQ_nil _ _, by simp [pickL], hm⟩, HP6.out.cnt⟩
    (fun x a' W => ∃ P, a' = { tmps := #[.pointer (some ⟨bk, 0, none⟩), .slice a0 len cap, .int .i64 now, undef, undef, .pointer (some ⟨w.heap.size, 0, none⟩), .pointer (some ⟨w.heap.size + 1, 0, none⟩), .pointer (some ⟨w.heap.size + 1 + 1 + 1, 0, none⟩), undef, .pointer (some ⟨P, 0, none⟩), undef, .map (some (w.heap.size + 1 + 1)), .pointer (some ⟨bk, 0, none⟩), .pointer (some ⟨bk, 0, none⟩), .pointer (some ⟨bk, 0, none⟩), .slice va xn vc, .slice a0 len cap, .slice (some ⟨w.heap.size + 1 + 1 + 1 + 1, 0, none⟩) 2 2, .slice ua n uc, .func (.func 44) #[] #[.pointer (some ⟨w5.heap.size, 0, none⟩)], .int .i64 (x.1 : Int), .agg #[.bool x.2.1.fs, .string x.2.1.fh, .int .i64 x.2.1.fp, .bool x.2.1.us, .string x.2.1.uh, .int .i64 x.2.1.up, .string x.2.1.pa, .string x.2.1.qu, .bool x.2.1.wi, .string x.2.1.me, .string x.2.1.he, .int .i64 x.2.1.un], undef, undef, undef, undef, undef, undef, undef, undef, undef, undef, undef, undef, undef, undef, undef, undef, undef, undef, undef, undef, undef, undef, undef, undef, undef, undef, undef, undef, undef, undef, undef, undef], defers := [] } ∧ W.heap[P]? = some (.cells x.2.1.vals.toArray 35 (0, 0)) ∧ W6.heap.size ≤ P)
    (fun x a' => by
      rintro s W W' row ⟨P, h1, h2, h3⟩ hg hr
      exact ⟨P, h1, cells_kept h2 hg (fun r e => (hr r e).2), h3⟩) ?assign ?body ?done ?stop
  case assign =>
    rintro l2 pre x W K ⟨rv, hI⟩ hK
    gi_wp2
    have hb : Below W.heap.size W (W.alloc (.cells #[.bool x.2.1.fs, .string x.2.1.fh, .int .i64 x.2.1.fp, .bool x.2.1.us, .string x.2.1.uh, .int .i64 x.2.1.up, .string x.2.1.pa, .string x.2.1.qu, .bool x.2.1.wi, .string x.2.1.me, .string x.2.1.he, .int .i64 x.2.1.un] 35)) := (Below.refl _ _).alloc (Nat.le_refl _) _
    have hz := hI.1.siz
    refine hK _ _ (KeepsFrom.of_grownBy (below_grown hb none) (fun j e => by cases e)) ⟨hb.size, hb.block _ (by omega), hb.block _ (by omega)⟩ ⟨rv, hI.1.below hb, hI.2.kept (below_grown hb none) (by simp)⟩ ⟨W.heap.size, rfl, heap_alloc_new W _, hz⟩
  case body =>
    rintro l2 pre x a' W hl2 hr2 ⟨rv, hI⟩ ⟨P, rfl, hPc, hPm⟩ hlen
    obtain ⟨i, ⟨p, hgp⟩⟩ := x
    dsimp only at hPc ⊢
    obtain ⟨pv, HPV⟩ : ∃ pv, Hid (pre.map (fun y => y.2.1) = pv) := ⟨_, rfl⟩
    rw [HPV.out] at hI
    have hcn : 0 < n := by omega
    have hc4 := hcn' hcn
    have HR : Hid (Rnd w W6.heap.size w5.heap.size cb P now rv (pickL now [] pv) p W W) := ⟨hI.1, KeepsFrom.refl _ _, ⟨Nat.le_refl _, rfl, rfl⟩, hPc, hPm, ⟨by omega, by omega⟩, ⟨by omega, by omega⟩⟩
    have HCN : Hid (OwnC W (w.heap.size + 2) pv.length (cntP pv) ∧ pv.length ≤ 92) := ⟨hI.2, by rw [← HPV.out, List.length_map]; omega⟩
    obtain ⟨ra, rc, rg, rfl, hrp⟩ := OwnQ.pss hI.1.row
    obtain ⟨q, HQ⟩ : ∃ q, Hid ((pickL now [] pv).length = q) := ⟨_, rfl⟩
    have hq32 := hI.1.few
    rw [HQ.out] at HR hq32
    have c1 := (cell_of (i := 0) HR.out.inv.box).trans rfl
    clear hI hPc hrp
    have d0 := HR.out.cell 0 rfl
    have d1 := HR.out.cell 1 rfl
    have d2 := HR.out.cell 2 rfl
    have d3 := HR.out.cell 3 rfl
    have d4 := HR.out.cell 4 rfl
    have d5 := HR.out.cell 5 rfl
    have d6 := HR.out.cell 6 rfl
    have d7 := HR.out.cell 7 rfl
    have d8 := HR.out.cell 8 rfl
    have d9 := HR.out.cell 9 rfl
    have d10 := HR.out.cell 10 rfl
    have d11 := HR.out.cell 11 rfl
    by_cases hq : q = 32
    · have hqz : ((q : Int) == 32) = true := by simp; omega
      gi_wp2
      refine ⟨KeepsFrom.refl _ _, rfl, _, HR.out.inv.bel, HR.out.inv.siz, HR.out.inv.box, pv, ?_, HQ.out.trans hq, HR.out.inv.row⟩
      rw [List.map_append, HPV.out]
      exact List.prefix_append _ _
    · have hqz : ¬ (q : Int) = 32 := by omega
      gi_wp2_with fail
      refine ⟨trivial, ?_⟩
      refine (CallsIn.inRound l2 (callsIn_wide.2 (timeless_any p _))).mono ?_
      rintro e w1 ⟨rfl, hb1⟩
      have HR1 : Hid (Rnd w W6.heap.size w5.heap.size cb P now (.slice ra q rc) (pickL now [] pv) p W w1) := HR.out.below hb1
      have HC1 : Hid (OwnC w1 (w.heap.size + 2) pv.length (cntP pv)) := HCN.out.1.kept (below_grown hb1 none) (by simp)
      clear hb1 c1 d0 d1 d2 d3 d4 d5 d6 d7 d8 d9 d10 d11
      gi_wp2_with fail
      have hb2 : Below w1.heap.size w1 (w1.alloc (.cells #[.bool p.fs, .string p.fh, .int .i64 p.fp, .bool p.us, .string p.uh, .int .i64 p.up, .string p.pa, .string p.qu, .bool p.wi, .string p.me, .string p.he, .int .i64 0] 35)) := (Below.refl _ _).alloc (Nat.le_refl _) _
      have HR2 : Hid (Rnd w W6.heap.size w5.heap.size cb P now (.slice ra q rc) (pickL now [] pv) p W (w1.alloc (.cells #[.bool p.fs, .string p.fh, .int .i64 p.fp, .bool p.us, .string p.uh, .int .i64 p.up, .string p.pa, .string p.qu, .bool p.wi, .string p.me, .string p.he, .int .i64 0] 35)).drew) := (HR1.out.below hb2).below (Below.refl _ _).drew
      have HC2 : Hid (OwnC (w1.alloc (.cells #[.bool p.fs, .string p.fh, .int .i64 p.fp, .bool p.us, .string p.uh, .int .i64 p.up, .string p.pa, .string p.qu, .bool p.wi, .string p.me, .string p.he, .int .i64 0] 35)).drew (w.heap.size + 2) pv.length (cntP pv)) := (HC1.out.kept (below_grown hb2 none) (by simp)).kept (below_grown (Below.refl _ _).drew none) (by simp)
      have hkb : (w1.alloc (.cells #[.bool p.fs, .string p.fh, .int .i64 p.fp, .bool p.us, .string p.uh, .int .i64 p.up, .string p.pa, .string p.qu, .bool p.wi, .string p.me, .string p.he, .int .i64 0] 35)).drew.heap[w1.heap.size]? = some (.cells #[.bool p.fs, .string p.fh, .int .i64 p.fp, .bool p.us, .string p.uh, .int .i64 p.up, .string p.pa, .string p.qu, .bool p.wi, .string p.me, .string p.he, .int .i64 0] 35 (0, 0)) := heap_alloc_new w1 _
      have hlt1 : w.heap.size + 3 < w1.heap.size := by have := HR1.out.inv.siz; have := HR1.out.inv.far; omega
      generalize hW2 : w1.alloc (.cells #[.bool p.fs, .string p.fh, .int .i64 p.fp, .bool p.us, .string p.uh, .int .i64 p.up, .string p.pa, .string p.qu, .bool p.wi, .string p.me, .string p.he, .int .i64 0] 35) = w2 at HR2 HC2 hkb ⊢
      clear hW2 hb2 HR1 HC1
      have hcl : ∀ W, w2.drew.grownBy W (some (w.heap.size + 2)) → W.cell? ⟨w.heap.size + 1 + 1 + 1, 0, none⟩ = some (.map (some (w.heap.size + 1 + 1))) ∧ W.cell? ⟨w1.heap.size, 0, none⟩ = some (.bool p.fs) ∧ W.cell? ⟨w1.heap.size, 1, none⟩ = some (.string p.fh) ∧ W.cell? ⟨w1.heap.size, 2, none⟩ = some (.int .i64 p.fp) ∧ W.cell? ⟨w1.heap.size, 3, none⟩ = some (.bool p.us) ∧ W.cell? ⟨w1.heap.size, 4, none⟩ = some (.string p.uh) ∧ W.cell? ⟨w1.heap.size, 5, none⟩ = some (.int .i64 p.up) ∧ W.cell? ⟨w1.heap.size, 6, none⟩ = some (.string p.pa) ∧ W.cell? ⟨w1.heap.size, 7, none⟩ = some (.string p.qu) ∧ W.cell? ⟨w1.heap.size, 8, none⟩ = some (.bool p.wi) ∧ W.cell? ⟨w1.heap.size, 9, none⟩ = some (.string p.me) ∧ W.cell? ⟨w1.heap.size, 10, none⟩ = some (.string p.he) ∧ W.cell? ⟨w1.heap.size, 11, none⟩ = some (.int .i64 0) := fun W hg => by
        have h1 := (cell_of (i := 0) (HR2.out.map hg).inv.mp).trans rfl
        have h2 := (hg.block _ (Array.getElem?_eq_some_iff.1 hkb).1 (by simp; omega)).trans hkb
        exact ⟨h1, (cell_of (i := 0) h2).trans rfl, (cell_of (i := 1) h2).trans rfl, (cell_of (i := 2) h2).trans rfl, (cell_of (i := 3) h2).trans rfl, (cell_of (i := 4) h2).trans rfl, (cell_of (i := 5) h2).trans rfl, (cell_of (i := 6) h2).trans rfl, (cell_of (i := 7) h2).trans rfl, (cell_of (i := 8) h2).trans rfl, (cell_of (i := 9) h2).trans rfl, (cell_of (i := 10) h2).trans rfl, (cell_of (i := 11) h2).trans rfl⟩
      have hkk : KeyOk p.key := hgp.1.key
      obtain ⟨st, w3, hen, hg3, hz3, hlk3, hst⟩ := HC2.out.entry (by have := HCN.out.2; omega) p.key hkk
      have hlk := HC2.out.look p.key hkk
      have hcb2 : cntP pv p.key ≤ 92 := Nat.le_trans (cntP_le _ _) HCN.out.2
      obtain ⟨w4, hes, hc4, hg4, hz4⟩ := hst (cntP pv p.key + 1) (by omega)
      have HC4 : Hid (OwnC w4 (w.heap.size + 2) (pv ++ [p]).length (cntP (pv ++ [p]))) := by
        rw [List.length_append, List.length_singleton]
        exact hc4.congr fun k => by rw [cntP_snoc]; by_cases hk : k = p.key <;> simp [hk]
      obtain ⟨c, HCC⟩ : ∃ c, Hid (cntP pv p.key = c) := ⟨_, rfl⟩
      rw [HCC.out] at hen hlk3 hlk hes hcb2
      clear hst hc4
      have hen1 : (Instr.mapEntry 54 (.map (some (w.heap.size + 1 + 1))) (.agg #[.bool p.fs, .string p.fh, .int .i64 p.fp, .bool p.us, .string p.uh, .int .i64 p.up, .string p.pa, .string p.qu, .bool p.wi, .string p.me, .string p.he, .int .i64 0])).run Tryd.prog w2.drew = .ok (.tuple #[.int .i64 (c : Int), .int .i64 (st : Int)]) w3 := hen
      have hlk1 : (Instr.lookup 54 (.map (some (w.heap.size + 1 + 1))) (.agg #[.bool p.fs, .string p.fh, .int .i64 p.fp, .bool p.us, .string p.uh, .int .i64 p.up, .string p.pa, .string p.qu, .bool p.wi, .string p.me, .string p.he, .int .i64 0]) false).run Tryd.prog w2.drew = .ok (.int .i64 (c : Int)) w2.drew := hlk
      have hlk2 : (Instr.lookup 54 (.map (some (w.heap.size + 1 + 1))) (.agg #[.bool p.fs, .string p.fh, .int .i64 p.fp, .bool p.us, .string p.uh, .int .i64 p.up, .string p.pa, .string p.qu, .bool p.wi, .string p.me, .string p.he, .int .i64 0]) false).run Tryd.prog w3 = .ok (.int .i64 (c : Int)) w3 := hlk3
      have hes1 : (Instr.entryStore 54 (.map (some (w.heap.size + 1 + 1))) (.int .i64 (st : Int)) (.int .i64 ((c + 1 : Nat) : Int))).run Tryd.prog w3 = .ok () w4 := hes
      have hwr : IntKind.i64.wrap ((c : Int) + 1) = ((c + 1 : Nat) : Int) := by unfold IntKind.wrap; simp [IntKind.bits, IntKind.signed]; omega
      obtain ⟨cz, hcz⟩ : ∃ cz, ((c + 1 : Nat) : Int) = cz := ⟨_, rfl⟩
      rw [hcz] at hes1 hwr
      have HG4 : Hid (w2.drew.grownBy w4 (some (w.heap.size + 2)) ∧ ((c + 1 : Nat) : Int) = cz) := ⟨hg4, hcz⟩
      clear hen hlk hlk3 hes hkb hz3 hz4 hcz hg4
      refine wpIn_held_round (S := fun W => w2.drew.grownBy W (some (w.heap.size + 2))) (by kernel_rfl) (by simp) (fun a w h => h) (World.grownBy.refl _ _) (fun hHeld => ?_)
      refine takeH (i := 0) (d := some 27) (v := ?_) rfl rfl (by kernel_rfl) (by kernel_rfl) (by kernel_rfl) (fun _ _ _ h => h) (by rfl) ?_ (by assumption) ?_
      rotate_left
      · intro w hSw; obtain ⟨g0, k0, k1, k2, k3, k4, k5, k6, k7, k8, k9, k10, k11⟩ := hcl _ hSw; go_simp; with_reducible rfl
      try simp only [Act.put, List.setIfInBounds_toArray, List.set_cons_zero, List.set_cons_succ]
      refine takeH (i := 1) (d := some 28) (v := ?_) rfl rfl (by kernel_rfl) (by kernel_rfl) (by kernel_rfl) (fun _ _ _ h => h) (by rfl) ?_ (by assumption) ?_
      rotate_left
      · intro w hSw; obtain ⟨g0, k0, k1, k2, k3, k4, k5, k6, k7, k8, k9, k10, k11⟩ := hcl _ hSw; go_simp; with_reducible rfl
      try simp only [Act.put, List.setIfInBounds_toArray, List.set_cons_zero, List.set_cons_succ]
      refine wpAnyH_ready (rs := [2, 4]) (by kernel_rfl) (by simp) ?_
      refine AllReadyH.cons (by rfl) (fun K hKK => ?wayA) (AllReadyH.cons (by rfl) (fun K hKK => ?wayB) AllReadyH.nil)
      case' wayB =>
        go_simp
        refine hKK.out _ _ hg3 (fun hHeld => ?_)
        clear hKK K
        try simp only [Act.put, List.setIfInBounds_toArray, List.set_cons_zero, List.set_cons_succ]
        refine takeH (i := 5) (d := some 32) (v := .int .i64 (st : Int)) rfl rfl (by kernel_rfl) (by kernel_rfl) (by kernel_rfl) (fun _ _ _ h => h) (by rfl) ?_ (by assumption) ?_
        · intro w hSw; go_simp
        try simp only [Act.put, List.setIfInBounds_toArray, List.set_cons_zero, List.set_cons_succ]
        refine wpAnyH_ready (rs := [2]) (by kernel_rfl) (by simp) ?_
        refine AllReadyH.cons (by rfl) (fun K hKK => ?_) AllReadyH.nil
        go_simp
        refine hKK.out _ _ (hg3) (fun hHeld => ?_)
        clear hKK K
        try simp only [Act.put, List.setIfInBounds_toArray, List.set_cons_zero, List.set_cons_succ]
        refine takeH (i := 3) (d := some 30) (v := .int .i64 cz) rfl rfl (by kernel_rfl) (by kernel_rfl) (by kernel_rfl) (fun _ _ _ h => h) (by rfl) ?_ (by assumption) ?_
        · intro w hSw; go_simp
        try simp only [Act.put, List.setIfInBounds_toArray, List.set_cons_zero, List.set_cons_succ]
        refine wpAnyH_ready (rs := [6]) (by kernel_rfl) (by simp) ?_
        refine AllReadyH.cons (by rfl) (fun K hKK => ?_) AllReadyH.nil
        go_simp
        refine hKK.out _ _ (HG4.out.1) (fun hHeld => ?_)
        clear hKK K
        try simp only [Act.put, List.setIfInBounds_toArray, List.set_cons_zero, List.set_cons_succ]
        refine wpAnyH_done (by kernel_rfl) ?_ _
      case' wayA =>
        go_simp
        refine hKK.out _ _ (World.grownBy.refl _ _) (fun hHeld => ?_)
        clear hKK K
        try simp only [Act.put, List.setIfInBounds_toArray, List.set_cons_zero, List.set_cons_succ]
        refine takeH (i := 3) (d := some 30) (v := .int .i64 cz) rfl rfl (by kernel_rfl) (by kernel_rfl) (by kernel_rfl) (fun _ _ _ h => h) (by rfl) ?_ (by assumption) ?_
        · intro w hSw; go_simp
        try simp only [Act.put, List.setIfInBounds_toArray, List.set_cons_zero, List.set_cons_succ]
        refine wpAnyH_ready (rs := [4]) (by kernel_rfl) (by simp) ?_
        refine AllReadyH.cons (by rfl) (fun K hKK => ?_) AllReadyH.nil
        go_simp
        refine hKK.out _ _ (hg3) (fun hHeld => ?_)
        clear hKK K
        try simp only [Act.put, List.setIfInBounds_toArray, List.set_cons_zero, List.set_cons_succ]
        refine takeH (i := 5) (d := some 32) (v := .int .i64 (st : Int)) rfl rfl (by kernel_rfl) (by kernel_rfl) (by kernel_rfl) (fun _ _ _ h => h) (by rfl) ?_ (by assumption) ?_
        · intro w hSw; go_simp
        try simp only [Act.put, List.setIfInBounds_toArray, List.set_cons_zero, List.set_cons_succ]
        refine wpAnyH_ready (rs := [6]) (by kernel_rfl) (by simp) ?_
        refine AllReadyH.cons (by rfl) (fun K hKK => ?_) AllReadyH.nil
        go_simp
        refine hKK.out _ _ (HG4.out.1) (fun hHeld => ?_)
        clear hKK K
        try simp only [Act.put, List.setIfInBounds_toArray, List.set_cons_zero, List.set_cons_succ]
        refine wpAnyH_done (by kernel_rfl) ?_ _
      all_goals
        have hlk4 : (Instr.lookup 54 (.map (some (w.heap.size + 1 + 1))) (.agg #[.bool p.fs, .string p.fh, .int .i64 p.fp, .bool p.us, .string p.uh, .int .i64 p.up, .string p.pa, .string p.qu, .bool p.wi, .string p.me, .string p.he, .int .i64 0]) false).run Tryd.prog w4 = .ok (.int .i64 cz) w4 := by
          have h := HC4.out.look p.key hkk
          rw [cntP_snoc, if_pos rfl, HCC.out, HG4.out.2] at h
          exact h
        obtain ⟨g0, k0, k1, k2, k3, k4, k5, k6, k7, k8, k9, k10, k11⟩ := hcl _ HG4.out.1
        have HR4 : Hid (Rnd w W6.heap.size w5.heap.size cb P now (.slice ra q rc) (pickL now [] pv) p W w4) := HR2.out.map HG4.out.1
        have e0 := HR4.out.cell 0 rfl
        have e1 := HR4.out.cell 1 rfl
        have e2 := HR4.out.cell 2 rfl
        have e3 := HR4.out.cell 3 rfl
        have e4 := HR4.out.cell 4 rfl
        have e5 := HR4.out.cell 5 rfl
        have e6 := HR4.out.cell 6 rfl
        have e7 := HR4.out.cell 7 rfl
        have e8 := HR4.out.cell 8 rfl
        have e9 := HR4.out.cell 9 rfl
        have e10 := HR4.out.cell 10 rfl
        have e11 := HR4.out.cell 11 rfl
        have c0 := (cell_of (i := 0) HR4.out.inv.cnow).trans rfl
        clear hcl hlk1 hlk2 hen1 hes1 hHeld hg3 HR2
        by_cases hc0 : c = 0
        · have hcz1 : (cz == 1) = true := by
            rw [← HG4.out.2, hc0]
            rfl
          by_cases hun : now < p.un
          · gi_wp2
            have HR9 : Hid (Rnd w W6.heap.size w5.heap.size cb P now (.slice ra q rc) (pickL now [] pv) p W w4.drew) := HR4.out.below (Below.refl _ _).drew
            have HC9 : Hid (OwnC w4.drew (w.heap.size + 2) (pv ++ [p]).length (cntP (pv ++ [p]))) := HC4.out.kept (below_grown (Below.refl _ _).drew none) (by simp)
            clear e0 e1 e2 e3 e4 e5 e6 e7 e8 e9 e10 e11 c0 hlk4 g0 k0 k1 k2 k3 k4 k5 k6 k7 k8 k9 k10 k11
            have e0 := HR9.out.cell 0 rfl
            have e1 := HR9.out.cell 1 rfl
            have e2 := HR9.out.cell 2 rfl
            have e3 := HR9.out.cell 3 rfl
            have e4 := HR9.out.cell 4 rfl
            have e5 := HR9.out.cell 5 rfl
            have e6 := HR9.out.cell 6 rfl
            have e7 := HR9.out.cell 7 rfl
            have e8 := HR9.out.cell 8 rfl
            have e9 := HR9.out.cell 9 rfl
            have e10 := HR9.out.cell 10 rfl
            have e11 := HR9.out.cell 11 rfl
            have c4 := (cell_of (i := 0) HR9.out.inv.box).trans rfl
            refine wpIn_held_round (S := fun _ => True) (by kernel_rfl) (by simp) (fun a w h => h) trivial (fun hHeld => ?_)
            refine wpAnyH_ready (rs := [0, 1]) (by kernel_rfl) (by simp) ?_
            refine AllReadyH.cons (by rfl) (fun K hKK => ?_) (AllReadyH.cons (by rfl) (fun K hKK => ?_) AllReadyH.nil)
            · skip
              go_simp
              refine hKK.out _ _ trivial (fun hHeld => ?_)
              clear hKK K
              try simp only [Act.put, List.setIfInBounds_toArray, List.set_cons_zero, List.set_cons_succ]
              refine wpAnyH_ready (rs := [1]) (by kernel_rfl) (by simp) ?_
              refine AllReadyH.cons (by rfl) (fun K hKK => ?_) AllReadyH.nil
              go_simp
              refine hKK.out _ _ trivial (fun hHeld => ?_)
              clear hKK K
              try simp only [Act.put, List.setIfInBounds_toArray, List.set_cons_zero, List.set_cons_succ]
              refine wpAnyH_ready (rs := [2]) (by kernel_rfl) (by simp) ?_
              refine AllReadyH.cons (by rfl) (fun K hKK => ?_) AllReadyH.nil
              go_simp
              refine (freshP_any p hgp.2 _).mono ?_
              rintro e w6 ⟨rfl, hb6⟩
              have HR6 : Hid (Rnd w W6.heap.size w5.heap.size cb P now (.slice ra q rc) (pickL now [] pv) p W w6) := HR9.out.below hb6
              have HC6 : Hid (OwnC w6 (w.heap.size + 2) (pv ++ [p]).length (cntP (pv ++ [p]))) := HC9.out.kept (below_grown hb6 none) (by simp)
              have hbs : (Instr.buildSlice 22 1 #[(0, .agg #[.bool p.fs, .string p.fh, .int .i64 p.fp, .bool p.us, .string p.uh, .int .i64 p.up, .string p.pa, .string p.qu, .bool p.wi, .string p.me, .string p.he, .int .i64 p.un])]).run Tryd.prog w6 = .ok (.slice (some ⟨w6.heap.size, 0, none⟩) 1 1) (w6.alloc (.cells #[.bool p.fs, .string p.fh, .int .i64 p.fp, .bool p.us, .string p.uh, .int .i64 p.up, .string p.pa, .string p.qu, .bool p.wi, .string p.me, .string p.he, .int .i64 p.un] 35)) := run_bsq w6 p
              obtain ⟨g8, cap8, w8, hap, hown8, hg8⟩ := run_apq w6 W6.heap.size (.slice ra q rc) (pickL now [] pv) p HR6.out.inv.row (by have := HR6.out.inv.few; omega) HR6.out.inv.siz 22
              rw [HQ.out] at hap hown8
              have hg8 : (w6.alloc (.cells #[.bool p.fs, .string p.fh, .int .i64 p.fp, .bool p.us, .string p.uh, .int .i64 p.up, .string p.pa, .string p.qu, .bool p.wi, .string p.me, .string p.he, .int .i64 p.un] 35)).grownBy w8 (Value.slice ra q rc).ownBlock := hg8
              have hap1 : (Builtin.append_ #[22, 22] 22 #[.slice ra q rc, .slice (some ⟨w6.heap.size, 0, none⟩) 1 1]).run Tryd.prog (w6.alloc (.cells #[.bool p.fs, .string p.fh, .int .i64 p.fp, .bool p.us, .string p.uh, .int .i64 p.up, .string p.pa, .string p.qu, .bool p.wi, .string p.me, .string p.he, .int .i64 p.un] 35)) = .ok (.slice (some ⟨g8, 0, none⟩) (q + 1) cap8) w8 := hap
              have c6 := (cell_of (i := 0) HR6.out.inv.box).trans rfl
              have HA6 := HR6.out.below (Below.alloc (Below.refl w6.heap.size w6) (Nat.le_refl _) (.cells #[.bool p.fs, .string p.fh, .int .i64 p.fp, .bool p.us, .string p.uh, .int .i64 p.up, .string p.pa, .string p.qu, .bool p.wi, .string p.me, .string p.he, .int .i64 p.un] 35))
              have c7 := (cell_of (i := 0) HA6.inv.box).trans rfl
              have hne8 : ∀ k, k < W6.heap.size → some k ≠ (Value.slice ra q rc).ownBlock := fun k hk e => by
                have := (OwnK.lt HA6.inv.row k e.symm).1
                omega
              have hb8 := (hg8.block _ (by have := HA6.inv.siz; omega) (hne8 _ (by omega))).trans HA6.inv.box
              have c8 := (cell_of (i := 0) hb8).trans rfl
              have f8 := free_of hb8 0
              have HM8 : Hid (PutB w W6.heap.size now (.slice (some ⟨g8, 0, none⟩) (q + 1) cap8) (pickL now [] pv ++ [p]) (w8.setCell ⟨w.heap.size + 1, 0, none⟩ (.slice (some ⟨g8, 0, none⟩) (q + 1) cap8)) ∧ KeepsFrom W6.heap.size W (w8.setCell ⟨w.heap.size + 1, 0, none⟩ (.slice (some ⟨g8, 0, none⟩) (q + 1) cap8)) ∧ KeepsQ w5.heap.size cb W (w8.setCell ⟨w.heap.size + 1, 0, none⟩ (.slice (some ⟨g8, 0, none⟩) (q + 1) cap8)) ∧ OwnC (w8.setCell ⟨w.heap.size + 1, 0, none⟩ (.slice (some ⟨g8, 0, none⟩) (q + 1) cap8)) (w.heap.size + 2) (pv ++ [p]).length (cntP (pv ++ [p]))) :=
                HR6.out.more hown8 hg8 (by rw [List.length_append, List.length_singleton, HQ.out]; omega) HC6.out
              clear hb6 hap hown8 hg8 HA6 hne8 hb8 HC6 HR6
              go_wp2_with fail
              refine hKK.out _ _ trivial (fun hHeld => ?_)
              clear hKK K
              try simp only [Act.put, List.setIfInBounds_toArray, List.set_cons_zero, List.set_cons_succ]
              refine wpAnyH_ready (rs := [3]) (by kernel_rfl) (by simp) ?_
              refine AllReadyH.cons (by rfl) (fun K hKK => ?_) AllReadyH.nil
              go_simp
              refine hKK.out _ _ trivial (fun hHeld => ?_)
              clear hKK K
              try simp only [Act.put, List.setIfInBounds_toArray, List.set_cons_zero, List.set_cons_succ]
              refine wpAnyH_ready (rs := [4]) (by kernel_rfl) (by simp) ?_
              refine AllReadyH.cons (by rfl) (fun K hKK => ?_) AllReadyH.nil
              refine step_ap rfl (.tmp 43) (.tmp 46) 22 rfl rfl rfl hap1 ?_
              refine hKK.out _ _ trivial (fun hHeld => ?_)
              clear hKK K
              try simp only [Act.put, List.setIfInBounds_toArray, List.set_cons_zero, List.set_cons_succ]
              refine wpAnyH_ready (rs := [5]) (by kernel_rfl) (by simp) ?_
              refine AllReadyH.cons (by rfl) (fun K hKK => ?_) AllReadyH.nil
              go_simp
              refine hKK.out _ _ trivial (fun hHeld => ?_)
              clear hKK K
              try simp only [Act.put, List.setIfInBounds_toArray, List.set_cons_zero, List.set_cons_succ]
              refine wpAnyH_done (by kernel_rfl) ?_ _
              generalize (w8.setCell ⟨w.heap.size + 1, 0, none⟩ (.slice (some ⟨g8, 0, none⟩) (q + 1) cap8)) = w9 at HM8 ⊢
              gi_wp2
              refine ⟨HM8.out.2.1, HM8.out.2.2.1, .slice (some ⟨g8, 0, none⟩) (q + 1) cap8, ?_⟩
              rw [List.map_append, HPV.out]
              have hb9 := HM8.out.1
              rw [← pickL_new now pv p (cntP_zero.1 (by rw [HCC.out]; exact hc0)) hun] at hb9
              exact ⟨hb9, HM8.out.2.2.2⟩
            · skip
              go_simp
              refine hKK.out _ _ trivial (fun hHeld => ?_)
              clear hKK K
              try simp only [Act.put, List.setIfInBounds_toArray, List.set_cons_zero, List.set_cons_succ]
              refine wpAnyH_ready (rs := [0, 2]) (by kernel_rfl) (by simp) ?_
              refine AllReadyH.cons (by rfl) (fun K hKK => ?_) (AllReadyH.cons (by rfl) (fun K hKK => ?_) AllReadyH.nil)
              · skip
                go_simp
                refine hKK.out _ _ trivial (fun hHeld => ?_)
                clear hKK K
                try simp only [Act.put, List.setIfInBounds_toArray, List.set_cons_zero, List.set_cons_succ]
                refine wpAnyH_ready (rs := [2]) (by kernel_rfl) (by simp) ?_
                refine AllReadyH.cons (by rfl) (fun K hKK => ?_) AllReadyH.nil
                go_simp
                refine (freshP_any p hgp.2 _).mono ?_
                rintro e w6 ⟨rfl, hb6⟩
                have HR6 : Hid (Rnd w W6.heap.size w5.heap.size cb P now (.slice ra q rc) (pickL now [] pv) p W w6) := HR9.out.below hb6
                have HC6 : Hid (OwnC w6 (w.heap.size + 2) (pv ++ [p]).length (cntP (pv ++ [p]))) := HC9.out.kept (below_grown hb6 none) (by simp)
                have hbs : (Instr.buildSlice 22 1 #[(0, .agg #[.bool p.fs, .string p.fh, .int .i64 p.fp, .bool p.us, .string p.uh, .int .i64 p.up, .string p.pa, .string p.qu, .bool p.wi, .string p.me, .string p.he, .int .i64 p.un])]).run Tryd.prog w6 = .ok (.slice (some ⟨w6.heap.size, 0, none⟩) 1 1) (w6.alloc (.cells #[.bool p.fs, .string p.fh, .int .i64 p.fp, .bool p.us, .string p.uh, .int .i64 p.up, .string p.pa, .string p.qu, .bool p.wi, .string p.me, .string p.he, .int .i64 p.un] 35)) := run_bsq w6 p
                obtain ⟨g8, cap8, w8, hap, hown8, hg8⟩ := run_apq w6 W6.heap.size (.slice ra q rc) (pickL now [] pv) p HR6.out.inv.row (by have := HR6.out.inv.few; omega) HR6.out.inv.siz 22
                rw [HQ.out] at hap hown8
                have hg8 : (w6.alloc (.cells #[.bool p.fs, .string p.fh, .int .i64 p.fp, .bool p.us, .string p.uh, .int .i64 p.up, .string p.pa, .string p.qu, .bool p.wi, .string p.me, .string p.he, .int .i64 p.un] 35)).grownBy w8 (Value.slice ra q rc).ownBlock := hg8
                have hap1 : (Builtin.append_ #[22, 22] 22 #[.slice ra q rc, .slice (some ⟨w6.heap.size, 0, none⟩) 1 1]).run Tryd.prog (w6.alloc (.cells #[.bool p.fs, .string p.fh, .int .i64 p.fp, .bool p.us, .string p.uh, .int .i64 p.up, .string p.pa, .string p.qu, .bool p.wi, .string p.me, .string p.he, .int .i64 p.un] 35)) = .ok (.slice (some ⟨g8, 0, none⟩) (q + 1) cap8) w8 := hap
                have c6 := (cell_of (i := 0) HR6.out.inv.box).trans rfl
                have HA6 := HR6.out.below (Below.alloc (Below.refl w6.heap.size w6) (Nat.le_refl _) (.cells #[.bool p.fs, .string p.fh, .int .i64 p.fp, .bool p.us, .string p.uh, .int .i64 p.up, .string p.pa, .string p.qu, .bool p.wi, .string p.me, .string p.he, .int .i64 p.un] 35))
                have c7 := (cell_of (i := 0) HA6.inv.box).trans rfl
                have hne8 : ∀ k, k < W6.heap.size → some k ≠ (Value.slice ra q rc).ownBlock := fun k hk e => by
                  have := (OwnK.lt HA6.inv.row k e.symm).1
                  omega
                have hb8 := (hg8.block _ (by have := HA6.inv.siz; omega) (hne8 _ (by omega))).trans HA6.inv.box
                have c8 := (cell_of (i := 0) hb8).trans rfl
                have f8 := free_of hb8 0
                have HM8 : Hid (PutB w W6.heap.size now (.slice (some ⟨g8, 0, none⟩) (q + 1) cap8) (pickL now [] pv ++ [p]) (w8.setCell ⟨w.heap.size + 1, 0, none⟩ (.slice (some ⟨g8, 0, none⟩) (q + 1) cap8)) ∧ KeepsFrom W6.heap.size W (w8.setCell ⟨w.heap.size + 1, 0, none⟩ (.slice (some ⟨g8, 0, none⟩) (q + 1) cap8)) ∧ KeepsQ w5.heap.size cb W (w8.setCell ⟨w.heap.size + 1, 0, none⟩ (.slice (some ⟨g8, 0, none⟩) (q + 1) cap8)) ∧ OwnC (w8.setCell ⟨w.heap.size + 1, 0, none⟩ (.slice (some ⟨g8, 0, none⟩) (q + 1) cap8)) (w.heap.size + 2) (pv ++ [p]).length (cntP (pv ++ [p]))) :=
                  HR6.out.more hown8 hg8 (by rw [List.length_append, List.length_singleton, HQ.out]; omega) HC6.out
                clear hb6 hap hown8 hg8 HA6 hne8 hb8 HC6 HR6
                go_wp2_with fail
                refine hKK.out _ _ trivial (fun hHeld => ?_)
                clear hKK K
                try simp only [Act.put, List.setIfInBounds_toArray, List.set_cons_zero, List.set_cons_succ]
                refine wpAnyH_ready (rs := [3]) (by kernel_rfl) (by simp) ?_
                refine AllReadyH.cons (by rfl) (fun K hKK => ?_) AllReadyH.nil
                go_simp
                refine hKK.out _ _ trivial (fun hHeld => ?_)
                clear hKK K
                try simp only [Act.put, List.setIfInBounds_toArray, List.set_cons_zero, List.set_cons_succ]
                refine wpAnyH_ready (rs := [4]) (by kernel_rfl) (by simp) ?_
                refine AllReadyH.cons (by rfl) (fun K hKK => ?_) AllReadyH.nil
                refine step_ap rfl (.tmp 43) (.tmp 46) 22 rfl rfl rfl hap1 ?_
                refine hKK.out _ _ trivial (fun hHeld => ?_)
                clear hKK K
                try simp only [Act.put, List.setIfInBounds_toArray, List.set_cons_zero, List.set_cons_succ]
                refine wpAnyH_ready (rs := [5]) (by kernel_rfl) (by simp) ?_
                refine AllReadyH.cons (by rfl) (fun K hKK => ?_) AllReadyH.nil
                go_simp
                refine hKK.out _ _ trivial (fun hHeld => ?_)
                clear hKK K
                try simp only [Act.put, List.setIfInBounds_toArray, List.set_cons_zero, List.set_cons_succ]
                refine wpAnyH_done (by kernel_rfl) ?_ _
                generalize (w8.setCell ⟨w.heap.size + 1, 0, none⟩ (.slice (some ⟨g8, 0, none⟩) (q + 1) cap8)) = w9 at HM8 ⊢
                gi_wp2
                refine ⟨HM8.out.2.1, HM8.out.2.2.1, .slice (some ⟨g8, 0, none⟩) (q + 1) cap8, ?_⟩
                rw [List.map_append, HPV.out]
                have hb9 := HM8.out.1
                rw [← pickL_new now pv p (cntP_zero.1 (by rw [HCC.out]; exact hc0)) hun] at hb9
                exact ⟨hb9, HM8.out.2.2.2⟩
              · skip
                go_simp
                refine (freshP_any p hgp.2 _).mono ?_
                rintro e w6 ⟨rfl, hb6⟩
                have HR6 : Hid (Rnd w W6.heap.size w5.heap.size cb P now (.slice ra q rc) (pickL now [] pv) p W w6) := HR9.out.below hb6
                have HC6 : Hid (OwnC w6 (w.heap.size + 2) (pv ++ [p]).length (cntP (pv ++ [p]))) := HC9.out.kept (below_grown hb6 none) (by simp)
                have hbs : (Instr.buildSlice 22 1 #[(0, .agg #[.bool p.fs, .string p.fh, .int .i64 p.fp, .bool p.us, .string p.uh, .int .i64 p.up, .string p.pa, .string p.qu, .bool p.wi, .string p.me, .string p.he, .int .i64 p.un])]).run Tryd.prog w6 = .ok (.slice (some ⟨w6.heap.size, 0, none⟩) 1 1) (w6.alloc (.cells #[.bool p.fs, .string p.fh, .int .i64 p.fp, .bool p.us, .string p.uh, .int .i64 p.up, .string p.pa, .string p.qu, .bool p.wi, .string p.me, .string p.he, .int .i64 p.un] 35)) := run_bsq w6 p
                obtain ⟨g8, cap8, w8, hap, hown8, hg8⟩ := run_apq w6 W6.heap.size (.slice ra q rc) (pickL now [] pv) p HR6.out.inv.row (by have := HR6.out.inv.few; omega) HR6.out.inv.siz 22
                rw [HQ.out] at hap hown8
                have hg8 : (w6.alloc (.cells #[.bool p.fs, .string p.fh, .int .i64 p.fp, .bool p.us, .string p.uh, .int .i64 p.up, .string p.pa, .string p.qu, .bool p.wi, .string p.me, .string p.he, .int .i64 p.un] 35)).grownBy w8 (Value.slice ra q rc).ownBlock := hg8
                have hap1 : (Builtin.append_ #[22, 22] 22 #[.slice ra q rc, .slice (some ⟨w6.heap.size, 0, none⟩) 1 1]).run Tryd.prog (w6.alloc (.cells #[.bool p.fs, .string p.fh, .int .i64 p.fp, .bool p.us, .string p.uh, .int .i64 p.up, .string p.pa, .string p.qu, .bool p.wi, .string p.me, .string p.he, .int .i64 p.un] 35)) = .ok (.slice (some ⟨g8, 0, none⟩) (q + 1) cap8) w8 := hap
                have c6 := (cell_of (i := 0) HR6.out.inv.box).trans rfl
                have HA6 := HR6.out.below (Below.alloc (Below.refl w6.heap.size w6) (Nat.le_refl _) (.cells #[.bool p.fs, .string p.fh, .int .i64 p.fp, .bool p.us, .string p.uh, .int .i64 p.up, .string p.pa, .string p.qu, .bool p.wi, .string p.me, .string p.he, .int .i64 p.un] 35))
                have c7 := (cell_of (i := 0) HA6.inv.box).trans rfl
                have hne8 : ∀ k, k < W6.heap.size → some k ≠ (Value.slice ra q rc).ownBlock := fun k hk e => by
                  have := (OwnK.lt HA6.inv.row k e.symm).1
                  omega
                have hb8 := (hg8.block _ (by have := HA6.inv.siz; omega) (hne8 _ (by omega))).trans HA6.inv.box
                have c8 := (cell_of (i := 0) hb8).trans rfl
                have f8 := free_of hb8 0
                have HM8 : Hid (PutB w W6.heap.size now (.slice (some ⟨g8, 0, none⟩) (q + 1) cap8) (pickL now [] pv ++ [p]) (w8.setCell ⟨w.heap.size + 1, 0, none⟩ (.slice (some ⟨g8, 0, none⟩) (q + 1) cap8)) ∧ KeepsFrom W6.heap.size W (w8.setCell ⟨w.heap.size + 1, 0, none⟩ (.slice (some ⟨g8, 0, none⟩) (q + 1) cap8)) ∧ KeepsQ w5.heap.size cb W (w8.setCell ⟨w.heap.size + 1, 0, none⟩ (.slice (some ⟨g8, 0, none⟩) (q + 1) cap8)) ∧ OwnC (w8.setCell ⟨w.heap.size + 1, 0, none⟩ (.slice (some ⟨g8, 0, none⟩) (q + 1) cap8)) (w.heap.size + 2) (pv ++ [p]).length (cntP (pv ++ [p]))) :=
                  HR6.out.more hown8 hg8 (by rw [List.length_append, List.length_singleton, HQ.out]; omega) HC6.out
                clear hb6 hap hown8 hg8 HA6 hne8 hb8 HC6 HR6
                go_wp2_with fail
                refine hKK.out _ _ trivial (fun hHeld => ?_)
                clear hKK K
                try simp only [Act.put, List.setIfInBounds_toArray, List.set_cons_zero, List.set_cons_succ]
                refine wpAnyH_ready (rs := [0, 3]) (by kernel_rfl) (by simp) ?_
                refine AllReadyH.cons (by rfl) (fun K hKK => ?_) (AllReadyH.cons (by rfl) (fun K hKK => ?_) AllReadyH.nil)
                · skip
                  go_simp
                  refine hKK.out _ _ trivial (fun hHeld => ?_)
                  clear hKK K
                  try simp only [Act.put, List.setIfInBounds_toArray, List.set_cons_zero, List.set_cons_succ]
                  refine wpAnyH_ready (rs := [3]) (by kernel_rfl) (by simp) ?_
                  refine AllReadyH.cons (by rfl) (fun K hKK => ?_) AllReadyH.nil
                  go_simp
                  refine hKK.out _ _ trivial (fun hHeld => ?_)
                  clear hKK K
                  try simp only [Act.put, List.setIfInBounds_toArray, List.set_cons_zero, List.set_cons_succ]
                  refine wpAnyH_ready (rs := [4]) (by kernel_rfl) (by simp) ?_
                  refine AllReadyH.cons (by rfl) (fun K hKK => ?_) AllReadyH.nil
                  refine step_ap rfl (.tmp 43) (.tmp 46) 22 rfl rfl rfl hap1 ?_
                  refine hKK.out _ _ trivial (fun hHeld => ?_)
                  clear hKK K
                  try simp only [Act.put, List.setIfInBounds_toArray, List.set_cons_zero, List.set_cons_succ]
                  refine wpAnyH_ready (rs := [5]) (by kernel_rfl) (by simp) ?_
                  refine AllReadyH.cons (by rfl) (fun K hKK => ?_) AllReadyH.nil
                  go_simp
                  refine hKK.out _ _ trivial (fun hHeld => ?_)
                  clear hKK K
                  try simp only [Act.put, List.setIfInBounds_toArray, List.set_cons_zero, List.set_cons_succ]
                  refine wpAnyH_done (by kernel_rfl) ?_ _
                  generalize (w8.setCell ⟨w.heap.size + 1, 0, none⟩ (.slice (some ⟨g8, 0, none⟩) (q + 1) cap8)) = w9 at HM8 ⊢
                  gi_wp2
                  refine ⟨HM8.out.2.1, HM8.out.2.2.1, .slice (some ⟨g8, 0, none⟩) (q + 1) cap8, ?_⟩
                  rw [List.map_append, HPV.out]
                  have hb9 := HM8.out.1
                  rw [← pickL_new now pv p (cntP_zero.1 (by rw [HCC.out]; exact hc0)) hun] at hb9
                  exact ⟨hb9, HM8.out.2.2.2⟩
                · skip
                  go_simp
                  refine hKK.out _ _ trivial (fun hHeld => ?_)
                  clear hKK K
                  try simp only [Act.put, List.setIfInBounds_toArray, List.set_cons_zero, List.set_cons_succ]
                  refine wpAnyH_ready (rs := [0]) (by kernel_rfl) (by simp) ?_
                  refine AllReadyH.cons (by rfl) (fun K hKK => ?_) AllReadyH.nil
                  go_simp
                  refine hKK.out _ _ trivial (fun hHeld => ?_)
                  clear hKK K
                  try simp only [Act.put, List.setIfInBounds_toArray, List.set_cons_zero, List.set_cons_succ]
                  refine wpAnyH_ready (rs := [4]) (by kernel_rfl) (by simp) ?_
                  refine AllReadyH.cons (by rfl) (fun K hKK => ?_) AllReadyH.nil
                  refine step_ap rfl (.tmp 43) (.tmp 46) 22 rfl rfl rfl hap1 ?_
                  refine hKK.out _ _ trivial (fun hHeld => ?_)
                  clear hKK K
                  try simp only [Act.put, List.setIfInBounds_toArray, List.set_cons_zero, List.set_cons_succ]
                  refine wpAnyH_ready (rs := [5]) (by kernel_rfl) (by simp) ?_
                  refine AllReadyH.cons (by rfl) (fun K hKK => ?_) AllReadyH.nil
                  go_simp
                  refine hKK.out _ _ trivial (fun hHeld => ?_)
                  clear hKK K
                  try simp only [Act.put, List.setIfInBounds_toArray, List.set_cons_zero, List.set_cons_succ]
                  refine wpAnyH_done (by kernel_rfl) ?_ _
                  generalize (w8.setCell ⟨w.heap.size + 1, 0, none⟩ (.slice (some ⟨g8, 0, none⟩) (q + 1) cap8)) = w9 at HM8 ⊢
                  gi_wp2
                  refine ⟨HM8.out.2.1, HM8.out.2.2.1, .slice (some ⟨g8, 0, none⟩) (q + 1) cap8, ?_⟩
                  rw [List.map_append, HPV.out]
                  have hb9 := HM8.out.1
                  rw [← pickL_new now pv p (cntP_zero.1 (by rw [HCC.out]; exact hc0)) hun] at hb9
                  exact ⟨hb9, HM8.out.2.2.2⟩
          · have hfin : PutI w W6.heap.size now (.slice ra q rc) ((pre ++ [((i, ⟨p, hgp⟩) : Nat × GP)]).map (fun y => y.2.1)) w4 := by
              rw [List.map_append, HPV.out]
              refine ⟨?_, HC4.out⟩
              show PutB _ _ _ _ (pickL now [] (pv ++ [p])) _
              rw [pickL_old now pv p (.inr hun)]
              exact HR4.out.inv
            gi_wp2
            exact ⟨HR4.out.kf, HR4.out.kq, _, hfin⟩
        · have hcz1 : (cz == 1) = false := by
            rw [← HG4.out.2]
            simp
            omega
          have hfin : PutI w W6.heap.size now (.slice ra q rc) ((pre ++ [((i, ⟨p, hgp⟩) : Nat × GP)]).map (fun y => y.2.1)) w4 := by
            rw [List.map_append, HPV.out]
            refine ⟨?_, HC4.out⟩
            show PutB _ _ _ _ (pickL now [] (pv ++ [p])) _
            rw [pickL_old now pv p (.inl (Classical.byContradiction fun h => hc0 (by rw [← HCC.out]; exact cntP_zero.2 h)))]
            exact HR4.out.inv
          gi_wp2
          exact ⟨HR4.out.kf, HR4.out.kq, _, hfin⟩
  case done =>
    rintro D ys W hD hys ⟨rv, hI⟩ hK
    obtain ⟨ps, hpsd⟩ : ∃ ps, pickL now [] (ys.map (fun y => y.2.1)) = ps := ⟨_, rfl⟩
    have hbel := hI.1.bel
    have hsiz := hI.1.siz
    have hbox := hI.1.box
    have hrow := hI.1.row
    have hpl := hI.1.few
    rw [hpsd] at hrow hpl
    have hps : (pickL now [] (xs ++ l).reverse).take 32 = ps := by
      rw [← hys, hpsd, List.take_of_length_le hpl]
    clear hI hys hpsd
    have c1 := (cell_of (i := 0) hbox).trans rfl
    obtain ⟨ra, rc, rg, rfl, hrp⟩ := OwnQ.pss hrow
    clear hrp
    obtain ⟨q, HQ⟩ : ∃ q, Hid (ps.length = q) := ⟨_, rfl⟩
    rw [HQ.out] at c1 hrow hbox
    have HW : Hid (Below w.heap.size w W ∧ OwnQ W W6.heap.size (.slice ra q rc) ps ∧ (pickL now [] (xs ++ l).reverse).take 32 = ps ∧ W.heap[D]? = some (.deferred (some [])) ∧ W6.heap.size ≤ D ∧ ps.length ≤ 32 ∧ W.heap[w.heap.size + 1]? = some (.cells #[.slice ra q rc] 22 (0, 0)) ∧ W6.heap.size ≤ W.heap.size) := ⟨hbel, hrow, hps, hK, hD, hpl, hbox, hsiz⟩
    clear hbel hrow hps hK hD hpl hbox hsiz
    gi_wp2_with fail
    refine ⟨trivial, ?_⟩
    refine (callsIn_wide.2 (reverseQ_own2 ps W6.heap.size (.slice ra q rc) (by have := HW.out.2.2.2.2.2.1; omega) W HW.out.2.1)).mono ?_
    rintro e w7 ⟨rfl, H7⟩
    obtain ⟨e1, e2, e3, e4, e5⟩ := put_end HK.out HG.out HW.out.1 (by omega) HW.out.2.2.2.2.1 HW.out.2.1 HW.out.2.2.1 H7.out.2 H7.out.1 HW.out.2.2.2.1
    have HE : Hid ((w7.setCell ⟨bk, 0, none⟩ (.slice ra q rc)).heap[D]? = some (.deferred (some [])) ∧ BookW ((w7.setCell ⟨bk, 0, none⟩ (.slice ra q rc)).putObj D (.deferred none)) B bk (.slice ra q rc) (putL now xs l) ∧ w.grownBy ((w7.setCell ⟨bk, 0, none⟩ (.slice ra q rc)).putObj D (.deferred none)) (some bk) ∧ ∀ x, (Value.slice ra q rc).ownBlock = some x → w.heap.size ≤ x) := ⟨e1, e3, e4, e5⟩
    have b7 := (cell_of (i := 0) e2).trans rfl
    have f7 := free_of e2 0
    have c7 := (cell_of (i := 0) ((H7.out.2.block _ (by have := HW.out.2.2.2.2.2.2.2; omega) (fun e => by have := (OwnK.lt HW.out.2.1 _ e.symm).1; omega)).trans HW.out.2.2.2.2.2.2.1)).trans rfl
    clear e1 e2 e3 e4 e5 c1
    gi_wp2_with fail
    refine ⟨by simp, .inl ⟨_, _, rfl, run_takeDeferred HE.out.1, ?_⟩⟩
    exact ⟨_, results_none rfl _ _ _, ⟨_, rfl⟩, _, HE.out.2⟩
  case stop =>
    rintro D c pre W hD hpre ⟨rfl, rv, hX⟩ hK
    obtain ⟨pre0, hp0, hp32, hrow⟩ := hX.row
    obtain ⟨ps, hpsd⟩ : ∃ ps, pickL now [] pre0 = ps := ⟨_, rfl⟩
    have hbel := hX.bel
    have hsiz := hX.siz
    have hbox := hX.box
    have hps : (pickL now [] (xs ++ l).reverse).take 32 = ps := by
      obtain ⟨t, ht⟩ := List.IsPrefix.trans hp0 hpre
      rw [← ht, pickL_full now pre0 t hp32, hpsd]
    have hpl : ps.length ≤ 32 := by rw [← hpsd]; omega
    rw [hpsd] at hrow
    clear hX hpsd hp0 hp32 hpre
    have c1 := (cell_of (i := 0) hbox).trans rfl
    obtain ⟨ra, rc, rg, rfl, hrp⟩ := OwnQ.pss hrow
    clear hrp
    obtain ⟨q, HQ⟩ : ∃ q, Hid (ps.length = q) := ⟨_, rfl⟩
    rw [HQ.out] at c1 hrow hbox
    have HW : Hid (Below w.heap.size w W ∧ OwnQ W W6.heap.size (.slice ra q rc) ps ∧ (pickL now [] (xs ++ l).reverse).take 32 = ps ∧ W.heap[D]? = some (.deferred (some [])) ∧ W6.heap.size ≤ D ∧ ps.length ≤ 32 ∧ W.heap[w.heap.size + 1]? = some (.cells #[.slice ra q rc] 22 (0, 0)) ∧ W6.heap.size ≤ W.heap.size) := ⟨hbel, hrow, hps, hK, hD, hpl, hbox, hsiz⟩
    clear hbel hrow hps hK hD hpl hbox hsiz
    gi_wp2_with fail
    refine ⟨trivial, ?_⟩
    refine (callsIn_wide.2 (reverseQ_own2 ps W6.heap.size (.slice ra q rc) (by have := HW.out.2.2.2.2.2.1; omega) W HW.out.2.1)).mono ?_
    rintro e w7 ⟨rfl, H7⟩
    obtain ⟨e1, e2, e3, e4, e5⟩ := put_end HK.out HG.out HW.out.1 (by omega) HW.out.2.2.2.2.1 HW.out.2.1 HW.out.2.2.1 H7.out.2 H7.out.1 HW.out.2.2.2.1
    have HE : Hid ((w7.setCell ⟨bk, 0, none⟩ (.slice ra q rc)).heap[D]? = some (.deferred (some [])) ∧ BookW ((w7.setCell ⟨bk, 0, none⟩ (.slice ra q rc)).putObj D (.deferred none)) B bk (.slice ra q rc) (putL now xs l) ∧ w.grownBy ((w7.setCell ⟨bk, 0, none⟩ (.slice ra q rc)).putObj D (.deferred none)) (some bk) ∧ ∀ x, (Value.slice ra q rc).ownBlock = some x → w.heap.size ≤ x) := ⟨e1, e3, e4, e5⟩
    have b7 := (cell_of (i := 0) e2).trans rfl
    have f7 := free_of e2 0
    have c7 := (cell_of (i := 0) ((H7.out.2.block _ (by have := HW.out.2.2.2.2.2.2.2; omega) (fun e => by have := (OwnK.lt HW.out.2.1 _ e.symm).1; omega)).trans HW.out.2.2.2.2.2.2.1)).trans rfl
    clear e1 e2 e3 e4 e5 c1
    gi_wp2_with fail
    refine ⟨by simp, .inl ⟨_, _, rfl, run_takeDeferred HE.out.1, ?_⟩⟩
    exact ⟨_, results_none rfl _ _ _, ⟨_, rfl⟩, _, HE.out.2⟩
end Go.Proofs.YtihhabidfcgogaaDoor

/- The facts of booked: a pass that counts for a time. -/
namespace Go.Proofs.YtihhabidfcgogaaDoor
open Go.RowKit
set_option linter.unusedVariables false

set_option maxRecDepth 100000 in
set_option maxHeartbeats 2000000 in
theorem homeP_any (w : World) : Calls Tryd.prog 23 #[] w fun e w' => e = .returned (.agg #[.bool true, .string ⟨#[97, 46, 116, 101, 115, 116]⟩, .int .i64 443]) ∧ Below w.heap.size w w' := by
  go_enter Tryd.func23, Tryd.ntmps23
  go_wp2
  exact bodyPost_ret (v := .agg #[.bool true, .string ⟨#[97, 46, 116, 101, 115, 116]⟩, .int .i64 443]) (res_cell rfl rfl Tryd.isAgg31 Tryd.sizeOf31 (vs := [.bool true, .string ⟨#[97, 46, 116, 101, 115, 116]⟩, .int .i64 443]) rfl (heap_alloc_new w _)) rfl ⟨rfl, (Below.refl _ _).alloc (Nat.le_refl _) _⟩
def bkR : RqV := ⟨0, true, ⟨#[97, 46, 116, 101, 115, 116]⟩, 443, true, ⟨#[98, 46, 116, 101, 115, 116]⟩, 443, ⟨#[47]⟩, ⟨#[]⟩, ⟨#[80, 85, 84]⟩, none, 0, 0, false, ⟨#[]⟩⟩
def bkP : PsV := ⟨true, ⟨#[97, 46, 116, 101, 115, 116]⟩, 443, true, ⟨#[98, 46, 116, 101, 115, 116]⟩, 443, ⟨#[47]⟩, ⟨#[]⟩, false, ⟨#[80, 85, 84]⟩, ⟨#[]⟩, 5⟩
theorem bk_put : putL 0 [] [bkP] = [bkP] := by
  have h : (0 : Int) < bkP.un := by decide
  simp [putL, pickL, h]
theorem bk_way : wayB bkR bkP = true := by
  unfold wayB
  simp [bkR, bkP]
theorem bk_need : needB bkR [] = true := by decide +kernel
theorem bk_yes : bookB bkR [] 4 [bkP] = true := by
  have h : forB bkR 4 bkP = true := by
    unfold forB
    rw [bk_way]
    decide
  unfold bookB
  rw [bk_need, List.filter_cons, if_pos h]
  decide +kernel
theorem bk_no : bookB bkR [] 5 [bkP] = false := by
  have h : forB bkR 5 bkP = false := by
    unfold forB
    rw [bk_way]
    decide
  unfold bookB
  rw [bk_need, List.filter_cons, if_neg (by rw [h]; simp)]
  decide +kernel
theorem bk_good : GoodP bkP := ⟨⟨by decide, by decide, by decide, by decide, by decide, by decide, by decide, by decide, by decide⟩, ⟨by decide, by decide, by decide, by decide, by decide, by decide⟩⟩
theorem bk_req {w W : World} (hm : Methods w) (hb : Below w.heap.size w W) : ReqOk bkR [] 0 0 W := ⟨fun p hp => (by cases hp), by decide, by decide, ⟨rfl, fun h => absurd h (by decide), fun j p hj => by simp at hj, fun j p hj => by simp at hj⟩, hm.below hb (Nat.le_refl _)⟩
/-- What the fact holds while it asks. -/
structure BkS (w : World) (gr : Nat) (v : Value) (xs : List PsV) (W : World) : Prop where
  bel : Below w.heap.size w W
  bok : BookW W w.heap.size w.heap.size v xs
  req : W.heap[gr]? = some (.cells #[.int .i64 0, .bool true, .string ⟨#[97, 46, 116, 101, 115, 116]⟩, .int .i64 443, .bool true, .string ⟨#[98, 46, 116, 101, 115, 116]⟩, .int .i64 443, .string ⟨#[47]⟩, .string ⟨#[]⟩, .string ⟨#[80, 85, 84]⟩, .slice none 0 0, .bool false, .string ⟨#[]⟩] 39 (0, 0))
theorem BkS.step {w W W' : World} {gr : Nat} {v : Value} {xs : List PsV} (h : BkS w gr v xs W) (hb : Below W.heap.size W W') : BkS w gr v xs W' :=
  ⟨h.bel.trans (hb.mono h.bel.size), h.bok.below hb, (hb.block _ (Array.getElem?_eq_some_iff.1 h.req).1).trans h.req⟩
theorem book_new (w : World) : BookW (w.alloc (.cells #[.slice none 0 0] 27)) w.heap.size w.heap.size (.slice none 0 0) [] := ⟨heap_alloc_new w _, Nat.le_refl _, ownQ_nil _ _, fun p hp => (by cases hp), by simp⟩
theorem pss_one (W : World) (x : PsV) : Pss (W.alloc (.cells x.vals.toArray 35)) (some ⟨W.heap.size, 0, none⟩) 1 W.heap.size 0 [x] := by
  refine ⟨rfl, fun _ => ⟨rfl, by simp⟩, fun j v hj i u hi => ?_⟩
  match j, hj with
  | 0, hj =>
    simp only [List.getElem?_cons_zero, Option.some.injEq] at hj
    subst hj
    rw [show (0 + 0 * 12 + i) = i by omega]
    exact (cell_of (heap_alloc_new W _)).trans (by simpa using hi)
  | j + 1, hj => simp at hj
set_option maxRecDepth 100000 in
set_option maxHeartbeats 4000000 in
theorem booked_any (w : World) (hm : Methods w) : Calls Tryd.prog 6 #[] w fun e w' => e = .returned (.bool true) ∧ Below w.heap.size w w' := by
  have HM : Hid (Methods w) := hm
  have hb0 : Below w.heap.size w (w.alloc (.cells #[.slice none 0 0] 27)) := (Below.refl _ _).alloc (Nat.le_refl _) _
  have HB0 : Hid (Below w.heap.size w (w.alloc (.cells #[.slice none 0 0] 27)) ∧ BookW (w.alloc (.cells #[.slice none 0 0] 27)) w.heap.size w.heap.size (.slice none 0 0) []) := ⟨hb0, book_new w⟩
  clear hm hb0
  go_enter Tryd.func6, Tryd.ntmps6
  go_wp2_with fail
  generalize w.alloc (.cells #[.slice none 0 0] 27) = W0 at HB0 ⊢
  refine (homeP_any _).mono ?_
  rintro e w1 ⟨rfl, hb1⟩
  have hs1 := hb1.size
  have hs0 := HB0.out.2.lt
  have hb2 : Below w1.heap.size w1 (w1.alloc (.cells #[.int .i64 0, .bool true, .string ⟨#[97, 46, 116, 101, 115, 116]⟩, .int .i64 443, .bool true, .string ⟨#[98, 46, 116, 101, 115, 116]⟩, .int .i64 443, .string ⟨#[47]⟩, .string ⟨#[]⟩, .string ⟨#[80, 85, 84]⟩, .slice none 0 0, .bool false, .string ⟨#[]⟩] 39)) := (Below.refl _ _).alloc (Nat.le_refl _) _
  have HS2 : Hid (BkS w w1.heap.size (.slice none 0 0) [] (w1.alloc (.cells #[.int .i64 0, .bool true, .string ⟨#[97, 46, 116, 101, 115, 116]⟩, .int .i64 443, .bool true, .string ⟨#[98, 46, 116, 101, 115, 116]⟩, .int .i64 443, .string ⟨#[47]⟩, .string ⟨#[]⟩, .string ⟨#[80, 85, 84]⟩, .slice none 0 0, .bool false, .string ⟨#[]⟩] 39))) := ⟨(HB0.out.1.trans (hb1.mono HB0.out.1.size)).trans (hb2.mono (Nat.le_trans HB0.out.1.size hb1.size)), (HB0.out.2.below hb1).below hb2, heap_alloc_new w1 _⟩
  have r2 := HS2.out.req
  clear hb1 hb2
  have hw1 : w.heap.size < w1.heap.size := by omega
  go_wp2_with fail
  have hs2 : (w1.alloc (.cells #[.int .i64 0, .bool true, .string ⟨#[97, 46, 116, 101, 115, 116]⟩, .int .i64 443, .bool true, .string ⟨#[98, 46, 116, 101, 115, 116]⟩, .int .i64 443, .string ⟨#[47]⟩, .string ⟨#[]⟩, .string ⟨#[80, 85, 84]⟩, .slice none 0 0, .bool false, .string ⟨#[]⟩] 39)).heap.size = w1.heap.size + 1 := by simp
  generalize hW2 : w1.alloc (.cells #[.int .i64 0, .bool true, .string ⟨#[97, 46, 116, 101, 115, 116]⟩, .int .i64 443, .bool true, .string ⟨#[98, 46, 116, 101, 115, 116]⟩, .int .i64 443, .string ⟨#[47]⟩, .string ⟨#[]⟩, .string ⟨#[80, 85, 84]⟩, .slice none 0 0, .bool false, .string ⟨#[]⟩] 39) = w2 at HS2 r2 hs2 ⊢
  have hb3 : Below w2.heap.size w2 (w2.alloc (.cells #[.bool true, .string ⟨#[97, 46, 116, 101, 115, 116]⟩, .int .i64 443, .bool true, .string ⟨#[98, 46, 116, 101, 115, 116]⟩, .int .i64 443, .string ⟨#[47]⟩, .string ⟨#[]⟩, .bool false, .string ⟨#[80, 85, 84]⟩, .string ⟨#[]⟩, .int .i64 5] 35)) := (Below.refl _ _).alloc (Nat.le_refl _) _
  have hp3 := pss_one w2 bkP
  rw [hs2] at hp3
  have HS3 : Hid (BkS w w1.heap.size (.slice none 0 0) [] (w2.alloc (.cells #[.bool true, .string ⟨#[97, 46, 116, 101, 115, 116]⟩, .int .i64 443, .bool true, .string ⟨#[98, 46, 116, 101, 115, 116]⟩, .int .i64 443, .string ⟨#[47]⟩, .string ⟨#[]⟩, .bool false, .string ⟨#[80, 85, 84]⟩, .string ⟨#[]⟩, .int .i64 5] 35))) := HS2.out.step hb3
  have hput := put_any _ HS3.out.bok [bkP] (some ⟨w1.heap.size + 1, 0, none⟩) 1 1 (w1.heap.size + 1) 0 hp3 (by decide) (fun p hp => by rw [List.mem_singleton.1 hp]; exact bk_good) 0
  rw [bk_put] at hput
  clear hb3 hp3 r2 hW2
  refine hput.mono ?_
  rintro e w4 ⟨⟨u, rfl⟩, v4, H4⟩
  clear hput
  have HS4 : Hid (BkS w w1.heap.size v4 [bkP] w4) := ⟨HS3.out.bel.grown H4.out.2.1 HS3.out.bel.size (fun i hi => by injection hi with hi; omega), H4.out.1, (H4.out.2.1.block _ (Array.getElem?_eq_some_iff.1 HS3.out.req).1 (by simp; omega)).trans HS3.out.req⟩
  have x4_0 := (cell_of (i := 0) HS4.out.req).trans rfl
  have x4_1 := (cell_of (i := 1) HS4.out.req).trans rfl
  have x4_2 := (cell_of (i := 2) HS4.out.req).trans rfl
  have x4_3 := (cell_of (i := 3) HS4.out.req).trans rfl
  have x4_4 := (cell_of (i := 4) HS4.out.req).trans rfl
  have x4_5 := (cell_of (i := 5) HS4.out.req).trans rfl
  have x4_6 := (cell_of (i := 6) HS4.out.req).trans rfl
  have x4_7 := (cell_of (i := 7) HS4.out.req).trans rfl
  have x4_8 := (cell_of (i := 8) HS4.out.req).trans rfl
  have x4_9 := (cell_of (i := 9) HS4.out.req).trans rfl
  have x4_10 := (cell_of (i := 10) HS4.out.req).trans rfl
  have x4_11 := (cell_of (i := 11) HS4.out.req).trans rfl
  have x4_12 := (cell_of (i := 12) HS4.out.req).trans rfl
  go_wp2_with fail
  have hc4 := bookCovers_any w4 HS4.out.bok bkR [] 0 0 (bk_req HM.out HS4.out.bel) 4
  rw [bk_yes] at hc4
  refine hc4.mono ?_
  rintro e w5 ⟨rfl, hb5⟩
  have HS5 : Hid (BkS w w1.heap.size v4 [bkP] w5) := HS4.out.step hb5
  clear hb5 hc4 x4_0 x4_1 x4_2 x4_3 x4_4 x4_5 x4_6 x4_7 x4_8 x4_9 x4_10 x4_11 x4_12
  have x5_0 := (cell_of (i := 0) HS5.out.req).trans rfl
  have x5_1 := (cell_of (i := 1) HS5.out.req).trans rfl
  have x5_2 := (cell_of (i := 2) HS5.out.req).trans rfl
  have x5_3 := (cell_of (i := 3) HS5.out.req).trans rfl
  have x5_4 := (cell_of (i := 4) HS5.out.req).trans rfl
  have x5_5 := (cell_of (i := 5) HS5.out.req).trans rfl
  have x5_6 := (cell_of (i := 6) HS5.out.req).trans rfl
  have x5_7 := (cell_of (i := 7) HS5.out.req).trans rfl
  have x5_8 := (cell_of (i := 8) HS5.out.req).trans rfl
  have x5_9 := (cell_of (i := 9) HS5.out.req).trans rfl
  have x5_10 := (cell_of (i := 10) HS5.out.req).trans rfl
  have x5_11 := (cell_of (i := 11) HS5.out.req).trans rfl
  have x5_12 := (cell_of (i := 12) HS5.out.req).trans rfl
  go_wp2_with fail
  have hc5 := bookCovers_any w5 HS5.out.bok bkR [] 0 0 (bk_req HM.out HS5.out.bel) 5
  rw [bk_no] at hc5
  refine hc5.mono ?_
  rintro e w6 ⟨rfl, hb6⟩
  have HS6 : Hid (BkS w w1.heap.size v4 [bkP] w6) := HS5.out.step hb6
  clear hb6 hc5 x5_0 x5_1 x5_2 x5_3 x5_4 x5_5 x5_6 x5_7 x5_8 x5_9 x5_10 x5_11 x5_12
  go_wp2_with fail
  refine (list_any w6 HS6.out.bok).mono ?_
  rintro e w7 ⟨⟨u7, rfl, h7⟩, hb7⟩
  obtain ⟨a7, c7, g7, rfl, _⟩ := OwnQ.pss h7
  have HB7 : Hid (Below w.heap.size w w7) := HS6.out.bel.trans (hb7.mono HS6.out.bel.size)
  clear hb7 h7
  rw [show [bkP].length = 1 from rfl]
  go_wp2
  go_ret
  exact ⟨rfl, HB7.out⟩
end Go.Proofs.YtihhabidfcgogaaDoor

/- Passes few and short enough to be held, by the law's own function. -/
namespace Go.Proofs.YtihhabidfcgogaaDoor
open Go.RowKit
set_option linter.unusedVariables false

/-- A pass whose texts are long. -/
def longP (p : PsV) : Bool := decide (400 < p.me.size + p.he.size + p.pa.size + p.qu.size + p.uh.size + p.fh.size)
def passesL (ps : List PsV) : Bool := decide (ps.length ≤ 60) && !ps.any longP
theorem passesL_len {ps : List PsV} (h : passesL ps = true) : ps.length ≤ 60 := by
  unfold passesL at h
  simp only [Bool.and_eq_true, decide_eq_true_eq] at h
  exact h.1
set_option maxRecDepth 100000 in
set_option maxHeartbeats 2000000 in
theorem longIs (p : PsV) (hp : Wee p) (w : World) :
    Calls Tryd.prog 24 #[.agg #[.bool p.fs, .string p.fh, .int .i64 p.fp, .bool p.us, .string p.uh, .int .i64 p.up, .string p.pa, .string p.qu, .bool p.wi, .string p.me, .string p.he, .int .i64 p.un]] w fun e w' => e = .returned (.bool (longP p)) ∧ Below w.heap.size w w' := by
  have h1 := hp.h1
  have h2 := hp.h2
  have h3 := hp.h3
  have h4 := hp.h4
  have h5 := hp.h5
  have h6 := hp.h6
  have HB : Hid (Below w.heap.size w (w.alloc (.cells #[.bool p.fs, .string p.fh, .int .i64 p.fp, .bool p.us, .string p.uh, .int .i64 p.up, .string p.pa, .string p.qu, .bool p.wi, .string p.me, .string p.he, .int .i64 p.un] 35))) := (Below.refl _ _).alloc (Nat.le_refl _) _
  go_enter Tryd.func24, Tryd.ntmps24
  go_wp2
  go_ret
  refine ⟨ret_bool ?_, HB.out⟩
  unfold longP
  exact decide_eq_decide.2 (by omega)
theorem kindLP (ps : List PsV) (hz : ∀ p ∈ ps, Wee p) (w : World) : KindQ 24 #[] longP ps w :=
  ⟨fun p hp W _ => longIs p (hz p hp) W, enters_at Tryd.func24 (by kernel_rfl) rfl⟩
set_option maxRecDepth 100000 in
set_option maxHeartbeats 2000000 in
theorem passes_any (ps : List PsV) (hz : ∀ p ∈ ps, Wee p) (a0 : Option Addr) (len cap b off : Nat) (hlb : len ≤ 9223372036854775807) (w : World) (hx : Pss w a0 len b off ps) :
    Calls Tryd.prog 7 #[.slice a0 len cap] w fun e w' => e = .returned (.bool (passesL ps)) ∧ Below w.heap.size w w' := by
  have HL : Hid (ps.length = len) := hx.len_eq
  go_enter Tryd.func7, Tryd.ntmps7
  by_cases h : len ≤ 60
  · have hi : (len : Int) ≤ 60 := by omega
    have hc := containsQ_any 24 #[] longP ps w (kindLP ps hz w) a0 len cap b off (by omega) hx
    clear hz hx
    obtain ⟨r, HR⟩ : ∃ r, Hid (ps.any longP = r) := ⟨_, rfl⟩
    rw [HR.out] at hc
    go_wp2_with fail
    refine hc.mono ?_
    rintro e w1 ⟨rfl, hb⟩
    go_wp2
    go_ret
    refine ⟨ret_bool ?_, hb⟩
    unfold passesL
    rw [HR.out, HL.out, decide_eq_true h]
    simp
  · have hi : ¬ (len : Int) ≤ 60 := by omega
    clear hz hx
    go_wp2
    go_ret
    refine ⟨ret_bool ?_, Below.refl _ _⟩
    unfold passesL
    rw [HL.out, decide_eq_false h]
    rfl
end Go.Proofs.YtihhabidfcgogaaDoor

/- Headers that are too long to be held. -/
namespace Go.Proofs.YtihhabidfcgogaaDoor
open Go.RowKit

def overP (p : Par) : Bool := decide (300 < p.1.size + p.2.size)
/-- Headers that are too many, or too long; n: the bytes of all else. -/
def largeL (ps : List Par) (n : Nat) : Bool := decide (45 < ps.length) || (decide (900 < n) || ps.any overP)
theorem over_snoc {ps : List Par} {k : Nat} {p : Par} (h : (ps.take k).any overP = false) (hk : ps[k]? = some p) (hp : ¬ 300 < p.1.size + p.2.size) : (ps.take (k + 1)).any overP = false := by
  obtain ⟨hk1, e⟩ := List.getElem?_eq_some_iff.1 hk
  rw [List.take_succ_eq_append_getElem hk1, List.any_append, h, e]
  have : overP p = false := by unfold overP; exact decide_eq_false hp
  simp [this]
theorem large_small {ps : List Par} {n : Nat} (h : largeL ps n = false) : ps.length ≤ 45 ∧ n ≤ 900 ∧ ∀ p ∈ ps, p.1.size + p.2.size ≤ 300 := by
  unfold largeL at h
  simp only [Bool.or_eq_false_iff, decide_eq_false_iff_not] at h
  refine ⟨by omega, by omega, fun p hp => ?_⟩
  have h3 := List.any_eq_false.1 h.2.2 p hp
  unfold overP at h3
  simpa using h3
end Go.Proofs.YtihhabidfcgogaaDoor

/- Whether headers are few, by the law's own words: the library's functions over a row of parameters that lies somewhere. -/
namespace Go.Proofs.YtihhabidfcgogaaDoor
open Go.RowKit

/-- A function that says whether a parameter is of a kind, at these. -/
structure KindP (K : Nat) (f : Par → Bool) (ps : List Par) : Prop where
  says : ∀ p ∈ ps, ∀ w : World, Calls Tryd.prog K #[.agg #[.string p.1, .string p.2]] w fun e w' => e = .returned (.bool (f p)) ∧ Below w.heap.size w w'
  enters : ∀ (args : Array Value) (w : World), (callFunc K args).run Tryd.prog w = .ok (.enter K args) w
set_option maxRecDepth 100000 in
set_option maxHeartbeats 2000000 in
theorem indexP8_any (K : Nat) (f : Par → Bool) (ps : List Par) (hK : KindP K f ps) (a0 : Option Addr) (len cap b off : Nat) (hlen : len ≤ 1000000) (w : World) (hx : Pars w a0 len b off ps) :
    Calls Tryd.prog 60 #[.slice a0 len cap, .func (.func K) #[] #[]] w fun e w' => (∃ r : Int, e = .returned (.int .i64 r) ∧ Hid (decide (0 ≤ r) = ps.any f)) ∧ Below w.heap.size w w' := by
  have HX : Hid (Pars w a0 len b off ps) := hx
  have hl := hx.len_eq
  have HK0 : Hid (KindP K f ps) := hK
  have hen := hK.enters
  clear hK hx
  go_enter Tryd.func60, Tryd.ntmps60
  go_wp2
  go_loopw [8] (fun i wr => ∃ (k : Nat), k ≤ len ∧ i = .int .i64 k ∧ Hid ((ps.take k).any f = false) ∧ Hid (Below w.heap.size w wr)) (fun i _ => len - (intOf i).toNat)
  case atStart => exact ⟨0, Nat.zero_le _, rfl, rfl, Below.refl _ _⟩
  case round =>
    obtain ⟨k, hk, rfl, HK, HB⟩ := hrel
    by_cases hlt : k < len
    · have hltz : (k : Int) < (len : Int) := by omega
      obtain ⟨p, hp⟩ : ∃ p, ps[k]? = some p := ⟨ps[k]'(by omega), List.getElem?_eq_getElem (by omega)⟩
      obtain ⟨pn, pv⟩ := p
      have HPK : Hid (ps[k]? = some (pn, pv)) := hp
      have HM : Hid ((pn, pv) ∈ ps) := List.mem_of_getElem? hp
      obtain ⟨ha0, _⟩ := HX.out.lies (by omega)
      subst ha0
      have hXr := HX.out.below HB.out
      have c1 : wr.cell? ⟨b, off + k * 2, none⟩ = some (.string pn) := hXr.one k _ hp
      have c2 : wr.cell? ⟨b, off + k * 2 + 1, none⟩ = some (.string pv) := hXr.two k _ hp
      have hsay := HK0.out.says _ HM.out
      clear hp hXr
      cases hf : f (pn, pv)
      · have HS : Hid ((ps.take (k + 1)).any f = false) := by
          show _ = _
          obtain ⟨hk1, e⟩ := List.getElem?_eq_some_iff.1 HPK.out
          rw [List.take_succ_eq_append_getElem hk1, List.any_append, HK.out, e]
          simp [hf]
        go_wp2_with fail
        refine (hsay _).mono ?_
        rintro e w' ⟨rfl, hb'⟩
        rw [hf]
        have HB2 : Hid (Below w.heap.size w w') := HB.out.trans (hb'.mono HB.out.size)
        clear hb'
        go_wp2
        go_roundw
        case rel => exact ⟨k + 1, by omega, by go_num, HS, HB2⟩
        case measure => simp [intOf]; omega
      · have HS : Hid (ps.any f = true) := List.any_eq_true.2 ⟨_, HM.out, hf⟩
        go_wp2_with fail
        refine (hsay _).mono ?_
        rintro e w' ⟨rfl, hb'⟩
        rw [hf]
        have HB2 : Hid (Below w.heap.size w w') := HB.out.trans (hb'.mono HB.out.size)
        clear hb'
        go_wp2
        go_ret
        exact ⟨⟨_, rfl, by show _ = _; rw [HS.out]; exact decide_eq_true (Int.natCast_nonneg _)⟩, HB2.out⟩
    · have hltz : ¬ (k : Int) < (len : Int) := by omega
      have HS : Hid (ps.any f = false) := by
        have := HK.out
        rw [List.take_of_length_le (by omega)] at this
        exact this
      go_wp2
      go_ret
      exact ⟨⟨_, rfl, by show _ = _; rw [HS.out]; rfl⟩, HB.out⟩
theorem overF_any (p : Par) (h1 : p.1.size ≤ 140737488355328) (h2 : p.2.size ≤ 140737488355328) (w : World) :
    Calls Tryd.prog 49 #[.agg #[.string p.1, .string p.2]] w fun e w' => e = .returned (.bool (overP p)) ∧ Below w.heap.size w w' := by
  obtain ⟨x, y⟩ := p
  simp only at h1 h2 ⊢
  have HO : Hid (overP (x, y) = decide ((300 : Int) < (x.size : Int) + (y.size : Int))) := by
    show _ = _
    unfold overP
    simp only [← Int.ofNat_lt]
    rfl
  go_enter Tryd.func49, Tryd.ntmps49
  go_wp2
  go_ret
  exact ⟨ret_bool HO.out.symm, (Below.refl _ _).alloc (Nat.le_refl _) _⟩
/-- Few headers, and small ones. -/
def fewL (ps : List Par) : Bool := decide (ps.length ≤ 40) && !ps.any overP
set_option maxHeartbeats 1000000 in
theorem few_any (ps : List Par) (hz : ∀ p ∈ ps, p.1.size ≤ 140737488355328 ∧ p.2.size ≤ 140737488355328) (a0 : Option Addr) (len cap b off : Nat) (hlb : len ≤ 9223372036854775807) (w : World) (hx : Pars w a0 len b off ps) :
    Calls Tryd.prog 31 #[.slice a0 len cap] w fun e w' => e = .returned (.bool (fewL ps)) ∧ Below w.heap.size w w' := by
  have hl := hx.len_eq
  by_cases h : len ≤ 40
  · have h' : (len : Int) ≤ 40 := by omega
    have hK : KindP 49 overP ps := ⟨fun p hp w => overF_any p (hz p hp).1 (hz p hp).2 w, enters_at Tryd.func49 (by kernel_rfl) rfl⟩
    have hcon : ∀ w', Pars w' a0 len b off ps → Calls Tryd.prog 48 #[.slice a0 len cap, .func (.func 49) #[] #[]] w' fun e w'' => e = .returned (.bool (ps.any overP)) ∧ Below w'.heap.size w' w'' := fun w' hx' => by
      go_enter Tryd.func48, Tryd.ntmps48
      go_wp2_with (go_at_call 60; refine (indexP8_any _ overP ps hK a0 len cap b off (by omega) _ hx').mono ?_; rintro e w'' ⟨⟨r, rfl, HR⟩, hb⟩)
      go_ret
      exact ⟨ret_bool HR.out, hb⟩
    obtain ⟨q, HQ⟩ : ∃ q, Hid (ps.any overP = q) := ⟨_, rfl⟩
    rw [HQ.out] at hcon
    have HF : Hid (fewL ps = !q) := by
      show _ = _
      unfold fewL
      rw [decide_eq_true (by omega), HQ.out, Bool.true_and]
    clear hK hz
    go_enter Tryd.func31, Tryd.ntmps31
    go_wp2_with fail
    refine (hcon _ hx).mono ?_
    rintro e w1 ⟨rfl, hb1⟩
    go_wp2
    go_ret
    exact ⟨ret_bool HF.out.symm, hb1⟩
  · have h' : ¬ (len : Int) ≤ 40 := by omega
    have HF : Hid (fewL ps = false) := by
      show _ = _
      unfold fewL
      rw [decide_eq_false (by omega), Bool.false_and]
    go_enter Tryd.func31, Tryd.ntmps31
    go_wp2
    go_ret
    exact ⟨ret_bool HF.out.symm, Below.refl _ _⟩
theorem fewL_small {ps : List Par} (h : fewL ps = true) : ps.length ≤ 40 ∧ ∀ p ∈ ps, p.1.size + p.2.size ≤ 300 := by
  unfold fewL at h
  rw [Bool.and_eq_true] at h
  refine ⟨of_decide_eq_true h.1, fun p hp => ?_⟩
  have h2 : ps.any overP = false := by simpa using h.2
  have h3 := List.any_eq_false.1 h2 p hp
  unfold overP at h3
  simpa using h3
end Go.Proofs.YtihhabidfcgogaaDoor

/- Whether a request is few bytes, by the law's own words. -/
namespace Go.Proofs.YtihhabidfcgogaaDoor
open Go.RowKit

def rightB (hs : List Par) (n : Nat) : Bool := fewL hs && decide (n ≤ 600)
theorem rightB_small {hs : List Par} {n : Nat} (h : rightB hs n = true) : hs.length ≤ 40 ∧ (∀ p ∈ hs, p.1.size + p.2.size ≤ 300) ∧ n ≤ 600 := by
  unfold rightB at h
  rw [Bool.and_eq_true, decide_eq_true_eq] at h
  obtain ⟨h1, h2⟩ := fewL_small h.1
  exact ⟨h1, h2, h.2⟩
set_option maxRecDepth 100000 in
set_option maxHeartbeats 4000000 in
theorem rightful_any (hs : List Par) (hz : ∀ p ∈ hs, p.1.size ≤ 140737488355328 ∧ p.2.size ≤ 140737488355328) (ra : Option Addr) (rl rc rb ro : Nat) (hlb : rl ≤ 9223372036854775807)
    (pt fp up : Int) (fs us wi : Bool) (fh uh pa qu me bo : ByteArray) (h1 : fh.size ≤ 140737488355328) (h2 : uh.size ≤ 140737488355328) (h3 : pa.size ≤ 140737488355328) (h4 : qu.size ≤ 140737488355328) (h5 : me.size ≤ 140737488355328) (w : World) (hh : Pars w ra rl rb ro hs) :
    Calls Tryd.prog 10 #[.agg #[.int .i64 pt, .bool fs, .string fh, .int .i64 fp, .bool us, .string uh, .int .i64 up, .string pa, .string qu, .string me, .slice ra rl rc, .bool wi, .string bo]] w fun e w' => e = .returned (.bool (rightB hs (me.size + pa.size + qu.size + uh.size + fh.size))) ∧ Below w.heap.size w w' := by
  have HQ : Hid (BoxQ 39 w #[.int .i64 pt, .bool fs, .string fh, .int .i64 fp, .bool us, .string uh, .int .i64 up, .string pa, .string qu, .string me, .slice ra rl rc, .bool wi, .string bo] (w.alloc (.cells #[.int .i64 pt, .bool fs, .string fh, .int .i64 fp, .bool us, .string uh, .int .i64 up, .string pa, .string qu, .string me, .slice ra rl rc, .bool wi, .string bo] 39))) := BoxQ.new _ _ _
  have hfw := few_any hs hz ra rl rc rb ro hlb _ (hh.below HQ.out.bel)
  obtain ⟨q, HF⟩ : ∃ q, Hid (fewL hs = q) := ⟨_, rfl⟩
  rw [HF.out] at hfw
  have HD : Hid (decide (me.size + pa.size + qu.size + uh.size + fh.size ≤ 600) = decide ((me.size : Int) + (pa.size : Int) + (qu.size : Int) + (uh.size : Int) + (fh.size : Int) ≤ 600)) := by
    show _ = _
    rw [decide_eq_decide]
    omega
  have HR : Hid (rightB hs (me.size + pa.size + qu.size + uh.size + fh.size) = (q && decide ((me.size : Int) + (pa.size : Int) + (qu.size : Int) + (uh.size : Int) + (fh.size : Int) ≤ 600))) := by show _ = _; unfold rightB; rw [HF.out, HD.out]
  have c10 := HQ.out.at 10 _ rfl
  clear hz hh
  go_enter Tryd.func10, Tryd.ntmps10
  go_wp2_with fail
  refine hfw.mono ?_
  rintro e w1 ⟨rfl, hb1⟩
  have HQ1 : Hid (BoxQ 39 w #[.int .i64 pt, .bool fs, .string fh, .int .i64 fp, .bool us, .string uh, .int .i64 up, .string pa, .string qu, .string me, .slice ra rl rc, .bool wi, .string bo] w1) := HQ.out.step hb1
  clear hfw hb1 c10 HQ
  have c2 := HQ1.out.at 2 _ rfl
  have c5 := HQ1.out.at 5 _ rfl
  have c7 := HQ1.out.at 7 _ rfl
  have c8 := HQ1.out.at 8 _ rfl
  have c9 := HQ1.out.at 9 _ rfl
  cases q
  · go_wp2
    go_ret
    exact ⟨ret_bool (by rw [HR.out]; rfl), HQ1.out.bel⟩
  · go_wp2
    go_ret
    exact ⟨ret_bool (by rw [HR.out, Bool.true_and]), HQ1.out.bel⟩
end Go.Proofs.YtihhabidfcgogaaDoor

/- The law BookOver, walked. -/
namespace Go.Proofs.YtihhabidfcgogaaDoor
open Go.RowKit
set_option linter.unusedVariables false
set_option linter.unusedSimpArgs false

/-- The last time of passes. -/
def lastT (a : Int) (l : List PsV) : Int := l.foldl (fun a p => max a p.un) a
theorem lastT_ge : ∀ (l : List PsV) (a : Int), a ≤ lastT a l ∧ ∀ p ∈ l, p.un ≤ lastT a l
  | [], a => ⟨Int.le_refl a, fun p hp => by cases hp⟩
  | x :: l, a => by
    obtain ⟨h1, h2⟩ := lastT_ge l (max a x.un)
    have h3 : a ≤ max a x.un ∧ x.un ≤ max a x.un := by omega
    refine ⟨Int.le_trans h3.1 h1, fun p hp => ?_⟩
    rcases List.mem_cons.1 hp with rfl | hp
    · exact Int.le_trans h3.2 h1
    · exact h2 p hp
theorem lastT_snoc (a : Int) (l : List PsV) (x : PsV) : lastT a (l ++ [x]) = max (lastT a l) x.un := by
  unfold lastT
  rw [List.foldl_append]
  rfl
theorem forB_less {r : RqV} {m n : Int} {p : PsV} (h : m ≤ n) (hp : forB r n p = true) : forB r m p = true := by
  unfold forB at hp ⊢
  simp only [Bool.and_eq_true, decide_eq_true_eq] at hp ⊢
  exact ⟨⟨by omega, hp.1.2⟩, hp.2⟩
theorem any_sub {f : PsV → Bool} {l k : List PsV} (h : ∀ p ∈ l, p ∈ k) (ha : l.any f = true) : k.any f = true := by
  obtain ⟨p, hp, hf⟩ := List.any_eq_true.1 ha
  exact List.any_eq_true.2 ⟨p, h p hp, hf⟩
theorem covB_sub {r : RqV} {hs : List Par} {l k : List PsV} (h : ∀ p ∈ l, p ∈ k) (hc : covB r hs l = true) : covB r hs k = true := by
  unfold covB coversL at hc ⊢
  rw [Bool.and_eq_true, Bool.or_eq_true] at hc ⊢
  refine ⟨hc.1.elim .inl (fun h1 => .inr (any_sub h h1)), List.all_eq_true.2 fun x hx => any_sub h (List.all_eq_true.1 hc.2 x hx)⟩
theorem bookB_less {r : RqV} {hs : List Par} {m n : Int} {xs : List PsV} (h : m ≤ n) (hb : bookB r hs n xs = true) : bookB r hs m xs = true := by
  unfold bookB at hb ⊢
  rw [Bool.or_eq_true] at hb ⊢
  exact hb.elim .inl (fun h1 => .inr (covB_sub (fun p hp => List.mem_filter.2 ⟨(List.mem_filter.1 hp).1, forB_less h (List.mem_filter.1 hp).2⟩) h1))
theorem filter_over {r : RqV} {n : Int} {xs : List PsV} (h : ∀ p ∈ xs, p.un ≤ n) : xs.filter (forB r n) = [] := by
  rw [List.filter_eq_nil_iff]
  intro p hp he
  have h1 := h p hp
  unfold forB at he
  simp only [Bool.and_eq_true, decide_eq_true_eq] at he
  omega
theorem bookB_over {r : RqV} {hs : List Par} {n : Int} {xs : List PsV} (h : ∀ p ∈ xs, p.un ≤ n) : bookB r hs n xs = !needB r hs := by
  unfold bookB
  rw [filter_over h]
  cases hn : needB r hs
  · rfl
  · unfold needB at hn
    simp only [Bool.and_eq_true, Bool.not_eq_true'] at hn
    rw [hn.2]
    rfl
/-- What the law asks with. -/
structure Ovs (w : World) (r : RqV) (hs : List Par) (rb ro bk : Nat) (v : Value) (ps : List PsV) (W : World) : Prop where
  bel : Below w.heap.size w W
  box : BoxR W w.heap.size r
  bok : BookW W bk bk v ps
  req : ReqOk r hs rb ro W
theorem Ovs.step {w W W' : World} {r : RqV} {hs : List Par} {rb ro bk : Nat} {v : Value} {ps : List PsV} (h : Ovs w r hs rb ro bk v ps W) (hb : Below W.heap.size W W') : Ovs w r hs rb ro bk v ps W' :=
  ⟨h.bel.trans (hb.mono h.bel.size), h.box.below hb, h.bok.below hb, ReqOk.below (w := w) h.req hb⟩
set_option maxRecDepth 100000 in
set_option maxHeartbeats 16000000 in
theorem bookOver_walk (a1 : Option Addr) (l1 c1 b1 o1 : Nat) (xs : List PsV) (hl1 : l1 ≤ 9223372036854775807) (hx : ∀ p ∈ xs, GoodP p) (r : RqV) (hs : List Par) (rb ro : Nat) (hz : ∀ p ∈ hs, p.1.size ≤ 140737488355328 ∧ p.2.size ≤ 140737488355328) (hlb : r.rl ≤ 9223372036854775807)
    (hr : r.fh.size ≤ 140737488355328 ∧ r.uh.size ≤ 140737488355328 ∧ r.pa.size ≤ 140737488355328 ∧ r.qu.size ≤ 140737488355328 ∧ r.me.size ≤ 140737488355328) (t u : Int) (w : World) (hm : Methods w) (h1 : Pss w a1 l1 b1 o1 xs) (hh : Pars w r.ra r.rl rb ro hs) :
    Calls Tryd.prog 4 #[.slice a1 l1 c1, .agg #[.int .i64 r.pt, .bool r.fs, .string r.fh, .int .i64 r.fp, .bool r.us, .string r.uh, .int .i64 r.up, .string r.pa, .string r.qu, .string r.me, .slice r.ra r.rl r.rc, .bool r.wi, .string r.bo], .int .i64 t, .int .i64 u] w fun e w' => e = .returned (.bool true) ∧ Below w.heap.size w w' := by
  have HX : Hid (Pss w a1 l1 b1 o1 xs ∧ xs.length = l1 ∧ ∀ p ∈ xs, GoodP p) := ⟨h1, h1.len_eq, hx⟩
  have HA : Hid (Pars w r.ra r.rl rb ro hs ∧ (∀ p ∈ hs, p.1.size ≤ 140737488355328 ∧ p.2.size ≤ 140737488355328) ∧ r.rl ≤ 9223372036854775807 ∧ (r.fh.size ≤ 140737488355328 ∧ r.uh.size ≤ 140737488355328 ∧ r.pa.size ≤ 140737488355328 ∧ r.qu.size ≤ 140737488355328 ∧ r.me.size ≤ 140737488355328) ∧ hs.length = r.rl) := ⟨hh, hz, hlb, hr, hh.len_eq⟩
  have HM : Hid (Methods w) := hm
  have H0 : Hid (Below w.heap.size w (w.alloc (.cells #[.int .i64 r.pt, .bool r.fs, .string r.fh, .int .i64 r.fp, .bool r.us, .string r.uh, .int .i64 r.up, .string r.pa, .string r.qu, .string r.me, .slice r.ra r.rl r.rc, .bool r.wi, .string r.bo] 39)) ∧ BoxR (w.alloc (.cells #[.int .i64 r.pt, .bool r.fs, .string r.fh, .int .i64 r.fp, .bool r.us, .string r.uh, .int .i64 r.up, .string r.pa, .string r.qu, .string r.me, .slice r.ra r.rl r.rc, .bool r.wi, .string r.bo] 39)) w.heap.size r) := ⟨(Below.refl _ _).alloc (Nat.le_refl _) _, heap_alloc_new w _⟩
  obtain ⟨mn, hmn⟩ : ∃ mn, min t u = mn := ⟨_, rfl⟩
  obtain ⟨mx, hmx⟩ : ∃ mx, max t u = mx := ⟨_, rfl⟩
  have hle : mn ≤ mx := by rw [← hmn, ← hmx]; omega
  have HLE : Hid (mn ≤ mx) := hle
  clear h1 hx hm hh hz hlb hr hle
  go_enter Tryd.func4, Tryd.ntmps4
  go_wp2_with fail
  generalize w.alloc (.cells #[.int .i64 r.pt, .bool r.fs, .string r.fh, .int .i64 r.fp, .bool r.us, .string r.uh, .int .i64 r.up, .string r.pa, .string r.qu, .string r.me, .slice r.ra r.rl r.rc, .bool r.wi, .string r.bo] 39) = w0 at H0 ⊢
  refine (booked_any _ (HM.out.below H0.out.1 (Nat.le_refl _))).mono ?_
  rintro e w1 ⟨rfl, hb1⟩
  have H1 : Hid (Below w.heap.size w w1 ∧ BoxR w1 w.heap.size r) := ⟨H0.out.1.trans (hb1.mono H0.out.1.size), H0.out.2.below hb1⟩
  clear hb1 H0
  go_wp2_with fail
  refine (passes_any xs (fun p hp => (HX.out.2.2 p hp).2) a1 l1 c1 b1 o1 hl1 _ (HX.out.1.below H1.out.1)).mono ?_
  rintro e w2 ⟨rfl, hb2⟩
  have H2 : Hid (Below w.heap.size w w2 ∧ BoxR w2 w.heap.size r) := ⟨H1.out.1.trans (hb2.mono H1.out.1.size), H1.out.2.below hb2⟩
  clear hb2 H1
  obtain ⟨q1, HQ1⟩ : ∃ q, Hid (passesL xs = q) := ⟨_, rfl⟩
  rw [HQ1.out]
  cases q1
  · go_wp2
    go_ret
    exact ⟨rfl, H2.out.1⟩
  have hx60 : l1 ≤ 60 := by have h1 := passesL_len HQ1.out; have h2 := HX.out.2.1; omega
  have r2_0 := H2.out.2.at 0 rfl
  have r2_1 := H2.out.2.at 1 rfl
  have r2_2 := H2.out.2.at 2 rfl
  have r2_3 := H2.out.2.at 3 rfl
  have r2_4 := H2.out.2.at 4 rfl
  have r2_5 := H2.out.2.at 5 rfl
  have r2_6 := H2.out.2.at 6 rfl
  have r2_7 := H2.out.2.at 7 rfl
  have r2_8 := H2.out.2.at 8 rfl
  have r2_9 := H2.out.2.at 9 rfl
  have r2_10 := H2.out.2.at 10 rfl
  have r2_11 := H2.out.2.at 11 rfl
  have r2_12 := H2.out.2.at 12 rfl
  go_wp2_with fail
  refine (rightful_any hs HA.out.2.1 r.ra r.rl r.rc rb ro HA.out.2.2.1 r.pt r.fp r.up r.fs r.us r.wi r.fh r.uh r.pa r.qu r.me r.bo HA.out.2.2.2.1.1 HA.out.2.2.2.1.2.1 HA.out.2.2.2.1.2.2.1 HA.out.2.2.2.1.2.2.2.1 HA.out.2.2.2.1.2.2.2.2 _ (HA.out.1.below H2.out.1)).mono ?_
  rintro e w3 ⟨rfl, hb3⟩
  have H3 : Hid (Below w.heap.size w w3 ∧ BoxR w3 w.heap.size r) := ⟨H2.out.1.trans (hb3.mono H2.out.1.size), H2.out.2.below hb3⟩
  clear r2_0 r2_1 r2_2 r2_3 r2_4 r2_5 r2_6 r2_7 r2_8 r2_9 r2_10 r2_11 r2_12
  clear hb3 H2
  obtain ⟨q2, HQ2⟩ : ∃ q, Hid (rightB hs (r.me.size + r.pa.size + r.qu.size + r.uh.size + r.fh.size) = q) := ⟨_, rfl⟩
  rw [HQ2.out]
  cases q2
  · go_wp2
    go_ret
    exact ⟨rfl, H3.out.1⟩
  have hsm := rightB_small HQ2.out
  have hrl : r.rl ≤ 40 := by have := HA.out.2.2.2.2; omega
  have HRQ : Hid (∀ W, Below w.heap.size w W → ReqOk r hs rb ro W) := fun W hW => ⟨fun p hp => by have := hsm.2.1 p hp; omega, by omega, by have := hsm.2.2; omega, HA.out.1.below hW, HM.out.below hW (Nat.le_refl _)⟩
  clear HQ1 HQ2
  have hb4 : Below w3.heap.size w3 (w3.alloc (.cells #[.slice none 0 0] 27)) := (Below.refl _ _).alloc (Nat.le_refl _) _
  have HK4 : Hid (BookW (w3.alloc (.cells #[.slice none 0 0] 27)) w3.heap.size w3.heap.size (.slice none 0 0) [] ∧ Below w.heap.size w (w3.alloc (.cells #[.slice none 0 0] 27)) ∧ BoxR (w3.alloc (.cells #[.slice none 0 0] 27)) w.heap.size r) := ⟨book_new w3, H3.out.1.trans (hb4.mono H3.out.1.size), H3.out.2.below hb4⟩
  have hws := H3.out.1.size
  clear hb4 H3
  go_wp2_with fail
  generalize w3.alloc (.cells #[.slice none 0 0] 27) = w4 at HK4 ⊢
  obtain ⟨bk, hbk⟩ : ∃ bk, w3.heap.size = bk := ⟨_, rfl⟩
  rw [hbk] at HK4 hws ⊢
  clear hbk
  refine (put_any _ HK4.out.1 xs a1 l1 c1 b1 o1 (HX.out.1.below HK4.out.2.1) hx60 HX.out.2.2 mn).mono ?_
  rintro e w5 ⟨⟨r5, rfl⟩, v5, H5⟩
  obtain ⟨ps, HPS⟩ : ∃ ps, Hid (putL mn [] xs = ps) := ⟨_, rfl⟩
  rw [HPS.out] at H5
  have HSUB : Hid (∀ p ∈ ps, p ∈ xs) := by
    rw [← HPS.out]
    exact fun p hp => (putL_mem hp).1.elim (fun h => by cases h) id
  have hb5 : Below w.heap.size w w5 := HK4.out.2.1.grown H5.out.2.1 HK4.out.2.1.size (fun i hi => by injection hi with hi; omega)
  have HS5 : Hid (Ovs w r hs rb ro bk v5 ps w5) := ⟨hb5, (H5.out.2.1.block _ (Array.getElem?_eq_some_iff.1 HK4.out.2.2).1 (fun e => by injection e with e; have h1 := HK4.out.2.2; rw [e] at h1; have h2 := HK4.out.1.blk; unfold BoxR at h1; rw [h2] at h1; injection h1 with h1; injection h1 with _ h1; revert h1; decide)).trans HK4.out.2.2, H5.out.1, HRQ.out _ hb5⟩
  have hn32 : ps.length ≤ 32 := H5.out.1.few
  clear H5 HK4 hb5 HPS
  go_upto_region 7 with fail
  have HS6 : Hid (Ovs w r hs rb ro bk v5 ps w5.drew) := HS5.out.step (Below.refl _ _).drew
  have hcl : ∀ W, Ovs w r hs rb ro bk v5 ps W → W.cell? ⟨w.heap.size, 0, none⟩ = some (.int .i64 r.pt) ∧ W.cell? ⟨w.heap.size, 1, none⟩ = some (.bool r.fs) ∧ W.cell? ⟨w.heap.size, 2, none⟩ = some (.string r.fh) ∧ W.cell? ⟨w.heap.size, 3, none⟩ = some (.int .i64 r.fp) ∧ W.cell? ⟨w.heap.size, 4, none⟩ = some (.bool r.us) ∧ W.cell? ⟨w.heap.size, 5, none⟩ = some (.string r.uh) ∧ W.cell? ⟨w.heap.size, 6, none⟩ = some (.int .i64 r.up) ∧ W.cell? ⟨w.heap.size, 7, none⟩ = some (.string r.pa) ∧ W.cell? ⟨w.heap.size, 8, none⟩ = some (.string r.qu) ∧ W.cell? ⟨w.heap.size, 9, none⟩ = some (.string r.me) ∧ W.cell? ⟨w.heap.size, 10, none⟩ = some (.slice r.ra r.rl r.rc) ∧ W.cell? ⟨w.heap.size, 11, none⟩ = some (.bool r.wi) ∧ W.cell? ⟨w.heap.size, 12, none⟩ = some (.string r.bo) := fun W h => ⟨h.box.at 0 rfl, h.box.at 1 rfl, h.box.at 2 rfl, h.box.at 3 rfl, h.box.at 4 rfl, h.box.at 5 rfl, h.box.at 6 rfl, h.box.at 7 rfl, h.box.at 8 rfl, h.box.at 9 rfl, h.box.at 10 rfl, h.box.at 11 rfl, h.box.at 12 rfl⟩
  refine wp_region_held_drew (S := fun W => Ovs w r hs rb ro bk v5 ps W) (by kernel_rfl) HS6.out (fun hHeld => ?_)
  refine takeH (i := 0) (d := some 35) (v := ?_) rfl rfl (by kernel_rfl) (by kernel_rfl) (by kernel_rfl) (fun _ _ _ h => h) (by rfl) ?_ (by assumption) ?_
  rotate_left
  · intro w hSw; obtain ⟨q0, q1, q2, q3, q4, q5, q6, q7, q8, q9, q10, q11, q12⟩ := hcl _ hSw; go_simp; with_reducible rfl
  try simp only [Act.put, List.setIfInBounds_toArray, List.set_cons_zero, List.set_cons_succ]
  refine takeH (i := 1) (d := some 36) (v := ?_) rfl rfl (by kernel_rfl) (by kernel_rfl) (by kernel_rfl) (fun _ _ _ h => h) (by rfl) ?_ (by assumption) ?_
  rotate_left
  · intro w hSw; obtain ⟨q0, q1, q2, q3, q4, q5, q6, q7, q8, q9, q10, q11, q12⟩ := hcl _ hSw; go_simp; with_reducible rfl
  try simp only [Act.put, List.setIfInBounds_toArray, List.set_cons_zero, List.set_cons_succ]
  refine takeH (i := 2) (d := some 37) (v := ?_) rfl rfl (by kernel_rfl) (by kernel_rfl) (by kernel_rfl) (fun _ _ _ h => h) (by rfl) ?_ (by assumption) ?_
  rotate_left
  · intro w hSw; obtain ⟨q0, q1, q2, q3, q4, q5, q6, q7, q8, q9, q10, q11, q12⟩ := hcl _ hSw; go_simp; with_reducible rfl
  try simp only [Act.put, List.setIfInBounds_toArray, List.set_cons_zero, List.set_cons_succ]
  refine takeH (i := 3) (d := some 38) (v := ?_) rfl rfl (by kernel_rfl) (by kernel_rfl) (by kernel_rfl) (fun _ _ _ h => h) (by rfl) ?_ (by assumption) ?_
  rotate_left
  · intro w hSw; obtain ⟨q0, q1, q2, q3, q4, q5, q6, q7, q8, q9, q10, q11, q12⟩ := hcl _ hSw; go_simp; with_reducible rfl
  try simp only [Act.put, List.setIfInBounds_toArray, List.set_cons_zero, List.set_cons_succ]
  refine takeH (i := 6) (d := some 41) (v := ?_) rfl rfl (by kernel_rfl) (by kernel_rfl) (by kernel_rfl) (fun _ _ _ h => h) (by rfl) ?_ (by assumption) ?_
  rotate_left
  · intro w hSw; obtain ⟨q0, q1, q2, q3, q4, q5, q6, q7, q8, q9, q10, q11, q12⟩ := hcl _ hSw; go_simp; with_reducible rfl
  try simp only [Act.put, List.setIfInBounds_toArray, List.set_cons_zero, List.set_cons_succ]
  refine takeH (i := 7) (d := some 42) (v := ?_) rfl rfl (by kernel_rfl) (by kernel_rfl) (by kernel_rfl) (fun _ _ _ h => h) (by rfl) ?_ (by assumption) ?_
  rotate_left
  · intro w hSw; obtain ⟨q0, q1, q2, q3, q4, q5, q6, q7, q8, q9, q10, q11, q12⟩ := hcl _ hSw; go_simp; with_reducible rfl
  try simp only [Act.put, List.setIfInBounds_toArray, List.set_cons_zero, List.set_cons_succ]
  refine takeH (i := 8) (d := some 43) (v := ?_) rfl rfl (by kernel_rfl) (by kernel_rfl) (by kernel_rfl) (fun _ _ _ h => h) (by rfl) ?_ (by assumption) ?_
  rotate_left
  · intro w hSw; obtain ⟨q0, q1, q2, q3, q4, q5, q6, q7, q8, q9, q10, q11, q12⟩ := hcl _ hSw; go_simp; with_reducible rfl
  try simp only [Act.put, List.setIfInBounds_toArray, List.set_cons_zero, List.set_cons_succ]
  refine takeH (i := 9) (d := some 44) (v := ?_) rfl rfl (by kernel_rfl) (by kernel_rfl) (by kernel_rfl) (fun _ _ _ h => h) (by rfl) ?_ (by assumption) ?_
  rotate_left
  · intro w hSw; obtain ⟨q0, q1, q2, q3, q4, q5, q6, q7, q8, q9, q10, q11, q12⟩ := hcl _ hSw; go_simp; with_reducible rfl
  try simp only [Act.put, List.setIfInBounds_toArray, List.set_cons_zero, List.set_cons_succ]
  refine takeH (i := 4) (d := some 39) (v := .int .i64 mn) rfl rfl (by kernel_rfl) (by kernel_rfl) (by kernel_rfl) (fun _ _ _ h => h) (by rfl) ?_ (by assumption) ?_
  · intro w hSw; go_simp; try (rw [hmn])
  try simp only [Act.put, List.setIfInBounds_toArray, List.set_cons_zero, List.set_cons_succ]
  refine takeH (i := 10) (d := some 45) (v := .int .i64 mx) rfl rfl (by kernel_rfl) (by kernel_rfl) (by kernel_rfl) (fun _ _ _ h => h) (by rfl) ?_ (by assumption) ?_
  · intro w hSw; go_simp; try (rw [hmx])
  try simp only [Act.put, List.setIfInBounds_toArray, List.set_cons_zero, List.set_cons_succ]
  refine wpAnyH_ready (rs := [5]) (by kernel_rfl) (by simp) ?_
  refine AllReadyH.cons (by rfl) (fun K hKK => ?_) AllReadyH.nil
  go_simp
  refine (for_any _ HS6.out.bok r mn).mono ?_
  rintro e w7 ⟨⟨pe, ne, ce, rfl, H7⟩, hb7⟩
  have HS7 : Hid (Ovs w r hs rb ro bk v5 ps w7) := HS6.out.step hb7
  clear hb7 HS6 HS5
  go_wp2_with fail
  refine hKK.out _ _ HS7.out (fun hHeld => ?_)
  clear hKK K
  try simp only [Act.put, List.setIfInBounds_toArray, List.set_cons_zero, List.set_cons_succ]
  refine wpAnyH_ready (rs := [11]) (by kernel_rfl) (by simp) ?_
  refine AllReadyH.cons (by rfl) (fun K hKK => ?_) AllReadyH.nil
  go_simp
  refine (for_any _ HS7.out.bok r mx).mono ?_
  rintro e w8 ⟨⟨pl, nl, dl, rfl, H8⟩, hb8⟩
  obtain ⟨a7, d7, g7, e7, hp7⟩ := OwnQ.pss H7.out.1
  obtain ⟨a8, d8, g8, e8, hp8⟩ := OwnQ.pss H8.out.1
  rw [H7.out.2] at e7 hp7
  rw [H8.out.2] at e8 hp8
  injection e7 with e1 e2 e3
  injection e8 with f1 f2 f3
  subst e1 f1
  have HS8 : Hid (Ovs w r hs rb ro bk v5 ps w8) := HS7.out.step hb8
  have HE : Hid (Pss w8 pe ne g7 0 (ps.filter (forB r mn)) ∧ Pss w8 pl nl g8 0 (ps.filter (forB r mx))) := ⟨hp7.below hb8, hp8⟩
  have hne : ne ≤ 32 := by have h1 := H7.out.2; have h2 := List.length_filter_le (forB r mn) ps; omega
  have hnl : nl ≤ 32 := by have h1 := H8.out.2; have h2 := List.length_filter_le (forB r mx) ps; omega
  clear hb8 hp7 hp8 H7 H8 HS7 e2 e3 f2 f3
  go_wp2_with fail
  refine hKK.out _ _ HS8.out (fun hHeld => ?_)
  clear hKK K
  try simp only [Act.put, List.setIfInBounds_toArray, List.set_cons_zero, List.set_cons_succ]
  refine takeH (i := 12) (d := some 10) (v := ?_) rfl rfl (by kernel_rfl) (by kernel_rfl) (by kernel_rfl) (fun _ _ _ h => h) (by rfl) ?_ (by assumption) ?_
  rotate_left
  · intro w hSw; obtain ⟨q0, q1, q2, q3, q4, q5, q6, q7, q8, q9, q10, q11, q12⟩ := hcl _ hSw; go_simp; with_reducible rfl
  try simp only [Act.put, List.setIfInBounds_toArray, List.set_cons_zero, List.set_cons_succ]
  refine takeH (i := 13) (d := some 11) (v := ?_) rfl rfl (by kernel_rfl) (by kernel_rfl) (by kernel_rfl) (fun _ _ _ h => h) (by rfl) ?_ (by assumption) ?_
  rotate_left
  · intro w hSw; obtain ⟨q0, q1, q2, q3, q4, q5, q6, q7, q8, q9, q10, q11, q12⟩ := hcl _ hSw; go_simp; with_reducible rfl
  try simp only [Act.put, List.setIfInBounds_toArray, List.set_cons_zero, List.set_cons_succ]
  refine wpAnyH_done (by kernel_rfl) ?_ _
  clear hHeld
  go_wp2
  go_loopw [12, 52] (fun la i wr => ∃ (k : Nat) (L : Int), k ≤ l1 ∧ i = .int .i64 k ∧ la = .int .i64 L ∧ Hid (lastT mn (xs.take k) = L) ∧ Hid (Below w8.heap.size w8 wr)) (fun _ i _ => l1 - (intOf i).toNat)
  case atStart => exact ⟨0, mn, Nat.zero_le _, rfl, rfl, rfl, Below.refl _ _⟩
  case round =>
    obtain ⟨k, L, hk, rfl, rfl, HL, HW⟩ := hrel
    by_cases hlt : k < l1
    · have hkL : (k : Int) < (l1 : Int) := by omega
      obtain ⟨x, hxk⟩ : ∃ x, xs[k]? = some x := ⟨xs[k]'(by have := HX.out.2.1; omega), List.getElem?_eq_getElem _⟩
      have hps := HX.out.1.below (HS8.out.bel.trans (HW.out.mono HS8.out.bel.size))
      obtain ⟨rfl, _⟩ := hps.lies (by omega)
      obtain ⟨c0, c1', c2, c3, c4, c5, c6, c7, c8, c9, c10, c11⟩ := hps.all hxk
      obtain ⟨L2, hL2⟩ : ∃ L2, max L x.un = L2 := ⟨_, rfl⟩
      have HL2 : Hid (lastT mn (xs.take (k + 1)) = L2) := by
        obtain ⟨hk1, e⟩ := List.getElem?_eq_some_iff.1 hxk
        show _ = _
        rw [List.take_succ_eq_append_getElem hk1, e, lastT_snoc, HL.out, hL2]
      have HB : Hid (Below w8.heap.size w8 (wr.alloc (.cells #[.bool x.fs, .string x.fh, .int .i64 x.fp, .bool x.us, .string x.uh, .int .i64 x.up, .string x.pa, .string x.qu, .bool x.wi, .string x.me, .string x.he, .int .i64 x.un] 35))) := HW.out.trans (((Below.refl wr.heap.size wr).alloc (Nat.le_refl _) _).mono HW.out.size)
      clear hps hxk
      go_wp2
      go_roundw
      case rel => exact ⟨k + 1, L2, by omega, by go_num, rfl, HL2, HB⟩
      case measure => simp [intOf]; omega
    · have hkL : ¬ (k : Int) < (l1 : Int) := by omega
      have HLL : Hid (lastT mn xs = L) := by
        have := HL.out
        rw [List.take_of_length_le (by have := HX.out.2.1; omega)] at this
        exact this
      have HS9 : Hid (Ovs w r hs rb ro bk v5 ps wr) := HS8.out.step HW.out
      have HE9 : Hid (Pss wr pe ne g7 0 (ps.filter (forB r mn)) ∧ Pss wr pl nl g8 0 (ps.filter (forB r mx))) := ⟨HE.out.1.below HW.out, HE.out.2.below HW.out⟩
      clear HL HW HS8 HE hlt hk
      obtain ⟨w9, hw9⟩ : ∃ w9, w9 = wr := ⟨_, rfl⟩
      subst hw9
      go_wp2
      go_loopw [63] (fun i wx => ∃ k : Nat, k ≤ nl ∧ i = .int .i64 k ∧ Hid (Below w9.heap.size w9 wx)) (fun i _ => nl - (intOf i).toNat)
      case atStart => exact ⟨0, Nat.zero_le _, rfl, Below.refl _ _⟩
      case round =>
        obtain ⟨k, hk, rfl, HW⟩ := hrel
        by_cases hlt : k < nl
        · have hkL2 : (k : Int) < (nl : Int) := by omega
          have hps := HE9.out.2.below HW.out
          obtain ⟨x, hxk⟩ : ∃ x, (ps.filter (forB r mx))[k]? = some x := ⟨(ps.filter (forB r mx))[k]'(by have := hps.len_eq; omega), List.getElem?_eq_getElem _⟩
          obtain ⟨rfl, _⟩ := hps.lies (by omega)
          obtain ⟨c0, c1', c2, c3, c4, c5, c6, c7, c8, c9, c10, c11⟩ := hps.all hxk
          simp only [Nat.zero_add] at c0 c1' c2 c3 c4 c5 c6 c7 c8 c9 c10 c11
          have hin : (ps.filter (forB r mn)).any (isP x) = true := by
            have h1 := List.mem_filter.1 (List.mem_of_getElem? hxk)
            exact List.any_eq_true.2 ⟨x, List.mem_filter.2 ⟨h1.1, forB_less HLE.out h1.2⟩, isP_self x⟩
          have hb : Below wr.heap.size wr (wr.alloc (.cells #[.bool x.fs, .string x.fh, .int .i64 x.fp, .bool x.us, .string x.uh, .int .i64 x.up, .string x.pa, .string x.qu, .bool x.wi, .string x.me, .string x.he, .int .i64 x.un] 35)) := (Below.refl wr.heap.size wr).alloc (Nat.le_refl _) _
          have hcon := containsP_is x (ps.filter (forB r mn)) pe ne ce g7 0 (by omega) (wr.alloc (.cells #[.bool x.fs, .string x.fh, .int .i64 x.fp, .bool x.us, .string x.uh, .int .i64 x.up, .string x.pa, .string x.qu, .bool x.wi, .string x.me, .string x.he, .int .i64 x.un] 35)) ((HE9.out.1.below HW.out).below hb)
          rw [hin] at hcon
          have HB : Hid (Below w9.heap.size w9 (wr.alloc (.cells #[.bool x.fs, .string x.fh, .int .i64 x.fp, .bool x.us, .string x.uh, .int .i64 x.up, .string x.pa, .string x.qu, .bool x.wi, .string x.me, .string x.he, .int .i64 x.un] 35))) := HW.out.trans (hb.mono HW.out.size)
          clear hps hxk hb hin
          go_wp2_with fail
          refine hcon.mono ?_
          rintro e w10 ⟨rfl, hb10⟩
          have HB10 : Hid (Below w9.heap.size w9 w10) := HB.out.trans (hb10.mono HB.out.size)
          clear hcon hb10 c0 c1' c2 c3 c4 c5 c6 c7 c8 c9 c10 c11
          go_wp2
          go_roundw
          case rel => exact ⟨k + 1, by omega, by go_num, HB10⟩
          case measure => simp [intOf]; omega
        · have hkL2 : ¬ (k : Int) < (nl : Int) := by omega
          have HS11 : Hid (Ovs w r hs rb ro bk v5 ps wr.drew) := (HS9.out.step HW.out).step (Below.refl _ _).drew
          clear HS9 HE9 hlt hk HW
          go_upto_region 20 with fail
          obtain ⟨nd, HND⟩ : ∃ nd, Hid (needB r hs = nd) := ⟨_, rfl⟩
          have HOV : Hid (∀ p ∈ ps, p.un ≤ L) := fun p hp => by rw [← HLL.out]; exact (lastT_ge xs mn).2 p (HSUB.out p hp)
          refine wp_region_held_drew (S := fun W => Ovs w r hs rb ro bk v5 ps W) (by kernel_rfl) HS11.out (fun hHeld => ?_)
          refine takeH (i := 0) (d := some 72) (v := ?_) rfl rfl (by kernel_rfl) (by kernel_rfl) (by kernel_rfl) (fun _ _ _ h => h) (by rfl) ?_ (by assumption) ?_
          rotate_left
          · intro w hSw; obtain ⟨q0, q1, q2, q3, q4, q5, q6, q7, q8, q9, q10, q11, q12⟩ := hcl _ hSw; go_simp; with_reducible rfl
          try simp only [Act.put, List.setIfInBounds_toArray, List.set_cons_zero, List.set_cons_succ]
          refine takeH (i := 1) (d := some 73) (v := ?_) rfl rfl (by kernel_rfl) (by kernel_rfl) (by kernel_rfl) (fun _ _ _ h => h) (by rfl) ?_ (by assumption) ?_
          rotate_left
          · intro w hSw; obtain ⟨q0, q1, q2, q3, q4, q5, q6, q7, q8, q9, q10, q11, q12⟩ := hcl _ hSw; go_simp; with_reducible rfl
          try simp only [Act.put, List.setIfInBounds_toArray, List.set_cons_zero, List.set_cons_succ]
          refine takeH (i := 2) (d := some 74) (v := ?_) rfl rfl (by kernel_rfl) (by kernel_rfl) (by kernel_rfl) (fun _ _ _ h => h) (by rfl) ?_ (by assumption) ?_
          rotate_left
          · intro w hSw; obtain ⟨q0, q1, q2, q3, q4, q5, q6, q7, q8, q9, q10, q11, q12⟩ := hcl _ hSw; go_simp; with_reducible rfl
          try simp only [Act.put, List.setIfInBounds_toArray, List.set_cons_zero, List.set_cons_succ]
          refine wpAnyH_ready (rs := [3]) (by kernel_rfl) (by simp) ?_
          refine AllReadyH.cons (by rfl) (fun K hKK => ?_) AllReadyH.nil
          go_simp
          have hfor := for_any wr.drew HS11.out.bok r L
          rw [filter_over HOV.out] at hfor
          refine hfor.mono ?_
          rintro e w12 ⟨⟨p12, n12, c12, rfl, H12⟩, hb12⟩
          have hn0 : 0 = n12 := H12.out.2
          subst hn0
          have HS12 : Hid (Ovs w r hs rb ro bk v5 ps w12) := HS11.out.step hb12
          clear hfor H12 hb12 HS11
          go_wp2_with fail
          refine hKK.out _ _ HS12.out (fun hHeld => ?_)
          clear hKK K
          try simp only [Act.put, List.setIfInBounds_toArray, List.set_cons_zero, List.set_cons_succ]
          refine takeH (i := 4) (d := some 76) (v := ?_) rfl rfl (by kernel_rfl) (by kernel_rfl) (by kernel_rfl) (fun _ _ _ h => h) (by rfl) ?_ (by assumption) ?_
          rotate_left
          · intro w hSw; obtain ⟨q0, q1, q2, q3, q4, q5, q6, q7, q8, q9, q10, q11, q12⟩ := hcl _ hSw; go_simp; with_reducible rfl
          try simp only [Act.put, List.setIfInBounds_toArray, List.set_cons_zero, List.set_cons_succ]
          refine takeH (i := 5) (d := some 77) (v := ?_) rfl rfl (by kernel_rfl) (by kernel_rfl) (by kernel_rfl) (fun _ _ _ h => h) (by rfl) ?_ (by assumption) ?_
          rotate_left
          · intro w hSw; obtain ⟨q0, q1, q2, q3, q4, q5, q6, q7, q8, q9, q10, q11, q12⟩ := hcl _ hSw; go_simp; with_reducible rfl
          try simp only [Act.put, List.setIfInBounds_toArray, List.set_cons_zero, List.set_cons_succ]
          refine takeH (i := 6) (d := some 78) (v := ?_) rfl rfl (by kernel_rfl) (by kernel_rfl) (by kernel_rfl) (fun _ _ _ h => h) (by rfl) ?_ (by assumption) ?_
          rotate_left
          · intro w hSw; obtain ⟨q0, q1, q2, q3, q4, q5, q6, q7, q8, q9, q10, q11, q12⟩ := hcl _ hSw; go_simp; with_reducible rfl
          try simp only [Act.put, List.setIfInBounds_toArray, List.set_cons_zero, List.set_cons_succ]
          refine takeH (i := 7) (d := some 79) (v := ?_) rfl rfl (by kernel_rfl) (by kernel_rfl) (by kernel_rfl) (fun _ _ _ h => h) (by rfl) ?_ (by assumption) ?_
          rotate_left
          · intro w hSw; obtain ⟨q0, q1, q2, q3, q4, q5, q6, q7, q8, q9, q10, q11, q12⟩ := hcl _ hSw; go_simp; with_reducible rfl
          try simp only [Act.put, List.setIfInBounds_toArray, List.set_cons_zero, List.set_cons_succ]
          refine takeH (i := 8) (d := some 80) (v := ?_) rfl rfl (by kernel_rfl) (by kernel_rfl) (by kernel_rfl) (fun _ _ _ h => h) (by rfl) ?_ (by assumption) ?_
          rotate_left
          · intro w hSw; obtain ⟨q0, q1, q2, q3, q4, q5, q6, q7, q8, q9, q10, q11, q12⟩ := hcl _ hSw; go_simp; with_reducible rfl
          try simp only [Act.put, List.setIfInBounds_toArray, List.set_cons_zero, List.set_cons_succ]
          refine takeH (i := 9) (d := some 81) (v := ?_) rfl rfl (by kernel_rfl) (by kernel_rfl) (by kernel_rfl) (fun _ _ _ h => h) (by rfl) ?_ (by assumption) ?_
          rotate_left
          · intro w hSw; obtain ⟨q0, q1, q2, q3, q4, q5, q6, q7, q8, q9, q10, q11, q12⟩ := hcl _ hSw; go_simp; with_reducible rfl
          try simp only [Act.put, List.setIfInBounds_toArray, List.set_cons_zero, List.set_cons_succ]
          refine takeH (i := 10) (d := some 82) (v := ?_) rfl rfl (by kernel_rfl) (by kernel_rfl) (by kernel_rfl) (fun _ _ _ h => h) (by rfl) ?_ (by assumption) ?_
          rotate_left
          · intro w hSw; obtain ⟨q0, q1, q2, q3, q4, q5, q6, q7, q8, q9, q10, q11, q12⟩ := hcl _ hSw; go_simp; with_reducible rfl
          try simp only [Act.put, List.setIfInBounds_toArray, List.set_cons_zero, List.set_cons_succ]
          refine takeH (i := 11) (d := some 83) (v := .int .i64 mx) rfl rfl (by kernel_rfl) (by kernel_rfl) (by kernel_rfl) (fun _ _ _ h => h) (by rfl) ?_ (by assumption) ?_
          · intro w hSw; go_simp; try (rw [hmx])
          try simp only [Act.put, List.setIfInBounds_toArray, List.set_cons_zero, List.set_cons_succ]
          refine wpAnyH_ready (rs := [12]) (by kernel_rfl) (by simp) ?_
          refine AllReadyH.cons (by rfl) (fun K hKK => ?_) AllReadyH.nil
          go_simp
          have hcv := bookCovers_any w12 HS12.out.bok r hs rb ro HS12.out.req mx
          obtain ⟨q, HQ⟩ : ∃ q, Hid (bookB r hs mx ps = q) := ⟨_, rfl⟩
          rw [HQ.out] at hcv
          refine hcv.mono ?_
          rintro e w13 ⟨rfl, hb13⟩
          have HS13 : Hid (Ovs w r hs rb ro bk v5 ps w13) := HS12.out.step hb13
          clear hcv hb13 HS12
          go_wp2_with fail
          refine hKK.out _ _ HS13.out (fun hHeld => ?_)
          clear hKK K
          try simp only [Act.put, List.setIfInBounds_toArray, List.set_cons_zero, List.set_cons_succ]
          cases q
          · skip
            refine takeH (i := 13) (d := some 85) (v := ?_) rfl rfl (by kernel_rfl) (by kernel_rfl) (by kernel_rfl) (fun _ _ _ h => h) (by rfl) ?_ (by assumption) ?_
            rotate_left
            · intro w hSw; obtain ⟨q0, q1, q2, q3, q4, q5, q6, q7, q8, q9, q10, q11, q12⟩ := hcl _ hSw; go_simp; with_reducible rfl
            try simp only [Act.put, List.setIfInBounds_toArray, List.set_cons_zero, List.set_cons_succ]
            refine takeH (i := 14) (d := some 86) (v := ?_) rfl rfl (by kernel_rfl) (by kernel_rfl) (by kernel_rfl) (fun _ _ _ h => h) (by rfl) ?_ (by assumption) ?_
            rotate_left
            · intro w hSw; obtain ⟨q0, q1, q2, q3, q4, q5, q6, q7, q8, q9, q10, q11, q12⟩ := hcl _ hSw; go_simp; with_reducible rfl
            try simp only [Act.put, List.setIfInBounds_toArray, List.set_cons_zero, List.set_cons_succ]
            refine skipH (i := 15) (d := some 87) rfl rfl (by kernel_rfl) (by kernel_rfl) (by kernel_rfl) (fun _ _ _ h => h) (by rfl) (by assumption) ?_
            try simp only [Act.put, List.setIfInBounds_toArray, List.set_cons_zero, List.set_cons_succ]
            refine skipH (i := 16) (d := some 88) rfl rfl (by kernel_rfl) (by kernel_rfl) (by kernel_rfl) (fun _ _ _ h => h) (by rfl) (by assumption) ?_
            try simp only [Act.put, List.setIfInBounds_toArray, List.set_cons_zero, List.set_cons_succ]
            refine skipH (i := 17) (d := some 89) rfl rfl (by kernel_rfl) (by kernel_rfl) (by kernel_rfl) (fun _ _ _ h => h) (by rfl) (by assumption) ?_
            try simp only [Act.put, List.setIfInBounds_toArray, List.set_cons_zero, List.set_cons_succ]
            refine skipH (i := 18) (d := some 90) rfl rfl (by kernel_rfl) (by kernel_rfl) (by kernel_rfl) (fun _ _ _ h => h) (by rfl) (by assumption) ?_
            try simp only [Act.put, List.setIfInBounds_toArray, List.set_cons_zero, List.set_cons_succ]
            refine skipH (i := 19) (d := some 91) rfl rfl (by kernel_rfl) (by kernel_rfl) (by kernel_rfl) (fun _ _ _ h => h) (by rfl) (by assumption) ?_
            try simp only [Act.put, List.setIfInBounds_toArray, List.set_cons_zero, List.set_cons_succ]
            refine skipH (i := 20) (d := some 92) rfl rfl (by kernel_rfl) (by kernel_rfl) (by kernel_rfl) (fun _ _ _ h => h) (by rfl) (by assumption) ?_
            try simp only [Act.put, List.setIfInBounds_toArray, List.set_cons_zero, List.set_cons_succ]
            refine takeH (i := 21) (d := some 93) (v := ?_) rfl rfl (by kernel_rfl) (by kernel_rfl) (by kernel_rfl) (fun _ _ _ h => h) (by rfl) ?_ (by assumption) ?_
            rotate_left
            · intro w hSw; obtain ⟨q0, q1, q2, q3, q4, q5, q6, q7, q8, q9, q10, q11, q12⟩ := hcl _ hSw; go_simp; with_reducible rfl
            try simp only [Act.put, List.setIfInBounds_toArray, List.set_cons_zero, List.set_cons_succ]
            refine takeH (i := 22) (d := some 94) (v := ?_) rfl rfl (by kernel_rfl) (by kernel_rfl) (by kernel_rfl) (fun _ _ _ h => h) (by rfl) ?_ (by assumption) ?_
            rotate_left
            · intro w hSw; obtain ⟨q0, q1, q2, q3, q4, q5, q6, q7, q8, q9, q10, q11, q12⟩ := hcl _ hSw; go_simp; with_reducible rfl
            try simp only [Act.put, List.setIfInBounds_toArray, List.set_cons_zero, List.set_cons_succ]
            refine takeH (i := 23) (d := some 95) (v := ?_) rfl rfl (by kernel_rfl) (by kernel_rfl) (by kernel_rfl) (fun _ _ _ h => h) (by rfl) ?_ (by assumption) ?_
            rotate_left
            · intro w hSw; obtain ⟨q0, q1, q2, q3, q4, q5, q6, q7, q8, q9, q10, q11, q12⟩ := hcl _ hSw; go_simp; with_reducible rfl
            try simp only [Act.put, List.setIfInBounds_toArray, List.set_cons_zero, List.set_cons_succ]
            refine takeH (i := 24) (d := some 96) (v := ?_) rfl rfl (by kernel_rfl) (by kernel_rfl) (by kernel_rfl) (fun _ _ _ h => h) (by rfl) ?_ (by assumption) ?_
            rotate_left
            · intro w hSw; obtain ⟨q0, q1, q2, q3, q4, q5, q6, q7, q8, q9, q10, q11, q12⟩ := hcl _ hSw; go_simp; with_reducible rfl
            try simp only [Act.put, List.setIfInBounds_toArray, List.set_cons_zero, List.set_cons_succ]
            refine takeH (i := 25) (d := some 97) (v := ?_) rfl rfl (by kernel_rfl) (by kernel_rfl) (by kernel_rfl) (fun _ _ _ h => h) (by rfl) ?_ (by assumption) ?_
            rotate_left
            · intro w hSw; obtain ⟨q0, q1, q2, q3, q4, q5, q6, q7, q8, q9, q10, q11, q12⟩ := hcl _ hSw; go_simp; with_reducible rfl
            try simp only [Act.put, List.setIfInBounds_toArray, List.set_cons_zero, List.set_cons_succ]
            refine takeH (i := 26) (d := some 98) (v := ?_) rfl rfl (by kernel_rfl) (by kernel_rfl) (by kernel_rfl) (fun _ _ _ h => h) (by rfl) ?_ (by assumption) ?_
            rotate_left
            · intro w hSw; obtain ⟨q0, q1, q2, q3, q4, q5, q6, q7, q8, q9, q10, q11, q12⟩ := hcl _ hSw; go_simp; with_reducible rfl
            try simp only [Act.put, List.setIfInBounds_toArray, List.set_cons_zero, List.set_cons_succ]
            refine takeH (i := 28) (d := some 100) (v := ?_) rfl rfl (by kernel_rfl) (by kernel_rfl) (by kernel_rfl) (fun _ _ _ h => h) (by rfl) ?_ (by assumption) ?_
            rotate_left
            · intro w hSw; obtain ⟨q0, q1, q2, q3, q4, q5, q6, q7, q8, q9, q10, q11, q12⟩ := hcl _ hSw; go_simp; with_reducible rfl
            try simp only [Act.put, List.setIfInBounds_toArray, List.set_cons_zero, List.set_cons_succ]
            refine wpAnyH_ready (rs := [27]) (by kernel_rfl) (by simp) ?_
            refine AllReadyH.cons (by rfl) (fun K hKK => ?_) AllReadyH.nil
            go_simp
            have hc2 := bookCovers_any w13 HS13.out.bok r hs rb ro HS13.out.req L
            rw [bookB_over HOV.out, HND.out] at hc2
            refine hc2.mono ?_
            rintro e w15 ⟨rfl, hb15⟩
            have HS15 : Hid (Ovs w r hs rb ro bk v5 ps w15) := HS13.out.step hb15
            clear hc2 hb15 HS13
            go_wp2_with fail
            refine hKK.out _ _ HS15.out (fun hHeld => ?_)
            clear hKK K
            try simp only [Act.put, List.setIfInBounds_toArray, List.set_cons_zero, List.set_cons_succ]
            refine wpAnyH_ready (rs := [29]) (by kernel_rfl) (by simp) ?_
            refine AllReadyH.cons (by rfl) (fun K hKK => ?_) AllReadyH.nil
            go_simp
            have hn2 := needs_any r hs rb ro w15 HS15.out.req
            rw [HND.out] at hn2
            refine hn2.mono ?_
            rintro e w16 ⟨rfl, hb16⟩
            have HS16 : Hid (Ovs w r hs rb ro bk v5 ps w16) := HS15.out.step hb16
            clear hn2 hb16 HS15
            go_wp2_with fail
            refine hKK.out _ _ HS16.out (fun hHeld => ?_)
            clear hKK K
            try simp only [Act.put, List.setIfInBounds_toArray, List.set_cons_zero, List.set_cons_succ]
            cases nd
            · skip
              refine takeH (i := 30) (d := some 102) (v := ?_) rfl rfl (by kernel_rfl) (by kernel_rfl) (by kernel_rfl) (fun _ _ _ h => h) (by rfl) ?_ (by assumption) ?_
              rotate_left
              · intro w hSw; obtain ⟨q0, q1, q2, q3, q4, q5, q6, q7, q8, q9, q10, q11, q12⟩ := hcl _ hSw; go_simp; with_reducible rfl
              try simp only [Act.put, List.setIfInBounds_toArray, List.set_cons_zero, List.set_cons_succ]
              refine takeH (i := 31) (d := some 103) (v := ?_) rfl rfl (by kernel_rfl) (by kernel_rfl) (by kernel_rfl) (fun _ _ _ h => h) (by rfl) ?_ (by assumption) ?_
              rotate_left
              · intro w hSw; obtain ⟨q0, q1, q2, q3, q4, q5, q6, q7, q8, q9, q10, q11, q12⟩ := hcl _ hSw; go_simp; with_reducible rfl
              try simp only [Act.put, List.setIfInBounds_toArray, List.set_cons_zero, List.set_cons_succ]
              refine takeH (i := 32) (d := some 104) (v := ?_) rfl rfl (by kernel_rfl) (by kernel_rfl) (by kernel_rfl) (fun _ _ _ h => h) (by rfl) ?_ (by assumption) ?_
              rotate_left
              · intro w hSw; obtain ⟨q0, q1, q2, q3, q4, q5, q6, q7, q8, q9, q10, q11, q12⟩ := hcl _ hSw; go_simp; with_reducible rfl
              try simp only [Act.put, List.setIfInBounds_toArray, List.set_cons_zero, List.set_cons_succ]
              refine takeH (i := 33) (d := some 8) (v := ?_) rfl rfl (by kernel_rfl) (by kernel_rfl) (by kernel_rfl) (fun _ _ _ h => h) (by rfl) ?_ (by assumption) ?_
              rotate_left
              · intro w hSw; obtain ⟨q0, q1, q2, q3, q4, q5, q6, q7, q8, q9, q10, q11, q12⟩ := hcl _ hSw; go_simp; with_reducible rfl
              try simp only [Act.put, List.setIfInBounds_toArray, List.set_cons_zero, List.set_cons_succ]
              refine wpAnyH_done (by kernel_rfl) ?_ _
              go_wp2
              go_ret
              exact ⟨rfl, HS16.out.bel⟩
            · skip
              refine takeH (i := 30) (d := some 102) (v := ?_) rfl rfl (by kernel_rfl) (by kernel_rfl) (by kernel_rfl) (fun _ _ _ h => h) (by rfl) ?_ (by assumption) ?_
              rotate_left
              · intro w hSw; obtain ⟨q0, q1, q2, q3, q4, q5, q6, q7, q8, q9, q10, q11, q12⟩ := hcl _ hSw; go_simp; with_reducible rfl
              try simp only [Act.put, List.setIfInBounds_toArray, List.set_cons_zero, List.set_cons_succ]
              refine takeH (i := 31) (d := some 103) (v := ?_) rfl rfl (by kernel_rfl) (by kernel_rfl) (by kernel_rfl) (fun _ _ _ h => h) (by rfl) ?_ (by assumption) ?_
              rotate_left
              · intro w hSw; obtain ⟨q0, q1, q2, q3, q4, q5, q6, q7, q8, q9, q10, q11, q12⟩ := hcl _ hSw; go_simp; with_reducible rfl
              try simp only [Act.put, List.setIfInBounds_toArray, List.set_cons_zero, List.set_cons_succ]
              refine takeH (i := 32) (d := some 104) (v := ?_) rfl rfl (by kernel_rfl) (by kernel_rfl) (by kernel_rfl) (fun _ _ _ h => h) (by rfl) ?_ (by assumption) ?_
              rotate_left
              · intro w hSw; obtain ⟨q0, q1, q2, q3, q4, q5, q6, q7, q8, q9, q10, q11, q12⟩ := hcl _ hSw; go_simp; with_reducible rfl
              try simp only [Act.put, List.setIfInBounds_toArray, List.set_cons_zero, List.set_cons_succ]
              refine takeH (i := 33) (d := some 8) (v := ?_) rfl rfl (by kernel_rfl) (by kernel_rfl) (by kernel_rfl) (fun _ _ _ h => h) (by rfl) ?_ (by assumption) ?_
              rotate_left
              · intro w hSw; obtain ⟨q0, q1, q2, q3, q4, q5, q6, q7, q8, q9, q10, q11, q12⟩ := hcl _ hSw; go_simp; with_reducible rfl
              try simp only [Act.put, List.setIfInBounds_toArray, List.set_cons_zero, List.set_cons_succ]
              refine wpAnyH_done (by kernel_rfl) ?_ _
              go_wp2
              go_ret
              exact ⟨rfl, HS16.out.bel⟩
          · skip
            refine takeH (i := 13) (d := some 85) (v := ?_) rfl rfl (by kernel_rfl) (by kernel_rfl) (by kernel_rfl) (fun _ _ _ h => h) (by rfl) ?_ (by assumption) ?_
            rotate_left
            · intro w hSw; obtain ⟨q0, q1, q2, q3, q4, q5, q6, q7, q8, q9, q10, q11, q12⟩ := hcl _ hSw; go_simp; with_reducible rfl
            try simp only [Act.put, List.setIfInBounds_toArray, List.set_cons_zero, List.set_cons_succ]
            refine takeH (i := 14) (d := some 86) (v := ?_) rfl rfl (by kernel_rfl) (by kernel_rfl) (by kernel_rfl) (fun _ _ _ h => h) (by rfl) ?_ (by assumption) ?_
            rotate_left
            · intro w hSw; obtain ⟨q0, q1, q2, q3, q4, q5, q6, q7, q8, q9, q10, q11, q12⟩ := hcl _ hSw; go_simp; with_reducible rfl
            try simp only [Act.put, List.setIfInBounds_toArray, List.set_cons_zero, List.set_cons_succ]
            refine takeH (i := 15) (d := some 87) (v := ?_) rfl rfl (by kernel_rfl) (by kernel_rfl) (by kernel_rfl) (fun _ _ _ h => h) (by rfl) ?_ (by assumption) ?_
            rotate_left
            · intro w hSw; obtain ⟨q0, q1, q2, q3, q4, q5, q6, q7, q8, q9, q10, q11, q12⟩ := hcl _ hSw; go_simp; with_reducible rfl
            try simp only [Act.put, List.setIfInBounds_toArray, List.set_cons_zero, List.set_cons_succ]
            refine takeH (i := 16) (d := some 88) (v := ?_) rfl rfl (by kernel_rfl) (by kernel_rfl) (by kernel_rfl) (fun _ _ _ h => h) (by rfl) ?_ (by assumption) ?_
            rotate_left
            · intro w hSw; obtain ⟨q0, q1, q2, q3, q4, q5, q6, q7, q8, q9, q10, q11, q12⟩ := hcl _ hSw; go_simp; with_reducible rfl
            try simp only [Act.put, List.setIfInBounds_toArray, List.set_cons_zero, List.set_cons_succ]
            refine takeH (i := 17) (d := some 89) (v := ?_) rfl rfl (by kernel_rfl) (by kernel_rfl) (by kernel_rfl) (fun _ _ _ h => h) (by rfl) ?_ (by assumption) ?_
            rotate_left
            · intro w hSw; obtain ⟨q0, q1, q2, q3, q4, q5, q6, q7, q8, q9, q10, q11, q12⟩ := hcl _ hSw; go_simp; with_reducible rfl
            try simp only [Act.put, List.setIfInBounds_toArray, List.set_cons_zero, List.set_cons_succ]
            refine takeH (i := 18) (d := some 90) (v := ?_) rfl rfl (by kernel_rfl) (by kernel_rfl) (by kernel_rfl) (fun _ _ _ h => h) (by rfl) ?_ (by assumption) ?_
            rotate_left
            · intro w hSw; obtain ⟨q0, q1, q2, q3, q4, q5, q6, q7, q8, q9, q10, q11, q12⟩ := hcl _ hSw; go_simp; with_reducible rfl
            try simp only [Act.put, List.setIfInBounds_toArray, List.set_cons_zero, List.set_cons_succ]
            refine takeH (i := 19) (d := some 91) (v := .int .i64 mn) rfl rfl (by kernel_rfl) (by kernel_rfl) (by kernel_rfl) (fun _ _ _ h => h) (by rfl) ?_ (by assumption) ?_
            · intro w hSw; go_simp; try (rw [hmn])
            try simp only [Act.put, List.setIfInBounds_toArray, List.set_cons_zero, List.set_cons_succ]
            refine wpAnyH_ready (rs := [20]) (by kernel_rfl) (by simp) ?_
            refine AllReadyH.cons (by rfl) (fun K hKK => ?_) AllReadyH.nil
            go_simp
            have hc3 := bookCovers_any w13 HS13.out.bok r hs rb ro HS13.out.req mn
            rw [bookB_less HLE.out HQ.out] at hc3
            refine hc3.mono ?_
            rintro e w14 ⟨rfl, hb14⟩
            have HS14 : Hid (Ovs w r hs rb ro bk v5 ps w14) := HS13.out.step hb14
            clear hc3 hb14 HS13
            go_wp2_with fail
            refine hKK.out _ _ HS14.out (fun hHeld => ?_)
            clear hKK K
            try simp only [Act.put, List.setIfInBounds_toArray, List.set_cons_zero, List.set_cons_succ]
            refine takeH (i := 21) (d := some 93) (v := ?_) rfl rfl (by kernel_rfl) (by kernel_rfl) (by kernel_rfl) (fun _ _ _ h => h) (by rfl) ?_ (by assumption) ?_
            rotate_left
            · intro w hSw; obtain ⟨q0, q1, q2, q3, q4, q5, q6, q7, q8, q9, q10, q11, q12⟩ := hcl _ hSw; go_simp; with_reducible rfl
            try simp only [Act.put, List.setIfInBounds_toArray, List.set_cons_zero, List.set_cons_succ]
            refine takeH (i := 22) (d := some 94) (v := ?_) rfl rfl (by kernel_rfl) (by kernel_rfl) (by kernel_rfl) (fun _ _ _ h => h) (by rfl) ?_ (by assumption) ?_
            rotate_left
            · intro w hSw; obtain ⟨q0, q1, q2, q3, q4, q5, q6, q7, q8, q9, q10, q11, q12⟩ := hcl _ hSw; go_simp; with_reducible rfl
            try simp only [Act.put, List.setIfInBounds_toArray, List.set_cons_zero, List.set_cons_succ]
            refine takeH (i := 23) (d := some 95) (v := ?_) rfl rfl (by kernel_rfl) (by kernel_rfl) (by kernel_rfl) (fun _ _ _ h => h) (by rfl) ?_ (by assumption) ?_
            rotate_left
            · intro w hSw; obtain ⟨q0, q1, q2, q3, q4, q5, q6, q7, q8, q9, q10, q11, q12⟩ := hcl _ hSw; go_simp; with_reducible rfl
            try simp only [Act.put, List.setIfInBounds_toArray, List.set_cons_zero, List.set_cons_succ]
            refine takeH (i := 24) (d := some 96) (v := ?_) rfl rfl (by kernel_rfl) (by kernel_rfl) (by kernel_rfl) (fun _ _ _ h => h) (by rfl) ?_ (by assumption) ?_
            rotate_left
            · intro w hSw; obtain ⟨q0, q1, q2, q3, q4, q5, q6, q7, q8, q9, q10, q11, q12⟩ := hcl _ hSw; go_simp; with_reducible rfl
            try simp only [Act.put, List.setIfInBounds_toArray, List.set_cons_zero, List.set_cons_succ]
            refine takeH (i := 25) (d := some 97) (v := ?_) rfl rfl (by kernel_rfl) (by kernel_rfl) (by kernel_rfl) (fun _ _ _ h => h) (by rfl) ?_ (by assumption) ?_
            rotate_left
            · intro w hSw; obtain ⟨q0, q1, q2, q3, q4, q5, q6, q7, q8, q9, q10, q11, q12⟩ := hcl _ hSw; go_simp; with_reducible rfl
            try simp only [Act.put, List.setIfInBounds_toArray, List.set_cons_zero, List.set_cons_succ]
            refine takeH (i := 26) (d := some 98) (v := ?_) rfl rfl (by kernel_rfl) (by kernel_rfl) (by kernel_rfl) (fun _ _ _ h => h) (by rfl) ?_ (by assumption) ?_
            rotate_left
            · intro w hSw; obtain ⟨q0, q1, q2, q3, q4, q5, q6, q7, q8, q9, q10, q11, q12⟩ := hcl _ hSw; go_simp; with_reducible rfl
            try simp only [Act.put, List.setIfInBounds_toArray, List.set_cons_zero, List.set_cons_succ]
            refine takeH (i := 28) (d := some 100) (v := ?_) rfl rfl (by kernel_rfl) (by kernel_rfl) (by kernel_rfl) (fun _ _ _ h => h) (by rfl) ?_ (by assumption) ?_
            rotate_left
            · intro w hSw; obtain ⟨q0, q1, q2, q3, q4, q5, q6, q7, q8, q9, q10, q11, q12⟩ := hcl _ hSw; go_simp; with_reducible rfl
            try simp only [Act.put, List.setIfInBounds_toArray, List.set_cons_zero, List.set_cons_succ]
            refine wpAnyH_ready (rs := [27]) (by kernel_rfl) (by simp) ?_
            refine AllReadyH.cons (by rfl) (fun K hKK => ?_) AllReadyH.nil
            go_simp
            have hc2 := bookCovers_any w14 HS14.out.bok r hs rb ro HS14.out.req L
            rw [bookB_over HOV.out, HND.out] at hc2
            refine hc2.mono ?_
            rintro e w15 ⟨rfl, hb15⟩
            have HS15 : Hid (Ovs w r hs rb ro bk v5 ps w15) := HS14.out.step hb15
            clear hc2 hb15 HS14
            go_wp2_with fail
            refine hKK.out _ _ HS15.out (fun hHeld => ?_)
            clear hKK K
            try simp only [Act.put, List.setIfInBounds_toArray, List.set_cons_zero, List.set_cons_succ]
            refine wpAnyH_ready (rs := [29]) (by kernel_rfl) (by simp) ?_
            refine AllReadyH.cons (by rfl) (fun K hKK => ?_) AllReadyH.nil
            go_simp
            have hn2 := needs_any r hs rb ro w15 HS15.out.req
            rw [HND.out] at hn2
            refine hn2.mono ?_
            rintro e w16 ⟨rfl, hb16⟩
            have HS16 : Hid (Ovs w r hs rb ro bk v5 ps w16) := HS15.out.step hb16
            clear hn2 hb16 HS15
            go_wp2_with fail
            refine hKK.out _ _ HS16.out (fun hHeld => ?_)
            clear hKK K
            try simp only [Act.put, List.setIfInBounds_toArray, List.set_cons_zero, List.set_cons_succ]
            cases nd
            · skip
              refine takeH (i := 30) (d := some 102) (v := ?_) rfl rfl (by kernel_rfl) (by kernel_rfl) (by kernel_rfl) (fun _ _ _ h => h) (by rfl) ?_ (by assumption) ?_
              rotate_left
              · intro w hSw; obtain ⟨q0, q1, q2, q3, q4, q5, q6, q7, q8, q9, q10, q11, q12⟩ := hcl _ hSw; go_simp; with_reducible rfl
              try simp only [Act.put, List.setIfInBounds_toArray, List.set_cons_zero, List.set_cons_succ]
              refine takeH (i := 31) (d := some 103) (v := ?_) rfl rfl (by kernel_rfl) (by kernel_rfl) (by kernel_rfl) (fun _ _ _ h => h) (by rfl) ?_ (by assumption) ?_
              rotate_left
              · intro w hSw; obtain ⟨q0, q1, q2, q3, q4, q5, q6, q7, q8, q9, q10, q11, q12⟩ := hcl _ hSw; go_simp; with_reducible rfl
              try simp only [Act.put, List.setIfInBounds_toArray, List.set_cons_zero, List.set_cons_succ]
              refine takeH (i := 32) (d := some 104) (v := ?_) rfl rfl (by kernel_rfl) (by kernel_rfl) (by kernel_rfl) (fun _ _ _ h => h) (by rfl) ?_ (by assumption) ?_
              rotate_left
              · intro w hSw; obtain ⟨q0, q1, q2, q3, q4, q5, q6, q7, q8, q9, q10, q11, q12⟩ := hcl _ hSw; go_simp; with_reducible rfl
              try simp only [Act.put, List.setIfInBounds_toArray, List.set_cons_zero, List.set_cons_succ]
              refine takeH (i := 33) (d := some 8) (v := ?_) rfl rfl (by kernel_rfl) (by kernel_rfl) (by kernel_rfl) (fun _ _ _ h => h) (by rfl) ?_ (by assumption) ?_
              rotate_left
              · intro w hSw; obtain ⟨q0, q1, q2, q3, q4, q5, q6, q7, q8, q9, q10, q11, q12⟩ := hcl _ hSw; go_simp; with_reducible rfl
              try simp only [Act.put, List.setIfInBounds_toArray, List.set_cons_zero, List.set_cons_succ]
              refine wpAnyH_done (by kernel_rfl) ?_ _
              go_wp2
              go_ret
              exact ⟨rfl, HS16.out.bel⟩
            · skip
              refine takeH (i := 30) (d := some 102) (v := ?_) rfl rfl (by kernel_rfl) (by kernel_rfl) (by kernel_rfl) (fun _ _ _ h => h) (by rfl) ?_ (by assumption) ?_
              rotate_left
              · intro w hSw; obtain ⟨q0, q1, q2, q3, q4, q5, q6, q7, q8, q9, q10, q11, q12⟩ := hcl _ hSw; go_simp; with_reducible rfl
              try simp only [Act.put, List.setIfInBounds_toArray, List.set_cons_zero, List.set_cons_succ]
              refine takeH (i := 31) (d := some 103) (v := ?_) rfl rfl (by kernel_rfl) (by kernel_rfl) (by kernel_rfl) (fun _ _ _ h => h) (by rfl) ?_ (by assumption) ?_
              rotate_left
              · intro w hSw; obtain ⟨q0, q1, q2, q3, q4, q5, q6, q7, q8, q9, q10, q11, q12⟩ := hcl _ hSw; go_simp; with_reducible rfl
              try simp only [Act.put, List.setIfInBounds_toArray, List.set_cons_zero, List.set_cons_succ]
              refine takeH (i := 32) (d := some 104) (v := ?_) rfl rfl (by kernel_rfl) (by kernel_rfl) (by kernel_rfl) (fun _ _ _ h => h) (by rfl) ?_ (by assumption) ?_
              rotate_left
              · intro w hSw; obtain ⟨q0, q1, q2, q3, q4, q5, q6, q7, q8, q9, q10, q11, q12⟩ := hcl _ hSw; go_simp; with_reducible rfl
              try simp only [Act.put, List.setIfInBounds_toArray, List.set_cons_zero, List.set_cons_succ]
              refine takeH (i := 33) (d := some 8) (v := ?_) rfl rfl (by kernel_rfl) (by kernel_rfl) (by kernel_rfl) (fun _ _ _ h => h) (by rfl) ?_ (by assumption) ?_
              rotate_left
              · intro w hSw; obtain ⟨q0, q1, q2, q3, q4, q5, q6, q7, q8, q9, q10, q11, q12⟩ := hcl _ hSw; go_simp; with_reducible rfl
              try simp only [Act.put, List.setIfInBounds_toArray, List.set_cons_zero, List.set_cons_succ]
              refine wpAnyH_done (by kernel_rfl) ?_ _
              go_wp2
              go_ret
              exact ⟨rfl, HS16.out.bel⟩
theorem bookOver_law (a1 : Option Addr) (l1 c1 b1 o1 : Nat) (xs : List PsV) (m1 : l1 ≤ c1 ∧ c1 ≤ 9223372036854775807) (z1 : ∀ p ∈ xs, GoodP p)
    (pt fp up : Int) (_ : (-9223372036854775808 ≤ pt ∧ pt ≤ 9223372036854775807) ∧ (-9223372036854775808 ≤ fp ∧ fp ≤ 9223372036854775807) ∧ (-9223372036854775808 ≤ up ∧ up ≤ 9223372036854775807)) (fs us wi : Bool) (fh uh pa qu me bo : ByteArray) (hs : List Par) (z : (fh.size ≤ 140737488355328 ∧ uh.size ≤ 140737488355328 ∧ pa.size ≤ 140737488355328 ∧ qu.size ≤ 140737488355328 ∧ me.size ≤ 140737488355328 ∧ bo.size ≤ 140737488355328) ∧ ∀ q ∈ hs, q.1.size ≤ 140737488355328 ∧ q.2.size ≤ 140737488355328)
    (ra : Option Addr) (rl rc rb ro : Nat) (hl : rl ≤ 9223372036854775807) (t : Int) (_ : -9223372036854775808 ≤ t) (_ : t ≤ 9223372036854775807) (u : Int) (_ : -9223372036854775808 ≤ u) (_ : u ≤ 9223372036854775807) (w : World) (g1 : Pss w a1 l1 b1 o1 xs) (g2 : Pars w ra rl rb ro hs) (hm : Methods w) :
    Calls Tryd.prog 4 #[.slice a1 l1 c1, .agg #[.int .i64 pt, .bool fs, .string fh, .int .i64 fp, .bool us, .string uh, .int .i64 up, .string pa, .string qu, .string me, .slice ra rl rc, .bool wi, .string bo], .int .i64 t, .int .i64 u] w fun e w' => e = .returned (.bool true) ∧ Below w.heap.size w w' :=
  bookOver_walk a1 l1 c1 b1 o1 xs (by omega) z1 ⟨pt, fs, fh, fp, us, uh, up, pa, qu, me, ra, rl, rc, wi, bo⟩ hs rb ro z.2 hl ⟨z.1.1, z.1.2.1, z.1.2.2.1, z.1.2.2.2.1, z.1.2.2.2.2.1⟩ t u w hm g1 g2
end Go.Proofs.YtihhabidfcgogaaDoor

/- What came in: no text of it is longer than a machine can hold. -/
namespace Go.Proofs.YtihhabidfcgogaaDoor
open Go.ChangeShapes Go.WideShapes Go.ChangeAt Go.RowKit Go.Joins

theorem laidOutP : laidOutB Tryd.prog = true := by kernel_rfl
theorem weightsAll_mem {H : Type} {P : Program} {e : TypeId} : ∀ {ds : List (DataW H)} {d : DataW H}, d ∈ ds → ∀ n ∈ d.weights P e, n ∈ DataW.weightsAll P e ds
  | d0 :: ds, d, hd, n, hn => by
    rw [DataW.weightsAll, List.mem_append]
    rcases List.mem_cons.1 hd with rfl | h
    · exact .inl hn
    · exact .inr (weightsAll_mem h n hn)
theorem weights_slice {H : Type} {t e : TypeId} (ht : Tryd.prog.underlying t = some (.slice e)) {ds es : List (DataW H)} {d : DataW H} (hd : d ∈ ds) : ∀ n ∈ d.weights Tryd.prog e, n ∈ (DataW.slice ds es).weights Tryd.prog t := by
  intro n hn
  rw [DataW.weights, ht]
  simp only [List.mem_cons, List.mem_append]
  exact .inr (.inl (weightsAll_mem hd n hn))
/-- No text of it is longer than a machine can hold. -/
def Reach {H : Type} (t : TypeId) (d : DataW H) : Prop := ∀ n ∈ d.weights Tryd.prog t, n ≤ 140737488355328
theorem reach_all {H : Type} {ts : List TypeId} {ds : List (DataW H)} (h : (DataW.weightsEach Tryd.prog ts ds).all (· ≤ reachBytes) = true) {j : Nat} {t : TypeId} {d : DataW H} (ht : ts[j]? = some t) (hd : ds[j]? = some d) : Reach t d := fun n hn => by
  have h1 := List.all_eq_true.1 h _ (DataW.weights_mem_each ht hd n hn)
  have h2 : n ≤ reachBytes := of_decide_eq_true h1
  have := reachBytes_lt
  have e3 : (2 : Nat) ^ 47 = 140737488355328 := by decide
  omega
theorem reach_string {H : Type} {t : TypeId} {s : ByteArray} (h : Reach (H := H) t (.lit (.string s.data.toList))) : s.size ≤ 140737488355328 := by
  have := h s.data.toList.length (by simp [DataW.weights])
  rw [Array.length_toList] at this
  exact this
def strOf : Value → ByteArray
  | .string s => s
  | _ => ⟨#[]⟩
end Go.Proofs.YtihhabidfcgogaaDoor

/- Parameters that came in: one, and a row of them. -/
namespace Go.Proofs.YtihhabidfcgogaaDoor
open Go.ChangeShapes Go.WideShapes Go.ChangeAt Go.RowKit Go.Joins

theorem cellsP : Tryd.prog.cellsOf 71 = 2 := by kernel_rfl
section
variable {H : Type} {enc : TypeId × Value → H} {W : World}
theorem open_pars {fuel : Nat} {v : Value} {x : DataW H × List MemPlace} (h : DataW.trod enc Tryd.prog W 0 (fun _ => true) true fuel 37 [v] = some x) :
    ∃ (a0 : Option Addr) (len cap b off : Nat) (ps : List Par), v = .slice a0 len cap ∧ (len ≤ cap ∧ cap ≤ 9223372036854775807) ∧ Pars W a0 len b off ps ∧ (Reach 37 x.1 → ∀ p ∈ ps, p.1.size ≤ 140737488355328 ∧ p.2.size ≤ 140737488355328) := by
  rcases Go.Deep.open_slice_pairs Tryd.underlying37 Tryd.underlying71 cellsP rfl rfl (by kernel_rfl) (by kernel_rfl) h with ⟨hcs, hx⟩ | ⟨a, len, cap, m, n, V0, V1, D0, D1, P0, P1, hcs, _, hl, hm, hmm, hx, hall⟩
  · simp only [List.cons.injEq, and_true] at hcs
    exact ⟨none, 0, 0, 0, 0, [], hcs, ⟨by omega, by omega⟩, ⟨rfl, fun h => absurd h (by omega), (fun j p hp => by simp at hp), (fun j p hp => by simp at hp)⟩, fun _ p hp => by cases hp⟩
  · simp only [List.cons.injEq, and_true] at hcs
    simp only [if_true] at hmm
    obtain rfl := hmm.symm
    unfold maxLen at hm
    have hS : ∀ i, i < len → V0 i = .string (strOf (V0 i)) ∧ V1 i = .string (strOf (V1 i)) ∧ D0 i = .lit (.string (strOf (V0 i)).data.toList) ∧ D1 i = .lit (.string (strOf (V1 i)).data.toList) := fun i hi => by
      obtain ⟨_, _, t0, t1⟩ := hall i (by omega)
      obtain ⟨s0, e0, x0, _⟩ := DataW.trod_string Tryd.underlying9 t0
      obtain ⟨s1, e1, x1, _⟩ := DataW.trod_string Tryd.underlying9 t1
      simp only [List.cons.injEq, and_true] at e0 e1
      simp only [Prod.mk.injEq] at x0 x1
      rw [e0, e1, x0.1, x1.1]
      exact ⟨rfl, rfl, rfl, rfl⟩
    obtain ⟨b, off, spot⟩ := a
    have hget : ∀ (j : Nat) (p : Par), ((List.range len).map fun i => ((strOf (V0 i), strOf (V1 i)) : Par))[j]? = some p → j < len ∧ p = (strOf (V0 j), strOf (V1 j)) := fun j p hp => by
      rw [List.getElem?_map] at hp
      by_cases hj : j < len
      · rw [List.getElem?_range hj] at hp
        simp only [Option.map_some, Option.some.injEq] at hp
        exact ⟨hj, hp.symm⟩
      · rw [List.getElem?_eq_none (by simp; omega)] at hp
        cases hp
    have hspot : 0 < len → spot = none := fun h0 => by simpa [Addr.add] using World.cell?_spot (hall 0 (by omega)).1
    refine ⟨some ⟨b, off, spot⟩, len, cap, b, off, (List.range len).map fun i => (strOf (V0 i), strOf (V1 i)), hcs, ⟨by omega, by omega⟩, ⟨by simp, fun h0 => ?_, fun j p hp => ?_, fun j p hp => ?_⟩, fun hr p hp => ?_⟩
    · obtain rfl := hspot h0
      refine ⟨rfl, ?_⟩
      have hc := (hall 0 (by omega)).1
      rcases Nat.lt_or_ge b W.heap.size with h1 | h1
      · exact h1
      · simp [World.cell?, Addr.add, Array.getElem?_eq_none h1] at hc
    · obtain ⟨hj, rfl⟩ := hget j p hp
      obtain rfl := hspot (by omega)
      rw [← add_plain]
      exact (hall j (by omega)).1.trans (congrArg some (hS j hj).1)
    · obtain ⟨hj, rfl⟩ := hget j p hp
      obtain rfl := hspot (by omega)
      rw [Nat.add_assoc, ← add_plain]
      exact (hall j (by omega)).2.1.trans (congrArg some (hS j hj).2.1)
    · obtain ⟨i, hi, rfl⟩ := List.mem_map.1 hp
      have hi' : i < len := List.mem_range.1 hi
      have hw : ∀ n ∈ (DataW.agg [D0 i, D1 i]).weights Tryd.prog 71, n ≤ 140737488355328 := fun n hn => by
        refine hr n ?_
        rw [hx]
        exact weights_slice Tryd.underlying37 (List.mem_map.2 ⟨i, hi, rfl⟩) n hn
      rw [(hS i hi').2.2.1, (hS i hi').2.2.2] at hw
      have w0 := hw (strOf (V0 i)).data.toList.length (by simp [DataW.weights, DataW.weightsEach, Tryd.underlying71])
      have w1 := hw (strOf (V1 i)).data.toList.length (by simp [DataW.weights, DataW.weightsEach, Tryd.underlying71])
      rw [Array.length_toList] at w0 w1
      exact ⟨w0, w1⟩
set_option maxRecDepth 100000 in
/-- A parameter that came in. -/
theorem open_param {b0 : Nat} {v : Value} {d : DataW H} {p : List MemPlace} (hv : Value.okWide Tryd.prog W .any b0 71 v) (h : DataW.Trod enc Tryd.prog W 0 (fun _ => true) true 71 v d p) :
    ∃ x y : ByteArray, v = .agg #[.string x, .string y] ∧ (Reach 71 d → x.size ≤ 140737488355328 ∧ y.size ≤ 140737488355328) := by
  obtain ⟨c0, c1, y0, y1, m, rfl, rfl, rfl, g0, g1⟩ := open_agg2 Tryd.underlying71 (by kernel_rfl) (by kernel_rfl) hv h
  obtain ⟨s0, e0, rfl, _⟩ := DataW.trod_string Tryd.underlying9 g0
  obtain ⟨s1, e1, rfl, _⟩ := DataW.trod_string Tryd.underlying9 g1
  simp only [List.cons.injEq, and_true] at e0 e1
  subst e0 e1
  refine ⟨s0, s1, rfl, fun hw => ?_⟩
  have w0 := hw s0.data.toList.length (by simp [DataW.weights, DataW.weightsEach, Tryd.underlying71])
  have w1 := hw s1.data.toList.length (by simp [DataW.weights, DataW.weightsEach, Tryd.underlying71])
  rw [Array.length_toList] at w0 w1
  exact ⟨w0, w1⟩
/-- A row of parameters that came in. -/
theorem open_parsT {v : Value} {d : DataW H} {p : List MemPlace} {a0 : Option Addr} {len cap : Nat} (h : DataW.Trod enc Tryd.prog W 0 (fun _ => true) true 37 v d p) (hv : v = .slice a0 len cap) :
    ∃ (b off : Nat) (ps : List Par), (len ≤ cap ∧ cap ≤ 9223372036854775807) ∧ Pars W a0 len b off ps ∧ (Reach 37 d → ∀ q ∈ ps, q.1.size ≤ 140737488355328 ∧ q.2.size ≤ 140737488355328) := by
  subst hv
  obtain ⟨fuel, hf⟩ := h
  obtain ⟨a1, n1, c1, b, off, ps, e, hl, hp, hr⟩ := open_pars (v := .slice a0 len cap) hf
  injection e with e1 e2 e3
  subst e1 e2 e3
  exact ⟨b, off, ps, hl, hp, hr⟩
end
end Go.Proofs.YtihhabidfcgogaaDoor

/- A request that came in: opened, with its numbers' bounds. -/
namespace Go.Proofs.YtihhabidfcgogaaDoor
open Go.ChangeShapes Go.WideShapes Go.ChangeAt Go.RowKit Go.Joins

theorem array13q {α : Type} {cs : Array α} (h : cs.size = 13) : ∃ c0 c1 c2 c3 c4 c5 c6 c7 c8 c9 c10 c11 c12, cs = #[c0, c1, c2, c3, c4, c5, c6, c7, c8, c9, c10, c11, c12] := by
  obtain ⟨l⟩ := cs
  match l, h with
  | [c0, c1, c2, c3, c4, c5, c6, c7, c8, c9, c10, c11, c12], _ => exact ⟨c0, c1, c2, c3, c4, c5, c6, c7, c8, c9, c10, c11, c12, rfl⟩
theorem list3q {α : Type} {l : List α} (h : l.length = 3) : ∃ c0 c1 c2, l = [c0, c1, c2] := by
  match l, h with
  | [c0, c1, c2], _ => exact ⟨c0, c1, c2, rfl⟩
theorem list7q {α : Type} {l : List α} (h : l.length = 7) : ∃ c0 c1 c2 c3 c4 c5 c6, l = [c0, c1, c2, c3, c4, c5, c6] := by
  match l, h with
  | [c0, c1, c2, c3, c4, c5, c6], _ => exact ⟨c0, c1, c2, c3, c4, c5, c6, rfl⟩
section
variable {H : Type} {enc : TypeId × Value → H} {W : World}
set_option maxRecDepth 100000 in
/-- An origin among the cells of a greater thing. -/
theorem open_orgAt9 {fuel : Nat} {c0 c1 c2 : Value} {x : DataW H × List MemPlace} (h : DataW.trod enc Tryd.prog W 0 (fun _ => true) true fuel 31 [c0, c1, c2] = some x) :
    ∃ (s : Bool) (t : ByteArray) (p : Int), c0 = .bool s ∧ c1 = .string t ∧ c2 = .int .i64 p ∧ x.1 = .agg [.lit (.bool s), .lit (.string t.data.toList), .lit (.int .i64 p)] ∧ (Lit.int .i64 p).wf = true := by
  obtain ⟨xs, n, rfl, rfl, _, hlen, hff⟩ := DataW.trod_struct Tryd.underlying31 h
  obtain ⟨y0, y1, y2, rfl⟩ := list3q (hlen.trans rfl)
  have g0 : DataW.trod enc Tryd.prog W 0 (fun _ => true) true n 4 [c0] = some y0 := hff 0 _ rfl
  have g1 : DataW.trod enc Tryd.prog W 0 (fun _ => true) true n 9 [c1] = some y1 := hff 1 _ rfl
  have g2 : DataW.trod enc Tryd.prog W 0 (fun _ => true) true n 3 [c2] = some y2 := hff 2 _ rfl
  obtain ⟨s, e0, rfl⟩ := DataW.trod_bool Tryd.underlying4 g0
  obtain ⟨t, e1, rfl, _⟩ := DataW.trod_string Tryd.underlying9 g1
  obtain ⟨p, e2, rfl, wp⟩ := DataW.trod_int Tryd.underlying3 g2
  simp only [List.cons.injEq, and_true] at e0 e1 e2
  exact ⟨s, t, p, e0, e1, e2, rfl, wp⟩
set_option maxRecDepth 100000 in
set_option maxHeartbeats 2000000 in
theorem open_req9 {b0 : Nat} {v : Value} {d : DataW H} {p : List MemPlace} (hv : Value.okWide Tryd.prog W .any b0 39 v) (h : DataW.Trod enc Tryd.prog W 0 (fun _ => true) true 39 v d p) :
    ∃ (pt fp up : Int) (fs us wi : Bool) (fh uh pa qu me bo : ByteArray) (a0 : Option Addr) (len cap b off : Nat) (ps : List Par),
      v = .agg #[.int .i64 pt, .bool fs, .string fh, .int .i64 fp, .bool us, .string uh, .int .i64 up, .string pa, .string qu, .string me, .slice a0 len cap, .bool wi, .string bo] ∧
      ((Lit.int .i64 pt).wf = true ∧ (Lit.int .i64 fp).wf = true ∧ (Lit.int .i64 up).wf = true) ∧ (len ≤ cap ∧ cap ≤ 9223372036854775807) ∧ Pars W a0 len b off ps ∧
      (Reach 39 d → (fh.size ≤ 140737488355328 ∧ uh.size ≤ 140737488355328 ∧ pa.size ≤ 140737488355328 ∧ qu.size ≤ 140737488355328 ∧ me.size ≤ 140737488355328 ∧ bo.size ≤ 140737488355328) ∧ ∀ q ∈ ps, q.1.size ≤ 140737488355328 ∧ q.2.size ≤ 140737488355328) := by
  obtain ⟨cs, rfl, hsz⟩ := okWide_struct Tryd.underlying39 hv
  obtain ⟨c0, c1, c2, c3, c4, c5, c6, c7, c8, c9, c10, c11, c12, rfl⟩ := array13q (hsz.trans (by kernel_rfl))
  obtain ⟨fuel, hf⟩ := h
  obtain ⟨xs, n, _, hx, _, hlen, hff⟩ := DataW.trod_struct Tryd.underlying39 hf
  obtain ⟨y0, y1, y2, y3, y4, y5, y6, rfl⟩ := list7q (hlen.trans rfl)
  simp only [Prod.mk.injEq] at hx
  have g0 : DataW.trod enc Tryd.prog W 0 (fun _ => true) true n 3 [c0] = some y0 := hff 0 _ rfl
  have g1 : DataW.trod enc Tryd.prog W 0 (fun _ => true) true n 31 [c1, c2, c3] = some y1 := hff 1 _ rfl
  have g2 : DataW.trod enc Tryd.prog W 0 (fun _ => true) true n 33 [c4, c5, c6, c7, c8] = some y2 := hff 2 _ rfl
  have g3 : DataW.trod enc Tryd.prog W 0 (fun _ => true) true n 9 [c9] = some y3 := hff 3 _ rfl
  have g4 : DataW.trod enc Tryd.prog W 0 (fun _ => true) true n 37 [c10] = some y4 := hff 4 _ rfl
  have g5 : DataW.trod enc Tryd.prog W 0 (fun _ => true) true n 4 [c11] = some y5 := hff 5 _ rfl
  have g6 : DataW.trod enc Tryd.prog W 0 (fun _ => true) true n 9 [c12] = some y6 := hff 6 _ rfl
  obtain ⟨pt, e0, rfl, wpt⟩ := DataW.trod_int Tryd.underlying3 g0
  obtain ⟨fs, fh, fp, rfl, rfl, rfl, x1, wfp⟩ := open_orgAt9 g1
  obtain ⟨us', m, rfl, hx2, _, hlen2, hff2⟩ := DataW.trod_struct Tryd.underlying33 g2
  obtain ⟨u0, u1, u2, rfl⟩ := list3q (hlen2.trans rfl)
  have q0 : DataW.trod enc Tryd.prog W 0 (fun _ => true) true m 31 [c4, c5, c6] = some u0 := hff2 0 _ rfl
  have q1 : DataW.trod enc Tryd.prog W 0 (fun _ => true) true m 9 [c7] = some u1 := hff2 1 _ rfl
  have q2 : DataW.trod enc Tryd.prog W 0 (fun _ => true) true m 9 [c8] = some u2 := hff2 2 _ rfl
  obtain ⟨us, uh, up, rfl, rfl, rfl, z0, wup⟩ := open_orgAt9 q0
  obtain ⟨pa, e7, rfl, _⟩ := DataW.trod_string Tryd.underlying9 q1
  obtain ⟨qu, e8, rfl, _⟩ := DataW.trod_string Tryd.underlying9 q2
  obtain ⟨me, e9, rfl, _⟩ := DataW.trod_string Tryd.underlying9 g3
  obtain ⟨a0, len, cap, b, off, ps, rfl, hl, hp, hr⟩ := open_pars g4
  obtain ⟨wi, e11, rfl⟩ := DataW.trod_bool Tryd.underlying4 g5
  obtain ⟨bo, e12, rfl, _⟩ := DataW.trod_string Tryd.underlying9 g6
  simp only [List.cons.injEq, and_true] at e0 e7 e8 e9 e11 e12
  subst e0 e7 e8 e9 e11 e12
  refine ⟨pt, fp, up, fs, us, wi, fh, uh, pa, qu, me, bo, a0, len, cap, b, off, ps, rfl, ⟨wpt, wfp, wup⟩, hl, hp, fun hw => ?_⟩
  have hd := hx.1
  simp only [List.map_cons, List.map_nil, x1, hx2, z0] at hd
  subst hd
  have w1 := hw fh.data.toList.length (by simp [DataW.weights, DataW.weightsEach, Tryd.underlying39, Tryd.underlying31])
  have w2 := hw uh.data.toList.length (by simp [DataW.weights, DataW.weightsEach, Tryd.underlying39, Tryd.underlying31, Tryd.underlying33])
  have w3 := hw pa.data.toList.length (by simp [DataW.weights, DataW.weightsEach, Tryd.underlying39, Tryd.underlying31, Tryd.underlying33])
  have w4 := hw qu.data.toList.length (by simp [DataW.weights, DataW.weightsEach, Tryd.underlying39, Tryd.underlying31, Tryd.underlying33])
  have w5 := hw me.data.toList.length (by simp [DataW.weights, DataW.weightsEach, Tryd.underlying39])
  have w6 := hw bo.data.toList.length (by simp [DataW.weights, DataW.weightsEach, Tryd.underlying39])
  rw [Array.length_toList] at w1 w2 w3 w4 w5 w6
  refine ⟨⟨w1, w2, w3, w4, w5, w6⟩, hr fun k hk => hw k ?_⟩
  simp only [DataW.weights, Tryd.underlying39]
  simp [DataW.weightsEach, hk]
end
end Go.Proofs.YtihhabidfcgogaaDoor

/- (whatever any call hands in) Rows of passes that came in: opened. -/
namespace Go.Proofs.YtihhabidfcgogaaDoor
open Go.ChangeShapes Go.WideShapes Go.ChangeAt Go.RowKit Go.Joins

theorem list6b {α : Type} {l : List α} (h : l.length = 6) : ∃ c0 c1 c2 c3 c4 c5, l = [c0, c1, c2, c3, c4, c5] := by
  match l, h with
  | [c0, c1, c2, c3, c4, c5], _ => exact ⟨c0, c1, c2, c3, c4, c5, rfl⟩
instance : Inhabited PsV := ⟨⟨false, ⟨#[]⟩, 0, false, ⟨#[]⟩, 0, ⟨#[]⟩, ⟨#[]⟩, false, ⟨#[]⟩, ⟨#[]⟩, 0⟩⟩
theorem cells12b : Tryd.prog.cellsOf 35 = 12 := by kernel_rfl
section
variable {H : Type} {enc : TypeId × Value → H} {W : World}
set_option maxRecDepth 100000 in
theorem open_passAtG {fuel : Nat} {c0 c1 c2 c3 c4 c5 c6 c7 c8 c9 c10 c11 : Value} {x : DataW H × List MemPlace} (h : DataW.trod enc Tryd.prog W 0 (fun _ => true) true fuel 35 [c0, c1, c2, c3, c4, c5, c6, c7, c8, c9, c10, c11] = some x) :
    ∃ v : PsV, [c0, c1, c2, c3, c4, c5, c6, c7, c8, c9, c10, c11] = v.vals ∧ (Reach 35 x.1 → GoodP v) := by
  obtain ⟨xs, n, rfl, hx, _, hlen, hff⟩ := DataW.trod_struct Tryd.underlying35 h
  obtain ⟨y0, y1, y2, y3, y4, y5, rfl⟩ := list6b (hlen.trans rfl)
  have g0 : DataW.trod enc Tryd.prog W 0 (fun _ => true) true n 31 [c0, c1, c2] = some y0 := hff 0 _ rfl
  have g1 : DataW.trod enc Tryd.prog W 0 (fun _ => true) true n 33 [c3, c4, c5, c6, c7] = some y1 := hff 1 _ rfl
  have g2 : DataW.trod enc Tryd.prog W 0 (fun _ => true) true n 4 [c8] = some y2 := hff 2 _ rfl
  have g3 : DataW.trod enc Tryd.prog W 0 (fun _ => true) true n 9 [c9] = some y3 := hff 3 _ rfl
  have g4 : DataW.trod enc Tryd.prog W 0 (fun _ => true) true n 9 [c10] = some y4 := hff 4 _ rfl
  have g5 : DataW.trod enc Tryd.prog W 0 (fun _ => true) true n 3 [c11] = some y5 := hff 5 _ rfl
  obtain ⟨fs, fh, fp, rfl, rfl, rfl, x1, wfp⟩ := open_orgAt9 g0
  obtain ⟨us', m, rfl, hx2, _, hlen2, hff2⟩ := DataW.trod_struct Tryd.underlying33 g1
  obtain ⟨u0, u1, u2, rfl⟩ := list3q (hlen2.trans rfl)
  have q0 : DataW.trod enc Tryd.prog W 0 (fun _ => true) true m 31 [c3, c4, c5] = some u0 := hff2 0 _ rfl
  have q1 : DataW.trod enc Tryd.prog W 0 (fun _ => true) true m 9 [c6] = some u1 := hff2 1 _ rfl
  have q2 : DataW.trod enc Tryd.prog W 0 (fun _ => true) true m 9 [c7] = some u2 := hff2 2 _ rfl
  obtain ⟨us, uh, up, rfl, rfl, rfl, z0, wup⟩ := open_orgAt9 q0
  obtain ⟨pa, e7, rfl, _⟩ := DataW.trod_string Tryd.underlying9 q1
  obtain ⟨qu, e8, rfl, _⟩ := DataW.trod_string Tryd.underlying9 q2
  obtain ⟨wi, e9, rfl⟩ := DataW.trod_bool Tryd.underlying4 g2
  obtain ⟨me, e10, rfl, _⟩ := DataW.trod_string Tryd.underlying9 g3
  obtain ⟨he, e11, rfl, _⟩ := DataW.trod_string Tryd.underlying9 g4
  obtain ⟨un, e12, rfl, wun⟩ := DataW.trod_int Tryd.underlying3 g5
  simp only [List.cons.injEq, and_true] at e7 e8 e9 e10 e11 e12
  subst e7 e8 e9 e10 e11 e12
  refine ⟨⟨fs, fh, fp, us, uh, up, pa, qu, wi, me, he, un⟩, rfl, fun hw => ?_⟩
  have hd := hx
  simp only [List.map_cons, List.map_nil, x1, hx2, z0] at hd
  subst hd
  have w1 := hw fh.data.toList.length (by simp [DataW.weights, DataW.weightsEach, Tryd.underlying35, Tryd.underlying31])
  have w2 := hw uh.data.toList.length (by simp [DataW.weights, DataW.weightsEach, Tryd.underlying35, Tryd.underlying31, Tryd.underlying33])
  have w3 := hw pa.data.toList.length (by simp [DataW.weights, DataW.weightsEach, Tryd.underlying35, Tryd.underlying33])
  have w4 := hw qu.data.toList.length (by simp [DataW.weights, DataW.weightsEach, Tryd.underlying35, Tryd.underlying33])
  have w5 := hw me.data.toList.length (by simp [DataW.weights, DataW.weightsEach, Tryd.underlying35])
  have w6 := hw he.data.toList.length (by simp [DataW.weights, DataW.weightsEach, Tryd.underlying35])
  rw [Array.length_toList] at w1 w2 w3 w4 w5 w6
  have hM : (140737488355328 : Nat) ≤ maxLen := by unfold maxLen; omega
  exact ⟨⟨Nat.le_trans w1 hM, Nat.le_trans w2 hM, Nat.le_trans w3 hM, Nat.le_trans w4 hM, Nat.le_trans w5 hM, Nat.le_trans w6 hM, wfp, wup, wun⟩, ⟨w1, w2, w3, w4, w5, w6⟩⟩
theorem open_passesB {fuel : Nat} {v : Value} {x : DataW H × List MemPlace} (h : DataW.trod enc Tryd.prog W 0 (fun _ => true) true fuel 22 [v] = some x) :
    ∃ (a0 : Option Addr) (len cap b off : Nat) (gs : List PsV), v = .slice a0 len cap ∧ (len ≤ cap ∧ cap ≤ 9223372036854775807) ∧ Pss W a0 len b off gs ∧ (Reach 22 x.1 → ∀ p ∈ gs, GoodP p) := by
  rcases Go.Deep.open_slice Tryd.underlying22 h with ⟨hcs, hx⟩ | ⟨a, len, cap, m, n, D, Pl, hcs, _, hl, hm, hmm, hx, hall⟩
  · simp only [List.cons.injEq, and_true] at hcs
    exact ⟨none, 0, 0, 0, 0, [], hcs, ⟨by omega, by omega⟩, pss_nil W, fun _ p hp => by cases hp⟩
  · simp only [List.cons.injEq, and_true] at hcs
    simp only [if_true] at hmm
    obtain rfl := hmm.symm
    unfold maxLen at hm
    rw [cells12b] at hall
    have each : ∀ i, i < cap → ∃ g : PsV, (∀ (j : Nat) (u : Value), g.vals[j]? = some u → W.cell? (a.add (i * 12 + j)) = some u) ∧ (Reach 35 (D i) → GoodP g) := fun i hi => by
      obtain ⟨cs', h1, h2⟩ := hall i hi
      obtain ⟨_, hlen, hcell⟩ := World.cells?_some h1
      match cs', hlen with
      | [c0, c1, c2, c3, c4, c5, c6, c7, c8, c9, c10, c11], _ =>
        obtain ⟨g, e, hg⟩ := open_passAtG h2
        refine ⟨g, fun j u hj => ?_, hg⟩
        have hj12 : j < 12 := (List.getElem?_eq_some_iff.1 hj).1
        have e0 := hcell j hj12
        rw [Go.Deep.add_add] at e0
        rw [e0, e, hj]
    obtain ⟨C, hC⟩ := Go.Deep.choose_lt each
    obtain ⟨b, off, spot⟩ := a
    have hget : ∀ (j : Nat) (c : PsV), ((List.range len).map C)[j]? = some c → j < len ∧ c = C j := fun j p hp => by
      rw [List.getElem?_map] at hp
      by_cases hj : j < len
      · rw [List.getElem?_range hj] at hp
        simp only [Option.map_some, Option.some.injEq] at hp
        exact ⟨hj, hp.symm⟩
      · rw [List.getElem?_eq_none (by simp; omega)] at hp
        cases hp
    have hspot : 0 < len → spot = none := fun h0 => by simpa [Addr.add] using World.cell?_spot ((hC 0 (by omega)).1 0 _ rfl)
    refine ⟨some ⟨b, off, spot⟩, len, cap, b, off, (List.range len).map C, hcs, ⟨by omega, by omega⟩, ⟨by simp, fun h0 => ?_, fun j c hc i u hu => ?_⟩, fun hr p hp => ?_⟩
    · obtain rfl := hspot h0
      refine ⟨rfl, ?_⟩
      have hc := (hC 0 (by omega)).1 0 _ rfl
      rcases Nat.lt_or_ge b W.heap.size with h1 | h1
      · exact h1
      · simp [World.cell?, Addr.add, Array.getElem?_eq_none h1] at hc
    · obtain ⟨hj, rfl⟩ := hget j c hc
      obtain rfl := hspot (by omega)
      rw [Nat.add_assoc, ← add_plain]
      exact (hC j (by omega)).1 i u hu
    · obtain ⟨i, hi, rfl⟩ := List.mem_map.1 hp
      have hi' : i < len := List.mem_range.1 hi
      refine (hC i (by omega)).2 fun n hn => ?_
      refine hr n ?_
      rw [hx]
      exact weights_slice Tryd.underlying22 (List.mem_map.2 ⟨i, hi, rfl⟩) n hn
/-- A row of passes that came in. -/
theorem open_passesG {v : Value} {d : DataW H} {p : List MemPlace} {a : Option Addr} {n k : Nat} (h : DataW.Trod enc Tryd.prog W 0 (fun _ => true) true 22 v d p) (hv : v = .slice a n k) :
    ∃ (b off : Nat) (gs : List PsV), (n ≤ k ∧ k ≤ 9223372036854775807) ∧ Pss W a n b off gs ∧ (Reach 22 d → ∀ p ∈ gs, GoodP p) := by
  subst hv
  obtain ⟨fuel, hf⟩ := h
  obtain ⟨a0, len, cap, b, off, gs, e, h1, h2, h3⟩ := open_passesB (v := .slice a n k) hf
  injection e with e1 e2 e3
  subst e1 e2 e3
  exact ⟨b, off, gs, h1, h2, h3⟩
end
end Go.Proofs.YtihhabidfcgogaaDoor
