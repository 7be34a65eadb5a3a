/- bank.Sweep: all of an origin's go. -/
import Derived.Test.YtdnnlfklanaliacSw7
import Derived.Deep.RegionHeld3
import Derived.Deep.QuietTactic
import Derived.BigQuiet
namespace Go.Proofs.Ytdnnlfklanaliac
open Go.RowKit
set_option linter.unusedVariables false

/-- The bank behind Sweep. -/
def SwpAns (w : World) (B b : Nat) (gv wv : Value) (G : List GrP) (V : List WtP) (o : OrgV) (e : Ending) (w' : World) : Prop :=
  e = .returned (.int .i64 ((G.length : Int) - ((G.filter (fun g => !orgB g.org o)).length : Int))) ∧ ∃ gv' wv' G' V', Hid (BankW w' B b gv' wv' G' V' ∧ G'.map (·.g) = G.filter (fun g => !orgB g.org o) ∧ V'.map (·.g) = V.filter (fun v => !orgB v.org o) ∧ BankStep b gv wv w w' gv' wv')
set_option maxRecDepth 100000 in
set_option maxHeartbeats 4000000 in
theorem sweep_any {B b : Nat} {gv wv : Value} {G : List GrV} {V : List WtV} (w : World) (h : BankW w B b gv wv G V) (hB : B ≤ w.heap.size) (o : OrgV) :
    Calls Try.prog 12 #[.pointer (some ⟨b, 0, none⟩), .agg #[.bool o.sec, .string o.host, .int .i64 o.port]] w fun e w' => SwpAns w B b gv wv (G.map (·.g)) (V.map (·.g)) o e w' := by
  have HK : Hid (BankW w B b gv wv G V ∧ B ≤ w.heap.size) := ⟨h, hB⟩
  have hb1 : Below w.heap.size w (w.alloc (.cells #[.bool o.sec, .string o.host, .int .i64 o.port] 31)) := (Below.refl _ _).alloc (Nat.le_refl _) _
  have h1 := h.below hb1
  have hx1 : BoxO (w.alloc (.cells #[.bool o.sec, .string o.host, .int .i64 o.port] 31)) w.heap.size o := heap_alloc_new w _
  obtain ⟨W1, hW1⟩ : ∃ W1, W1 = w.alloc (.cells #[.bool o.sec, .string o.host, .int .i64 o.port] 31) := ⟨_, rfl⟩
  have hcb := cell_of (i := 0) h1.blk
  have hcw := cell_of (i := 1) h1.blk
  simp only [List.getElem?_toArray, List.getElem?_cons_zero, List.getElem?_cons_succ] at hcb hcw
  have H1 : Hid (BankW (w.alloc (.cells #[.bool o.sec, .string o.host, .int .i64 o.port] 31)) B b gv wv G V ∧ BoxO (w.alloc (.cells #[.bool o.sec, .string o.host, .int .i64 o.port] 31)) w.heap.size o ∧ Below w.heap.size w (w.alloc (.cells #[.bool o.sec, .string o.host, .int .i64 o.port] 31))) := ⟨h1, hx1, hb1⟩
  clear h1 hx1 hb1 h hB hW1 W1
  go_enter Try.func12, Try.ntmps12
  obtain ⟨pg, n, cg, e, hn⟩ : ∃ p n c, gv = .slice p n c ∧ G.length = n := by
    rcases HK.out.1.gs.forms with ⟨e, e2⟩ | ⟨g, cap, e, _, _, _, _⟩
    · exact ⟨_, _, _, e, by rw [List.map_eq_nil_iff.1 e2]; rfl⟩
    · exact ⟨_, _, _, e, by rw [List.length_map]⟩
  have HN : Hid (G.length = n ∧ n ≤ 8) := ⟨hn, by rw [← hn]; exact HK.out.1.glen⟩
  subst e
  clear hn
  have hdel := swG_del HK.out.1.glen _ H1.out.1.gs H1.out.2.1
  go_wp2_with fail
  refine hdel.mono ?_
  rintro e w2 ⟨p2, m, c2, rfl, H2⟩
  have hb2 := block_other H1.out.1.blk H2.out.2.1 H1.out.1.gs.typed (by decide)
  have hblt : b < w.heap.size := (Array.getElem?_eq_some_iff.1 HK.out.1.blk).1
  have H3 : Hid ((BankW (w2.setCell ⟨b, 0, none⟩ (.slice p2 m c2)) B b (.slice p2 m c2) wv (G.filter (fun v => !orgB v.g.org o)) V ∧ BankStep b (.slice pg n cg) wv w (w2.setCell ⟨b, 0, none⟩ (.slice p2 m c2)) (.slice p2 m c2) wv) ∧ BoxO (w2.setCell ⟨b, 0, none⟩ (.slice p2 m c2)) w.heap.size o ∧ (G.filter (fun v => !orgB v.g.org o)).length = m) := by
    refine ⟨bank_grants HK.out.1 H1.out.2.2 H2.out.2.1 H2.out.1 (fun k hk => .inl (H2.out.2.2.1 ▸ hk)) (fun v hv => ⟨.inl (List.mem_filter.1 hv).1, HK.out.1.gf v (List.mem_filter.1 hv).1⟩) (Nat.le_trans (List.length_filter_le _ _) HK.out.1.glen), ?_, H2.out.2.2.2⟩
    exact (Below.heap_setCell w2 ⟨b, 0, none⟩ (.slice p2 m c2) w.heap.size (by show w.heap.size ≠ b; omega)).trans (block_other H1.out.2.1 H2.out.2.1 H1.out.1.gs.typed (by decide))
  have c0 := cell_of (i := 0) hb2
  simp only [List.getElem?_toArray, List.getElem?_cons_zero] at c0
  have f2 := free_of hb2
  have c1 := cell_of (i := 1) H3.out.1.1.blk
  simp only [List.getElem?_toArray, List.getElem?_cons_zero, List.getElem?_cons_succ] at c1
  have hdel2 := swW_del H3.out.1.1.vlen _ H3.out.1.1.ws H3.out.2.1
  clear hdel hb2 hcb hcw
  go_wp2_with fail
  refine hdel2.mono ?_
  rintro e w4 ⟨p4, m4, c4, rfl, H4⟩
  have hb4 := block_other H3.out.1.1.blk H4.out.2.1 H3.out.1.1.ws.typed (by decide)
  have H5 : Hid (BankW (w4.setCell ⟨b, 1, none⟩ (.slice p4 m4 c4)) B b (.slice p2 m c2) (.slice p4 m4 c4) (G.filter (fun v => !orgB v.g.org o)) (V.filter (fun v => !orgB v.g.org o)) ∧ BankStep b (.slice p2 m c2) wv (w2.setCell ⟨b, 0, none⟩ (.slice p2 m c2)) (w4.setCell ⟨b, 1, none⟩ (.slice p4 m4 c4)) (.slice p2 m c2) (.slice p4 m4 c4)) :=
    bank_waits H3.out.1.1 (Below.refl _ _) H4.out.2.1 H4.out.1 (fun k hk => .inl (H4.out.2.2.1 ▸ hk)) (fun v hv => .inl (List.mem_filter.1 hv).1) (Nat.le_trans (List.length_filter_le _ _) H3.out.1.1.vlen)
  have d1 := cell_of (i := 1) hb4
  have d0 := cell_of (i := 0) H5.out.1.blk
  have f4 := free_of hb4
  simp only [List.getElem?_toArray, List.getElem?_cons_zero, List.getElem?_cons_succ] at d0 d1
  have hn8 : (n : Int) ≤ 8 := by have := HN.out.2; omega
  have hmn : (m : Int) ≤ (n : Int) := by
    have h1 := H3.out.2.2
    have h2 := HN.out.1
    have := List.length_filter_le (fun v : GrV => !orgB v.g.org o) G
    omega
  clear hdel2 hb4 c0 c1 f2
  go_wp2
  go_ret
  refine ⟨?_, _, _, _, _, ⟨H5.out.1, ?_, ?_, H3.out.1.2.trans H5.out.2⟩⟩
  · rw [List.length_map, HN.out.1, List.filter_map, List.length_map]
    rw [← H3.out.2.2]
    rfl
  · rw [List.filter_map]
    rfl
  · rw [List.filter_map]
    rfl
end Go.Proofs.Ytdnnlfklanaliac
