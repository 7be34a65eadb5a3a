/- Texts of one claim, joined: each begins with what it proves. -/
import Derived.Test.YtjadmldnpdmamaaJo4
import Derived.Test.YtjadmldnpdmamaaJo3
import Derived.Test.YtjadmldnpdmamaaJo1
import Derived.Deep.RegionHeld3
import Derived.Deep.QuietTactic
import Derived.BigQuiet
import Derived.RegionTactic
import Derived.ProofKit
import Derived.OpenShut
import Derived.SliceStrings
import Derived.Carry
import Derived.SizedLaws
import Derived.Deep.Slices
import Derived.Deep.SlicePairs
import Derived.Deep.Strs
import Derived.Lib.SmallJoins
/- bank.Copy: a bank like it, that lies apart. -/
namespace Go.Proofs.Ytjadmldnpdmamaa
open Go.RowKit
set_option linter.unusedVariables false

/-- Rows that were handed out, among blocks from B on. -/
structure CpG (w : World) (B : Nat) (l : List GrP) (val : Value) (us : List GrV) : Prop where
  own : OwnK 16 36 w B val (us.map grCells)
  all : us.map (·.g) = l
  gos : ∀ u ∈ us, GrOwn w B u
structure CpW (w : World) (B : Nat) (l : List WtP) (val : Value) (us : List WtV) : Prop where
  own : OwnK 13 38 w B val (us.map wtCells)
  all : us.map (·.g) = l
  gos : ∀ u ∈ us, WtOwn w B u
theorem CpG.below {w w' : World} {B : Nat} {l : List GrP} {val : Value} {us : List GrV} (h : CpG w B l val us) (hb : Below w.heap.size w w') : CpG w' B l val us := ⟨h.own.below hb, h.all, fun u hu => (h.gos u hu).below hb⟩
theorem CpW.below {w w' : World} {B : Nat} {l : List WtP} {val : Value} {us : List WtV} (h : CpW w B l val us) (hb : Below w.heap.size w w') : CpW w' B l val us := ⟨h.own.below hb, h.all, fun u hu => OwnS.below (h.gos u hu) hb⟩
theorem CpG.mono {w : World} {B B' : Nat} {l : List GrP} {val : Value} {us : List GrV} (h : CpG w B l val us) (hb : B' ≤ B) : CpG w B' l val us := ⟨h.own.mono hb, h.all, fun u hu => (h.gos u hu).mono hb⟩
theorem CpW.mono {w : World} {B B' : Nat} {l : List WtP} {val : Value} {us : List WtV} (h : CpW w B l val us) (hb : B' ≤ B) : CpW w B' l val us := ⟨h.own.mono hb, h.all, fun u hu => ownS_mono (h.gos u hu) hb⟩
theorem form16 {k : Nat} {t : TypeId} {w : World} {B : Nat} {val : Value} {xs : List (List Value)} (h : OwnK k t w B val xs) : ∃ p n c, val = .slice p n c := by
  rcases h.forms with ⟨e, _⟩ | ⟨g, cap, e, _⟩
  · exact ⟨_, _, _, e⟩
  · exact ⟨_, _, _, e⟩
/-- The new bank. -/
theorem cpy_bank {w w2 : World} {B b : Nat} {gv wv : Value} {G : List GrV} {V : List WtV} {p q : Option Addr} {n c m d : Nat} {us : List GrV} {vs : List WtV} (h : BankW w B b gv wv G V) (hb : Below w.heap.size w w2) (h1 : CpG w2 w.heap.size (G.map (·.g)) (.slice p n c) us) (h2 : CpW w2 w.heap.size (V.map (·.g)) (.slice q m d) vs) :
    BankW (w2.alloc (.cells #[.slice p n c, .slice q m d] 52)) w.heap.size w2.heap.size (.slice p n c) (.slice q m d) us vs ∧ Below w.heap.size w (w2.alloc (.cells #[.slice p n c, .slice q m d] 52)) := by
  have ha : Below w2.heap.size w2 (w2.alloc (.cells #[.slice p n c, .slice q m d] 52)) := (Below.refl _ _).alloc (Nat.le_refl _) _
  have h3 := h1.below ha
  have h4 := h2.below ha
  have hl1 : us.length = G.length := by have := congrArg List.length h1.all; rwa [List.length_map, List.length_map] at this
  have hl2 : vs.length = V.length := by have := congrArg List.length h2.all; rwa [List.length_map, List.length_map] at this
  refine ⟨⟨heap_alloc_new w2 _, hb.size, h3.own, h4.own, h3.gos, h4.gos, fun u hu => ?_, by rw [hl1]; exact h.glen, by rw [hl2]; exact h.vlen⟩, hb.trans (ha.mono hb.size)⟩
  have hm : u.g ∈ G.map (·.g) := by rw [← h1.all]; exact List.mem_map.2 ⟨u, hu, rfl⟩
  obtain ⟨v, hv, e⟩ := List.mem_map.1 hm
  rw [← e]
  exact h.gf v hv
set_option maxRecDepth 100000 in
set_option maxHeartbeats 4000000 in
theorem copy_any {B b : Nat} {gv wv : Value} {G : List GrV} {V : List WtV} (w : World) (h : BankW w B b gv wv G V) (hwf : ∀ v ∈ V, WtFit v.g) :
    Calls Try.prog 24 #[.pointer (some ⟨b, 0, none⟩)] w fun e w' => ∃ c gv' wv' G' V', e = .returned (.pointer (some ⟨c, 0, none⟩)) ∧ Hid (BankW w' w.heap.size c gv' wv' G' V' ∧ G'.map (·.g) = G.map (·.g) ∧ V'.map (·.g) = V.map (·.g) ∧ Below w.heap.size w w') := by
  have HK : Hid (BankW w B b gv wv G V ∧ ∀ v ∈ V, WtFit v.g) := ⟨h, hwf⟩
  clear h hwf
  go_enter Try.func24, Try.ntmps24
  go_wp2_with fail
  refine (grants_any _ HK.out.1).mono ?_
  rintro e w1 ⟨⟨val, us, rfl, h1, h2, h3⟩, hb1⟩
  obtain ⟨p, n, c, rfl⟩ := form16 h1
  have HG1 : Hid (Below w.heap.size w w1 ∧ CpG w1 w.heap.size (G.map (·.g)) (.slice p n c) us) := ⟨hb1, ⟨h1, h2, h3⟩⟩
  clear h1 h2 h3 hb1
  go_wp2_with fail
  refine (waits_any _ (HK.out.1.below HG1.out.1) HK.out.2).mono ?_
  rintro e w2 ⟨⟨val, vs, rfl, h1, h2, h3⟩, hb2⟩
  obtain ⟨q, m, d, rfl⟩ := form16 h1
  have HE : Hid (BankW (w2.alloc (.cells #[.slice p n c, .slice q m d] 52)) w.heap.size w2.heap.size (.slice p n c) (.slice q m d) us vs ∧ Below w.heap.size w (w2.alloc (.cells #[.slice p n c, .slice q m d] 52))) :=
    cpy_bank HK.out.1 (HG1.out.1.trans (hb2.mono HG1.out.1.size)) (HG1.out.2.below hb2) ((CpW.mk h1 h2 h3).mono HG1.out.1.size)
  have HF : Hid (us.map (·.g) = G.map (·.g) ∧ vs.map (·.g) = V.map (·.g)) := ⟨HG1.out.2.all, h2⟩
  clear h1 h2 h3 hb2
  go_wp2
  go_ret
  exact ⟨_, _, _, _, _, rfl, ⟨HE.out.1, HF.out.1, HF.out.2, HE.out.2⟩⟩
end Go.Proofs.Ytjadmldnpdmamaa

/- bank.Sweep's two closures, and what they leave of a bank's rows. -/
namespace Go.Proofs.Ytjadmldnpdmamaa
open Go.RowKit
set_option linter.unusedVariables false

/-- Whether cells begin with an origin. -/
def orgAt (o : OrgV) : List Value → Bool
  | .bool s :: .string h :: .int _ n :: _ => orgB ⟨s, h, n⟩ o
  | _ => false
def BoxO (w : World) (a : Nat) (o : OrgV) : Prop := w.heap[a]? = some (.cells #[.bool o.sec, .string o.host, .int .i64 o.port] 24 (0, 0))
set_option maxRecDepth 100000 in
set_option maxHeartbeats 4000000 in
theorem swG_is (v : GrV) (o : OrgV) (a : Nat) (w : World) (hb : BoxO w a o) :
    Calls Try.prog 41 #[.agg (grCells v).toArray, .pointer (some ⟨a, 0, none⟩)] w fun e w' => e = .returned (.bool (orgB v.g.org o)) ∧ Below w.heap.size w w' := by
  have hbb : Below w.heap.size w (w.alloc (.cells (grCells v).toArray 36)) := (Below.refl _ _).alloc (Nat.le_refl _) _
  have hb2 := (hbb.block _ (Array.getElem?_eq_some_iff.1 hb).1).trans hb
  have hn := heap_alloc_new w (.cells (grCells v).toArray 36)
  have HB : Hid (Below w.heap.size w (w.alloc (.cells (grCells v).toArray 36))) := hbb
  unfold grCells at hbb hb2 hn HB ⊢
  have c0 := (cell_of (i := 0) hb2)
  have c1 := (cell_of (i := 1) hb2)
  have c2 := (cell_of (i := 2) hb2)
  have n0 := cell_of (i := 0) hn
  have n1 := cell_of (i := 1) hn
  have n2 := cell_of (i := 2) hn
  simp only [List.getElem?_toArray, List.getElem?_cons_zero, List.getElem?_cons_succ] at c0 c1 c2 n0 n1 n2
  have e1 := eqOrg v.g.org o (orgB v.g.org o) rfl
  clear hb hb2 hn hbb
  go_enter Try.func41, Try.ntmps41
  obtain ⟨E1, h1⟩ : ∃ E, orgB v.g.org o = E := ⟨_, rfl⟩
  rw [h1] at e1 ⊢
  clear h1
  go_wp2
  go_ret
  exact ⟨rfl, HB.out⟩
set_option maxRecDepth 100000 in
set_option maxHeartbeats 4000000 in
theorem swW_is (v : WtV) (o : OrgV) (a : Nat) (w : World) (hb : BoxO w a o) :
    Calls Try.prog 43 #[.agg (wtCells v).toArray, .pointer (some ⟨a, 0, none⟩)] w fun e w' => e = .returned (.bool (orgB v.g.org o)) ∧ Below w.heap.size w w' := by
  have hbb : Below w.heap.size w (w.alloc (.cells (wtCells v).toArray 38)) := (Below.refl _ _).alloc (Nat.le_refl _) _
  have hb2 := (hbb.block _ (Array.getElem?_eq_some_iff.1 hb).1).trans hb
  have hn := heap_alloc_new w (.cells (wtCells v).toArray 38)
  have HB : Hid (Below w.heap.size w (w.alloc (.cells (wtCells v).toArray 38))) := hbb
  unfold wtCells at hbb hb2 hn HB ⊢
  have c0 := (cell_of (i := 0) hb2)
  have c1 := (cell_of (i := 1) hb2)
  have c2 := (cell_of (i := 2) hb2)
  have n0 := cell_of (i := 0) hn
  have n1 := cell_of (i := 1) hn
  have n2 := cell_of (i := 2) hn
  simp only [List.getElem?_toArray, List.getElem?_cons_zero, List.getElem?_cons_succ] at c0 c1 c2 n0 n1 n2
  have e1 := eqOrg v.g.org o (orgB v.g.org o) rfl
  clear hb hb2 hn hbb
  go_enter Try.func43, Try.ntmps43
  obtain ⟨E1, h1⟩ : ∃ E, orgB v.g.org o = E := ⟨_, rfl⟩
  rw [h1] at e1 ⊢
  clear h1
  go_wp2
  go_ret
  exact ⟨rfl, HB.out⟩
theorem swG_pred {w : World} {val : Value} {G : List GrV} {B a : Nat} {o : OrgV} (hown : OwnK 16 36 w B val (G.map grCells)) (hx : BoxO w a o) :
    PredK Try.prog 41 #[.pointer (some ⟨a, 0, none⟩)] (orgAt o) (G.map grCells) w val.ownBlock := by
  intro W x hm hg
  obtain ⟨v, hv, rfl⟩ := List.mem_map.1 hm
  exact swG_is v o a W (block_other hx hg hown.typed (by decide))
theorem swW_pred {w : World} {val : Value} {V : List WtV} {B a : Nat} {o : OrgV} (hown : OwnK 13 38 w B val (V.map wtCells)) (hx : BoxO w a o) :
    PredK Try.prog 43 #[.pointer (some ⟨a, 0, none⟩)] (orgAt o) (V.map wtCells) w val.ownBlock := by
  intro W x hm hg
  obtain ⟨v, hv, rfl⟩ := List.mem_map.1 hm
  exact swW_is v o a W (block_other hx hg hown.typed (by decide))
theorem swG_map (o : OrgV) (G : List GrV) : (G.map grCells).filter (fun y => !orgAt o y) = (G.filter (fun v => !orgB v.g.org o)).map grCells := by
  rw [List.filter_map]
  rfl
theorem swW_map (o : OrgV) (V : List WtV) : (V.map wtCells).filter (fun y => !orgAt o y) = (V.filter (fun v => !orgB v.g.org o)).map wtCells := by
  rw [List.filter_map]
  rfl
/-- The row of waits without an origin's. -/
theorem swW_del {B a : Nat} {V : List WtV} {wv : Value} {o : OrgV} (hl : V.length ≤ 8) (w : World) (h : OwnK 13 38 w B wv (V.map wtCells)) (hx : BoxO w a o) :
    Calls Try.prog 42 #[wv, .func (.func 43) #[] #[.pointer (some ⟨a, 0, none⟩)]] w fun e w' => ∃ p m c, e = .returned (.slice p m c) ∧ Hid (OwnK 13 38 w' B (.slice p m c) ((V.filter (fun v => !orgB v.g.org o)).map wtCells) ∧ w.grownBy w' wv.ownBlock ∧ (Value.slice p m c).ownBlock = wv.ownBlock ∧ (V.filter (fun v => !orgB v.g.org o)).length = m) := by
  have hp := swW_pred h hx
  rcases h.forms with ⟨e, e2⟩ | ⟨g, cap, e, _, _, _, _⟩
  · subst e
    refine (dlfW_none _ _).mono ?_
    rintro e w' ⟨rfl, rfl⟩
    have h0 : V = [] := List.map_eq_nil_iff.1 e2
    subst h0
    exact ⟨_, _, _, rfl, ⟨h, ⟨rfl, rfl, rfl, Nat.le_refl _, fun _ _ _ => rfl⟩, rfl, rfl⟩⟩
  · subst e
    refine (dlfW_any g _ cap B _ rfl (by rw [List.length_map]; omega) w h _ _ _ (enters_at Try.func43 (by kernel_rfl) rfl) hp).mono ?_
    rintro e w' ⟨m, rfl, H⟩
    obtain ⟨h1, h2, h3⟩ := H.out
    rw [swW_map] at h1 h2
    rw [List.length_map] at h2
    exact ⟨_, _, _, rfl, ⟨h1, h3, rfl, h2⟩⟩
/-- The row of grants without an origin's. -/
theorem swG_del {B a : Nat} {V : List GrV} {wv : Value} {o : OrgV} (hl : V.length ≤ 8) (w : World) (h : OwnK 16 36 w B wv (V.map grCells)) (hx : BoxO w a o) :
    Calls Try.prog 17 #[wv, .func (.func 41) #[] #[.pointer (some ⟨a, 0, none⟩)]] w fun e w' => ∃ p m c, e = .returned (.slice p m c) ∧ Hid (OwnK 16 36 w' B (.slice p m c) ((V.filter (fun v => !orgB v.g.org o)).map grCells) ∧ w.grownBy w' wv.ownBlock ∧ (Value.slice p m c).ownBlock = wv.ownBlock ∧ (V.filter (fun v => !orgB v.g.org o)).length = m) := by
  have hp := swG_pred h hx
  rcases h.forms with ⟨e, e2⟩ | ⟨g, cap, e, _, _, _, _⟩
  · subst e
    refine (dlfG_none _ _).mono ?_
    rintro e w' ⟨rfl, rfl⟩
    have h0 : V = [] := List.map_eq_nil_iff.1 e2
    subst h0
    exact ⟨_, _, _, rfl, ⟨h, ⟨rfl, rfl, rfl, Nat.le_refl _, fun _ _ _ => rfl⟩, rfl, rfl⟩⟩
  · subst e
    refine (dlfG_any g _ cap B _ rfl (by rw [List.length_map]; omega) w h _ _ _ (enters_at Try.func41 (by kernel_rfl) rfl) hp).mono ?_
    rintro e w' ⟨m, rfl, H⟩
    obtain ⟨h1, h2, h3⟩ := H.out
    rw [swG_map] at h1 h2
    rw [List.length_map] at h2
    exact ⟨_, _, _, rfl, ⟨h1, h3, rfl, h2⟩⟩
end Go.Proofs.Ytjadmldnpdmamaa

/- bank.Sweep: all of an origin's go. -/
namespace Go.Proofs.Ytjadmldnpdmamaa
open Go.RowKit
set_option linter.unusedVariables false

/-- The bank behind Sweep. -/
def SwpAns (w : World) (B b : Nat) (gv wv : Value) (G : List GrP) (V : List WtP) (o : OrgV) (e : Ending) (w' : World) : Prop :=
  e = .returned (.int .i64 ((G.length : Int) - ((G.filter (fun g => !orgB g.org o)).length : Int))) ∧ ∃ gv' wv' G' V', Hid (BankW w' B b gv' wv' G' V' ∧ G'.map (·.g) = G.filter (fun g => !orgB g.org o) ∧ V'.map (·.g) = V.filter (fun v => !orgB v.org o) ∧ BankStep b gv wv w w' gv' wv')
set_option maxRecDepth 100000 in
set_option maxHeartbeats 4000000 in
theorem sweep_any {B b : Nat} {gv wv : Value} {G : List GrV} {V : List WtV} (w : World) (h : BankW w B b gv wv G V) (hB : B ≤ w.heap.size) (o : OrgV) :
    Calls Try.prog 14 #[.pointer (some ⟨b, 0, none⟩), .agg #[.bool o.sec, .string o.host, .int .i64 o.port]] w fun e w' => SwpAns w B b gv wv (G.map (·.g)) (V.map (·.g)) o e w' := by
  have HK : Hid (BankW w B b gv wv G V ∧ B ≤ w.heap.size) := ⟨h, hB⟩
  have hb1 : Below w.heap.size w (w.alloc (.cells #[.bool o.sec, .string o.host, .int .i64 o.port] 24)) := (Below.refl _ _).alloc (Nat.le_refl _) _
  have h1 := h.below hb1
  have hx1 : BoxO (w.alloc (.cells #[.bool o.sec, .string o.host, .int .i64 o.port] 24)) w.heap.size o := heap_alloc_new w _
  obtain ⟨W1, hW1⟩ : ∃ W1, W1 = w.alloc (.cells #[.bool o.sec, .string o.host, .int .i64 o.port] 24) := ⟨_, rfl⟩
  have hcb := cell_of (i := 0) h1.blk
  have hcw := cell_of (i := 1) h1.blk
  simp only [List.getElem?_toArray, List.getElem?_cons_zero, List.getElem?_cons_succ] at hcb hcw
  have H1 : Hid (BankW (w.alloc (.cells #[.bool o.sec, .string o.host, .int .i64 o.port] 24)) B b gv wv G V ∧ BoxO (w.alloc (.cells #[.bool o.sec, .string o.host, .int .i64 o.port] 24)) w.heap.size o ∧ Below w.heap.size w (w.alloc (.cells #[.bool o.sec, .string o.host, .int .i64 o.port] 24))) := ⟨h1, hx1, hb1⟩
  clear h1 hx1 hb1 h hB hW1 W1
  go_enter Try.func14, Try.ntmps14
  obtain ⟨pg, n, cg, e, hn⟩ : ∃ p n c, gv = .slice p n c ∧ G.length = n := by
    rcases HK.out.1.gs.forms with ⟨e, e2⟩ | ⟨g, cap, e, _, _, _, _⟩
    · exact ⟨_, _, _, e, by rw [List.map_eq_nil_iff.1 e2]; rfl⟩
    · exact ⟨_, _, _, e, by rw [List.length_map]⟩
  have HN : Hid (G.length = n ∧ n ≤ 8) := ⟨hn, by rw [← hn]; exact HK.out.1.glen⟩
  subst e
  clear hn
  have hdel := swG_del HK.out.1.glen _ H1.out.1.gs H1.out.2.1
  go_wp2_with fail
  refine hdel.mono ?_
  rintro e w2 ⟨p2, m, c2, rfl, H2⟩
  have hb2 := block_other H1.out.1.blk H2.out.2.1 H1.out.1.gs.typed (by decide)
  have hblt : b < w.heap.size := (Array.getElem?_eq_some_iff.1 HK.out.1.blk).1
  have H3 : Hid ((BankW (w2.setCell ⟨b, 0, none⟩ (.slice p2 m c2)) B b (.slice p2 m c2) wv (G.filter (fun v => !orgB v.g.org o)) V ∧ BankStep b (.slice pg n cg) wv w (w2.setCell ⟨b, 0, none⟩ (.slice p2 m c2)) (.slice p2 m c2) wv) ∧ BoxO (w2.setCell ⟨b, 0, none⟩ (.slice p2 m c2)) w.heap.size o ∧ (G.filter (fun v => !orgB v.g.org o)).length = m) := by
    refine ⟨bank_grants HK.out.1 H1.out.2.2 H2.out.2.1 H2.out.1 (fun k hk => .inl (H2.out.2.2.1 ▸ hk)) (fun v hv => ⟨.inl (List.mem_filter.1 hv).1, HK.out.1.gf v (List.mem_filter.1 hv).1⟩) (Nat.le_trans (List.length_filter_le _ _) HK.out.1.glen), ?_, H2.out.2.2.2⟩
    exact (Below.heap_setCell w2 ⟨b, 0, none⟩ (.slice p2 m c2) w.heap.size (by show w.heap.size ≠ b; omega)).trans (block_other H1.out.2.1 H2.out.2.1 H1.out.1.gs.typed (by decide))
  have c0 := cell_of (i := 0) hb2
  simp only [List.getElem?_toArray, List.getElem?_cons_zero] at c0
  have f2 := free_of hb2
  have c1 := cell_of (i := 1) H3.out.1.1.blk
  simp only [List.getElem?_toArray, List.getElem?_cons_zero, List.getElem?_cons_succ] at c1
  have hdel2 := swW_del H3.out.1.1.vlen _ H3.out.1.1.ws H3.out.2.1
  clear hdel hb2 hcb hcw
  go_wp2_with fail
  refine hdel2.mono ?_
  rintro e w4 ⟨p4, m4, c4, rfl, H4⟩
  have hb4 := block_other H3.out.1.1.blk H4.out.2.1 H3.out.1.1.ws.typed (by decide)
  have H5 : Hid (BankW (w4.setCell ⟨b, 1, none⟩ (.slice p4 m4 c4)) B b (.slice p2 m c2) (.slice p4 m4 c4) (G.filter (fun v => !orgB v.g.org o)) (V.filter (fun v => !orgB v.g.org o)) ∧ BankStep b (.slice p2 m c2) wv (w2.setCell ⟨b, 0, none⟩ (.slice p2 m c2)) (w4.setCell ⟨b, 1, none⟩ (.slice p4 m4 c4)) (.slice p2 m c2) (.slice p4 m4 c4)) :=
    bank_waits H3.out.1.1 (Below.refl _ _) H4.out.2.1 H4.out.1 (fun k hk => .inl (H4.out.2.2.1 ▸ hk)) (fun v hv => .inl (List.mem_filter.1 hv).1) (Nat.le_trans (List.length_filter_le _ _) H3.out.1.1.vlen)
  have d1 := cell_of (i := 1) hb4
  have d0 := cell_of (i := 0) H5.out.1.blk
  have f4 := free_of hb4
  simp only [List.getElem?_toArray, List.getElem?_cons_zero, List.getElem?_cons_succ] at d0 d1
  have hn8 : (n : Int) ≤ 8 := by have := HN.out.2; omega
  have hmn : (m : Int) ≤ (n : Int) := by
    have h1 := H3.out.2.2
    have h2 := HN.out.1
    have := List.length_filter_le (fun v : GrV => !orgB v.g.org o) G
    omega
  clear hdel2 hb4 c0 c1 f2
  go_wp2
  go_ret
  refine ⟨?_, _, _, _, _, ⟨H5.out.1, ?_, ?_, H3.out.1.2.trans H5.out.2⟩⟩
  · rw [List.length_map, HN.out.1, List.filter_map, List.length_map]
    rw [← H3.out.2.2]
    rfl
  · rw [List.filter_map]
    rfl
  · rw [List.filter_map]
    rfl
end Go.Proofs.Ytjadmldnpdmamaa

/- The law BankApart, walked. -/
namespace Go.Proofs.Ytjadmldnpdmamaa
open Go.RowKit
set_option linter.unusedVariables false

set_option maxRecDepth 100000 in
set_option maxHeartbeats 4000000 in
theorem bankApart_walk (a0 : Option Addr) (len cap b off : Nat) (gs : List GrA) (hl : len ≤ 9223372036854775807) (hz : ∀ v ∈ gs, GrZ v.g) (a1 : Option Addr) (len1 cap1 b1 off1 : Nat) (ms : List GrA) (hl1 : len1 ≤ 9223372036854775807) (hz1 : ∀ v ∈ ms, GrZ v.g) (w : World) (h : Grs w a0 len b off gs) (h1 : Grs w a1 len1 b1 off1 ms) :
    Calls Try.prog 7 #[.slice a0 len cap, .slice a1 len1 cap1] w fun e w' => e = .returned (.bool true) ∧ Below w.heap.size w w' := by
  have HG : Hid (Grs w a0 len b off gs) := h
  have HM : Hid (Grs w a1 len1 b1 off1 ms) := h1
  have HZ : Hid ((∀ v ∈ gs, GrZ v.g) ∧ ∀ v ∈ ms, GrZ v.g) := ⟨hz, hz1⟩
  clear h h1 hz hz1
  go_enter Try.func7, Try.ntmps7
  go_wp2_with fail
  refine (banked_any _).mono ?_
  rintro e w1 ⟨rfl, hb1⟩
  have HB1 : Hid (Below w.heap.size w w1) := hb1
  clear hb1
  go_wp2_with fail
  refine (held_any a0 len cap b off gs HZ.out.1 hl _ (HG.out.below HB1.out)).mono ?_
  rintro e w2 ⟨⟨t, rfl, ht⟩, hb2⟩
  have HB2 : Hid (Below w.heap.size w w2) := HB1.out.trans (hb2.mono HB1.out.size)
  clear hb2 HB1 hl
  cases t
  · go_wp2
    go_ret
    exact ⟨rfl, HB2.out⟩
  obtain ⟨hn, hsh⟩ := ht rfl
  have HSH : Hid (∀ v ∈ gs, shortB v) := hsh
  clear ht hsh
  go_wp2_with fail
  refine (held_any a1 len1 cap1 b1 off1 ms HZ.out.2 hl1 _ (HM.out.below HB2.out)).mono ?_
  rintro e w3 ⟨⟨t, rfl, ht⟩, hb3⟩
  have HB3 : Hid (Below w.heap.size w w3) := HB2.out.trans (hb3.mono HB2.out.size)
  clear hb3 HB2 hl1
  cases t
  · go_wp2
    go_ret
    exact ⟨rfl, HB3.out⟩
  obtain ⟨hn1, hsh⟩ := ht rfl
  have HSM : Hid (∀ v ∈ ms, shortB v) := hsh
  clear ht hsh
  go_wp2_with fail
  refine (filled_any a0 len cap b off gs HZ.out.1 HSH.out hn _ (HG.out.below HB3.out)).mono ?_
  rintro e w4 ⟨rfl, H4⟩
  obtain ⟨⟨gv, G, hB, hG⟩, hb4⟩ := H4.out
  obtain ⟨lb, HLB⟩ : ∃ x, Hid (w3.heap.size = x) := ⟨_, rfl⟩
  rw [HLB.out] at hB ⊢
  have HB4 : Hid (Below w.heap.size w w4 ∧ BankW w4 lb lb gv (.slice none 0 0) G []) := ⟨HB3.out.trans (hb4.mono HB3.out.size), hB⟩
  clear H4 hB hG hb4 HB3 HLB
  go_wp2_with fail
  refine (copy_any _ HB4.out.2 (fun v hv => by cases hv)).mono ?_
  rintro e w5 ⟨c, gvc, wvc, Gc, Vc, rfl, H5⟩
  obtain ⟨bc, HBC⟩ : ∃ x, Hid (w4.heap.size = x) := ⟨_, rfl⟩
  have HB5 : Hid (Below w.heap.size w w5 ∧ BankW w5 lb lb gv (.slice none 0 0) G [] ∧ BankW w5 bc c gvc wvc Gc Vc ∧ Gc.map (·.g) = G.map (·.g) ∧ bc ≤ w5.heap.size) := ⟨HB4.out.1.trans (H5.out.2.2.2.mono HB4.out.1.size), HB4.out.2.below H5.out.2.2.2, by rw [← HBC.out]; exact H5.out.1, H5.out.2.1, by rw [← HBC.out]; exact H5.out.2.2.2.size⟩
  have HKB : Hid (∀ W, Below bc w5 W → BankW W lb lb gv (.slice none 0 0) G [] ∧ Below w.heap.size w W) := fun W hW => by
    rw [← HBC.out] at hW
    have h45 : Below w4.heap.size w4 W := H5.out.2.2.2.trans hW
    exact ⟨HB4.out.2.below h45, HB4.out.1.trans (h45.mono HB4.out.1.size)⟩
  have hbw : w.heap.size ≤ bc := by rw [← HBC.out]; exact HB4.out.1.size
  clear H5 HBC HB4
  have HFG : Hid (∀ g ∈ G.map (·.g), g.ask.dom.length ≤ 1000 ∧ g.paths.length ≤ 1000) := fun g hg => by
    obtain ⟨v, hv, rfl⟩ := List.mem_map.1 hg
    exact fit_small (HB5.out.2.1.gf v hv)
  have HGL : Hid ((G.map (·.g)).length ≤ 1000) := by have := HB5.out.2.1.glen; show _ ≤ _; rw [List.length_map]; omega
  obtain ⟨s5, HS5⟩ : ∃ x, Hid (w5.heap.size = x) := ⟨_, rfl⟩
  have HGV : Hid (c < s5 ∧ (∀ x, gvc.ownBlock = some x → x < s5) ∧ ∀ x, wvc.ownBlock = some x → x < s5) := by
    rw [← HS5.out]
    exact ⟨(Array.getElem?_eq_some_iff.1 HB5.out.2.2.1.blk).1, fun x e => (HB5.out.2.2.1.gs.lt x e).2, fun x e => (HB5.out.2.2.1.ws.lt x e).2⟩
  go_wp2_with fail
  refine (grants_any _ HB5.out.2.1).mono ?_
  rintro e w6 ⟨⟨wasv, us, rfl, hown6, his6, hea6⟩, hb6⟩
  rw [HS5.out] at hown6 hea6
  have HR6 : Hid (RowG w6 s5 wasv us (G.map (·.g))) := ⟨hown6, his6, hea6⟩
  have HB6 : Hid (Below bc w5 w6) := hb6.mono HB5.out.2.2.2.2
  have hb6' : Hid (BankW w6 bc c gvc wvc Gc Vc) := HB5.out.2.2.1.below hb6
  clear hown6 his6 hea6 hb6 HS5
  go_wp2_with fail
  refine (grants_any _ hb6'.out).mono ?_
  rintro e w7 ⟨⟨cv, us7, rfl, hown7, his7, hea7⟩, hb7⟩
  have HR7 : Hid (RowG w7 s5 wasv us (G.map (·.g)) ∧ ∃ B, RowG w7 B cv us7 (G.map (·.g))) :=
    ⟨HR6.out.below hb7, ⟨_, hown7, his7.trans HB5.out.2.2.2.1, hea7⟩⟩
  have HB7 : Hid (Below bc w5 w7 ∧ BankW w7 bc c gvc wvc Gc Vc) := ⟨HB6.out.trans (hb7.mono (Nat.le_trans HB5.out.2.2.2.2 HB6.out.size)), hb6'.out.below hb7⟩
  clear hown7 his7 hea7 hb7 HR6 HB6 hb6'
  obtain ⟨hr1, B2, hr2⟩ := HR7.out
  go_wp2_with fail
  refine (eqf_rows _ hr2 hr1 HFG.out HGL.out).mono ?_
  rintro e w8 ⟨rfl, hb8⟩
  have HR8 : Hid (RowG w8 s5 wasv us (G.map (·.g))) := hr1.below hb8
  have HB8 : Hid (Below bc w5 w8 ∧ BankW w8 bc c gvc wvc Gc Vc ∧ bc ≤ w8.heap.size) := ⟨HB7.out.1.trans (hb8.mono (Nat.le_trans HB5.out.2.2.2.2 HB7.out.1.size)), HB7.out.2.below hb8, Nat.le_trans HB5.out.2.2.2.2 (Nat.le_trans HB7.out.1.size hb8.size)⟩
  clear hr1 hr2 hb8 HR7 HB7 HB5
  have HLM : Hid (ms.length = len1) := HM.out.len_eq
  go_wp2
  go_loopw [8] (fun i wr => ∃ (k : Nat) (gq wq : Value) (Gq : List GrV) (Vq : List WtV), k ≤ len1 ∧ i = .int .i64 k ∧ Hid (BankW wr bc c gq wq Gq Vq ∧ BankStep c gvc wvc w8 wr gq wq)) (fun i _ => len1 - (intOf i).toNat)
  case atStart => exact ⟨0, gvc, wvc, Gc, Vc, Nat.zero_le _, rfl, HB8.out.2.1, BankStep.of_below (Below.refl _ _)⟩
  case round =>
    obtain ⟨k, gq, wq, Gq, Vq, hk, rfl, HI⟩ := hrel
    have HBE : Hid (Below bc w5 wr ∧ bc ≤ wr.heap.size) := by
      have h8 := step_low HB8.out.2.1 HB8.out.2.2 HI.out.2
      exact ⟨HB8.out.1.trans h8, Nat.le_trans HB8.out.2.2 h8.size⟩
    by_cases hlt : k < len1
    · have hkL : (k : Int) < (len1 : Int) := by omega
      obtain ⟨v, hv⟩ : ∃ v, ms[k]? = some v := ⟨ms[k]'(by have := HLM.out; omega), List.getElem?_eq_getElem _⟩
      have hvm : v ∈ ms := List.mem_of_getElem? hv
      obtain ⟨ha0, _⟩ := HM.out.lies (by omega)
      subst ha0
      have hW := HM.out.below (HKB.out wr HBE.out.1).2
      obtain ⟨c0, c1, c2, c3, c4, c5, c6, c7, c8, c9, c10, c11, c12, c13, c14, c15⟩ := hW.all hv
      have hsh := HSM.out v hvm
      have hcall := put_at v.g (fit_of (HZ.out.2 v hvm) hsh.1 hsh.2) v.da v.pa v.g.ask.dom.length v.dc v.g.paths.length v.pc v.db v.doff v.pb v.poff wr (hW.dom v hvm) (hW.paths v hvm) bc c gq wq Gq Vq HI.out.1 HBE.out.2
      have HALL : Hid (∀ W, Below bc wr W → W.cell? ⟨b1, off1 + k * 16, none⟩ = some (.bool v.g.org.sec) ∧ W.cell? ⟨b1, off1 + k * 16 + 1, none⟩ = some (.string v.g.org.host) ∧ W.cell? ⟨b1, off1 + k * 16 + 2, none⟩ = some (.int .i64 v.g.org.port)) := fun W hWb => by
        have hW2 := HM.out.below (HKB.out W (HBE.out.1.trans hWb)).2
        obtain ⟨d0, d1, d2, _⟩ := hW2.all hv
        exact ⟨d0, d1, d2⟩
      clear hsh
      obtain ⟨⟨⟨os, oh, op⟩, px, us', pw, ⟨sc, re, no, oq, se, qo, st, dm⟩, ct, pt⟩, da, dc, db, doff, pa, pc, pb, poff⟩ := v
      simp only at hcall c0 c1 c2 c3 c4 c5 c6 c7 c8 c9 c10 c11 c12 c13 c14 c15 HALL
      clear hv hvm hW
      go_wp2_with fail
      refine hcall.mono ?_
      rintro e w9 ⟨rfl, gv', G', H'⟩
      have h9 := step_low HI.out.1 HBE.out.2 H'.out.2.2
      have H9 : Hid (BankW w9 bc c gv' wq G' Vq ∧ bc ≤ w9.heap.size ∧ BankStep c gvc wvc w8 w9 gv' wq) := ⟨H'.out.1, Nat.le_trans HBE.out.2 h9.size, HI.out.2.trans H'.out.2.2⟩
      clear c0 c1 c2 c3 c4 c5 c6 c7 c8 c9 c10 c11 c12 c13 c14 c15
      obtain ⟨c0, c1, c2⟩ := HALL.out w9 h9
      clear H' hcall h9
      go_wp2_with fail
      refine (sweep_any _ H9.out.1 H9.out.2.1 ⟨os, oh, op⟩).mono ?_
      rintro e w10 ⟨rfl, gv2, wv2, G2, V2, H2⟩
      have HR : Hid (BankW w10 bc c gv2 wv2 G2 V2 ∧ BankStep c gvc wvc w8 w10 gv2 wv2) := ⟨H2.out.1, H9.out.2.2.trans H2.out.2.2.2⟩
      clear H2 H9 c0 c1 c2 HALL
      go_wp2
      go_roundw
      case rel => exact ⟨k + 1, gv2, wv2, G2, V2, by omega, by go_num, HR.out⟩
      case measure => simp [intOf]; omega
    · have hkL : ¬ (k : Int) < (len1 : Int) := by omega
      have hkb := HKB.out wr HBE.out.1
      have HR9 : Hid (RowG wr s5 wasv us (G.map (·.g))) := HR8.out.step HI.out.2 HGV.out.1 HGV.out.2.1 HGV.out.2.2
      have HKW : Hid (BankW wr lb lb gv (.slice none 0 0) G [] ∧ Below w.heap.size w wr) := hkb
      clear hkb
      go_wp2_with fail
      refine (grants_any _ HKW.out.1).mono ?_
      rintro e w10 ⟨⟨bv, us10, rfl, hown10, his10, hea10⟩, hb10⟩
      have HRA : Hid (RowG w10 s5 wasv us (G.map (·.g)) ∧ RowG w10 wr.heap.size bv us10 (G.map (·.g))) := ⟨HR9.out.below hb10, hown10, his10, hea10⟩
      have HBA : Hid (Below w.heap.size w w10) := HKW.out.2.trans (hb10.mono HKW.out.2.size)
      clear hown10 his10 hea10 hb10
      go_wp2_with fail
      refine (eqf_rows _ HRA.out.2 HRA.out.1 HFG.out HGL.out).mono ?_
      rintro e w11 ⟨rfl, hb11⟩
      have HBZ : Hid (Below w.heap.size w w11) := HBA.out.trans (hb11.mono HBA.out.size)
      clear hb11 HRA HBA
      go_wp2
      go_ret
      exact ⟨rfl, HBZ.out⟩
end Go.Proofs.Ytjadmldnpdmamaa

/- How far the grant reaches that is found. -/
namespace Go.Proofs.Ytjadmldnpdmamaa
open Go.RowKit
set_option linter.unusedVariables false

/-- What stands behind some of a row, of the farthest. -/
def FarI (p : List Int) (s : Int × Int) : Prop := (s.1 = -1 ∧ s.2 = 0 ∧ ∀ r ∈ p, r < 0) ∨ ∃ k : Nat, s.1 = k ∧ p[k]? = some s.2 ∧ 0 ≤ s.2 ∧ ∀ r ∈ p, r ≤ s.2
theorem farGo_inv : ∀ (l p : List Int) (s : Int × Int), FarI p s → FarI (p ++ l) (farGo l p.length s)
  | [], p, s, h => by rw [List.append_nil]; exact h
  | r :: t, p, s, h => by
    have key : FarI (p ++ [r]) (if s.2 ≤ r then ((p.length : Int), r) else s) := by
      by_cases hc : s.2 ≤ r
      · rw [if_pos hc]
        refine .inr ⟨p.length, rfl, by simp, ?_, fun x hx => ?_⟩
        · rcases h with ⟨_, h2, _⟩ | ⟨k, _, _, h3, _⟩
          · show 0 ≤ r; omega
          · show 0 ≤ r; omega
        · show x ≤ r
          rcases List.mem_append.1 hx with hx | hx
          · rcases h with ⟨_, h2, h3⟩ | ⟨k, _, _, h3, h4⟩
            · have := h3 x hx; omega
            · have := h4 x hx; omega
          · rw [List.mem_singleton.1 hx]; exact Int.le_refl _
      · rw [if_neg hc]
        rcases h with ⟨h1, h2, h3⟩ | ⟨k, h1, h2, h3, h4⟩
        · refine .inl ⟨h1, h2, fun x hx => ?_⟩
          rcases List.mem_append.1 hx with hx | hx
          · exact h3 x hx
          · rw [List.mem_singleton.1 hx]; omega
        · refine .inr ⟨k, h1, ?_, h3, fun x hx => ?_⟩
          · rw [List.getElem?_append_left (List.getElem?_eq_some_iff.1 h2).1]; exact h2
          · rcases List.mem_append.1 hx with hx | hx
            · exact h4 x hx
            · rw [List.mem_singleton.1 hx]; omega
    have := farGo_inv t (p ++ [r]) _ key
    rw [List.append_assoc, List.length_append] at this
    exact this
theorem fold_ge (path : ByteArray) : ∀ (l : List ByteArray) (m : Int), -1 ≤ m → -1 ≤ l.foldl (farStep path) m
  | [], m, h => h
  | s :: l, m, h => fold_ge path l _ (by unfold farStep; split <;> omega)
theorem reach_ge (o : OrgV) (p : Bool) (path : ByteArray) (g : GrP) : -1 ≤ reachI o p path g := by
  unfold reachI
  split
  · exact fold_ge path _ _ (Int.le_refl _)
  · exact Int.le_refl _
theorem reach_zero (o : OrgV) (p : Bool) (path : ByteArray) : reachI o p path zeroP = -1 := by
  unfold reachI
  split <;> rfl
/-- The grant that counts reaches farthest. -/
theorem find_far (G : List GrP) (o : OrgV) (p : Bool) (path : ByteArray) : (0 ≤ findI G o p path → 0 ≤ reachI o p path (toldL G (findI G o p path))) ∧ ∀ g ∈ G, reachI o p path g ≤ reachI o p path (toldL G (findI G o p path)) := by
  have h := farGo_inv (G.map (reachI o p path)) [] (-1, 0) (.inl ⟨rfl, rfl, fun r hr => by cases hr⟩)
  rw [List.nil_append] at h
  have hI : findI G o p path = (farGo (G.map (reachI o p path)) 0 (-1, 0)).1 := rfl
  rw [hI]
  simp only [List.length_nil] at h
  rcases h with ⟨h1, _, h3⟩ | ⟨k, h1, h2, h3, h4⟩
  · rw [h1]
    refine ⟨fun h => absurd h (by decide), fun g hg => ?_⟩
    have := h3 _ (List.mem_map.2 ⟨g, hg, rfl⟩)
    have hz : toldL G (-1) = zeroP := rfl
    rw [hz, reach_zero]
    omega
  · rw [h1]
    rw [List.getElem?_map] at h2
    obtain ⟨g, hg, hr⟩ := Option.map_eq_some_iff.1 h2
    have ht : toldL G (k : Int) = g := by
      unfold toldL
      rw [if_neg (by omega), Int.toNat_natCast, hg]
      rfl
    rw [ht, hr]
    exact ⟨fun _ => h3, fun x hx => h4 _ (List.mem_map.2 ⟨x, hx, rfl⟩)⟩
theorem told_fit {l : List GrP} {i : Int} (h : ∀ y ∈ l, y.paths.length ≤ 1000) : (toldL l i).paths.length ≤ 1000 := by
  unfold toldL
  split
  · decide
  · cases hx : l[i.toNat]? with
    | none => decide
    | some y => exact h y (List.mem_of_getElem? hx)
end Go.Proofs.Ytjadmldnpdmamaa

/- The law BankSwept, walked. -/
namespace Go.Proofs.Ytjadmldnpdmamaa
open Go.RowKit
set_option linter.unusedVariables false

theorem wtfit_of {g : GrP} (h : GrZ g) (h1 : g.ask.dom.length ≤ 6) (p : ByteArray) (hp : p.size ≤ 140737488355328) : WtFit (wtOf p g) := by
  obtain ⟨a1, a2, a3, a4, a5, a6, a7, a8, a9, a10⟩ := h
  exact ⟨a1, hp, a4, a5, a6, a7, by show g.ask.dom.length ≤ 1000; omega, a8⟩
/-- The cells of a grant of a row that a wait is made of. -/
theorem Grs.ask {w : World} {a0 : Option Addr} {len b off : Nat} {gs : List GrA} (h : Grs w a0 len b off gs) {k : Nat} {v : GrA} (hk : gs[k]? = some v) : w.cell? ⟨b, off + k * 16, none⟩ = some (.bool v.g.org.sec) ∧ w.cell? ⟨b, off + k * 16 + 1, none⟩ = some (.string v.g.org.host) ∧ w.cell? ⟨b, off + k * 16 + 2, none⟩ = some (.int .i64 v.g.org.port) ∧ w.cell? ⟨b, off + k * 16 + 3, none⟩ = some (.bool v.g.proxy) ∧ w.cell? ⟨b, off + k * 16 + 6, none⟩ = some (.int .i64 v.g.ask.sch) ∧ w.cell? ⟨b, off + k * 16 + 7, none⟩ = some (.string v.g.ask.realm) ∧ w.cell? ⟨b, off + k * 16 + 8, none⟩ = some (.string v.g.ask.nonce) ∧ w.cell? ⟨b, off + k * 16 + 9, none⟩ = some (.string v.g.ask.opq) ∧ w.cell? ⟨b, off + k * 16 + 10, none⟩ = some (.bool v.g.ask.sess) ∧ w.cell? ⟨b, off + k * 16 + 11, none⟩ = some (.string v.g.ask.qop) ∧ w.cell? ⟨b, off + k * 16 + 12, none⟩ = some (.bool v.g.ask.stale) ∧ w.cell? ⟨b, off + k * 16 + 13, none⟩ = some (.slice v.da v.g.ask.dom.length v.dc) := by
  obtain ⟨c0, c1, c2, c3, c4, c5, c6, c7, c8, c9, c10, c11, c12, c13, c14, c15⟩ := h.all hk
  exact ⟨c0, c1, c2, c3, c6, c7, c8, c9, c10, c11, c12, c13⟩
/-- Nothing is left to be taken. -/
theorem take_nothing {B b : Nat} {gv wv : Value} {G : List GrV} {V : List WtV} (w : World) (h : BankW w B b gv wv G V) (hB : B ≤ w.heap.size) (o : OrgV) (p : Bool) (F : List WtP) (hV : V.map (·.g) = F) (hF : takeI F o p = -1) :
    Calls Try.prog 16 #[.pointer (some ⟨b, 0, none⟩), .agg #[.bool o.sec, .string o.host, .int .i64 o.port], .bool p] w fun e w' => (∃ ya yc, e = .returned (.tuple #[.agg #[.bool false, .string ⟨#[]⟩, .int .i64 0, .bool false, .string ⟨#[]⟩, .int .i64 0, .string ⟨#[]⟩, .string ⟨#[]⟩, .string ⟨#[]⟩, .bool false, .string ⟨#[]⟩, .bool false, .slice ya 0 yc], .bool false])) ∧ ∃ wv' V', Hid (BankW w' B b gv wv' G V' ∧ V'.map (·.g) = F ∧ BankStep b gv wv w w' gv wv') := by
  have ht := take_any w h hB o p
  rw [hV, hF] at ht
  refine ht.mono ?_
  rintro e w' ⟨⟨x, rfl, hx, hxo⟩, wv', V', H⟩
  obtain ⟨ta, tc, tg, hdv, hds⟩ := OwnS.strs hxo
  obtain ⟨xg, xd⟩ := x
  rw [show takeL F (-1) = (F, zeroWP) from rfl] at hx H
  simp only at hx hdv
  subst hx
  subst hdv
  exact ⟨⟨ta, tc, rfl⟩, wv', V', H⟩
theorem takeI_none {l : List WtP} {o : OrgV} (h : ∀ v ∈ l, orgB v.org o = false) (p : Bool) : takeI l o p = -1 := by
  have hn : l.findIdx? (waitB o p) = none := by
    rw [List.findIdx?_eq_none_iff]
    intro v hv
    unfold waitB
    rw [h v hv]
    rfl
  unfold takeI
  rw [hn]
theorem findI_none {l : List GrP} {o : OrgV} (h : ∀ v ∈ l, orgB v.org o = false) (p : Bool) (path : ByteArray) : findI l o p path = -1 := by
  rcases findI_range l o p path with e | ⟨k, e, hk⟩
  · exact e
  · exfalso
    have hf := (find_far l o p path).1
    rw [e] at hf
    have h1 := hf (by omega)
    have ht : toldL l (k : Int) = l[k] := by
      unfold toldL
      rw [if_neg (by omega), Int.toNat_natCast, List.getElem?_eq_getElem hk]
      rfl
    rw [ht] at h1
    unfold reachI at h1
    rw [h _ (List.getElem_mem hk)] at h1
    simp at h1
/-- Nothing is found. -/
theorem find_nothing {B b : Nat} {gv wv : Value} {G : List GrV} {V : List WtV} (w : World) (h : BankW w B b gv wv G V) (o : OrgV) (p : Bool) (path : ByteArray) (hG : ∀ g ∈ G.map (·.g), orgB g.org o = false) :
    Calls Try.prog 15 #[.pointer (some ⟨b, 0, none⟩), .agg #[.bool o.sec, .string o.host, .int .i64 o.port], .bool p, .string path] w fun e w' => (∃ ya yc za zc, e = .returned (.tuple #[.agg #[.bool false, .string ⟨#[]⟩, .int .i64 0, .bool false, .string ⟨#[]⟩, .string ⟨#[]⟩, .int .i64 0, .string ⟨#[]⟩, .string ⟨#[]⟩, .string ⟨#[]⟩, .bool false, .string ⟨#[]⟩, .bool false, .slice ya 0 yc, .int .i64 0, .slice za 0 zc], .bool false])) ∧ Below w.heap.size w w' := by
  have ht := find_any w h o p path
  rw [findI_none hG p path] at ht
  refine ht.mono ?_
  rintro e w' ⟨⟨x, rfl, hx, hxo⟩, hb⟩
  obtain ⟨da, dc, dg, hdv, _⟩ := hxo.dom.strs
  obtain ⟨pa, pc, pg, hpv, _⟩ := hxo.paths.strs
  obtain ⟨xg, xd, xp⟩ := x
  rw [show toldL (G.map (·.g)) (-1) = zeroP from rfl] at hx
  simp only at hx hdv hpv
  subst hx
  subst hdv
  subst hpv
  exact ⟨⟨da, dc, pa, pc, rfl⟩, hb⟩
set_option maxRecDepth 100000 in
set_option maxHeartbeats 4000000 in
theorem swL_is (v : GrV) (o : OrgV) (a : Nat) (w : World) (hb : BoxO w a o) :
    Calls Try.prog 18 #[.agg (grCells v).toArray, .pointer (some ⟨a, 0, none⟩)] w fun e w' => e = .returned (.bool (orgB v.g.org o)) ∧ Below w.heap.size w w' := by
  have hbb : Below w.heap.size w (w.alloc (.cells (grCells v).toArray 36)) := (Below.refl _ _).alloc (Nat.le_refl _) _
  have hb2 := (hbb.block _ (Array.getElem?_eq_some_iff.1 hb).1).trans hb
  have hn := heap_alloc_new w (.cells (grCells v).toArray 36)
  have HB : Hid (Below w.heap.size w (w.alloc (.cells (grCells v).toArray 36))) := hbb
  unfold grCells at hbb hb2 hn HB ⊢
  have c0 := (cell_of (i := 0) hb2)
  have c1 := (cell_of (i := 1) hb2)
  have c2 := (cell_of (i := 2) hb2)
  have n0 := cell_of (i := 0) hn
  have n1 := cell_of (i := 1) hn
  have n2 := cell_of (i := 2) hn
  simp only [List.getElem?_toArray, List.getElem?_cons_zero, List.getElem?_cons_succ] at c0 c1 c2 n0 n1 n2
  have e1 := eqOrg v.g.org o (orgB v.g.org o) rfl
  clear hb hb2 hn hbb
  go_enter Try.func18, Try.ntmps18
  obtain ⟨E1, h1⟩ : ∃ E, orgB v.g.org o = E := ⟨_, rfl⟩
  rw [h1] at e1 ⊢
  clear h1
  go_wp2
  go_ret
  exact ⟨rfl, HB.out⟩
/-- A row of a call's own without an origin's. -/
theorem swL_del {s a : Nat} {us : List GrV} {l : List GrP} {bv : Value} {o : OrgV} (hl : us.length ≤ 1000) (w : World) (h : RowG w s bv us l) (hx : BoxO w a o) :
    Calls Try.prog 17 #[bv, .func (.func 18) #[] #[.pointer (some ⟨a, 0, none⟩)]] w fun e w' => ∃ p m c, e = .returned (.slice p m c) ∧ Hid (RowG w' s (.slice p m c) (us.filter (fun v => !orgB v.g.org o)) (l.filter (fun v => !orgB v.org o)) ∧ w.grownBy w' bv.ownBlock) := by
  have hp : PredK Try.prog 18 #[.pointer (some ⟨a, 0, none⟩)] (orgAt o) (us.map grCells) w bv.ownBlock := by
    intro W x hm hg
    obtain ⟨v, hv, rfl⟩ := List.mem_map.1 hm
    exact swL_is v o a W (block_other hx hg h.own.typed (by decide))
  have hml : (us.filter (fun v => !orgB v.g.org o)).map (·.g) = l.filter (fun v => !orgB v.org o) := by
    rw [← h.is, List.filter_map]
    rfl
  rcases h.own.forms with ⟨e, e2⟩ | ⟨g, cap, e, _, _, _, _⟩
  · subst e
    refine (dlfG_none _ _).mono ?_
    rintro e w' ⟨rfl, rfl⟩
    have h0 : us = [] := List.map_eq_nil_iff.1 e2
    subst h0
    exact ⟨_, _, _, rfl, ⟨⟨h.own, hml, h.each⟩, ⟨rfl, rfl, rfl, Nat.le_refl _, fun _ _ _ => rfl⟩⟩⟩
  · subst e
    refine (dlfG_any g _ cap s _ rfl (by rw [List.length_map]; omega) w h.own _ _ _ (enters_at Try.func18 (by kernel_rfl) rfl) hp).mono ?_
    rintro e w' ⟨m, rfl, H⟩
    obtain ⟨h1, h2, h3⟩ := H.out
    rw [swG_map] at h1
    exact ⟨_, _, _, rfl, ⟨⟨h1, hml, fun u hu => (h.each u (List.mem_filter.1 hu).1).other h3 h.own.typed (by decide)⟩, h3⟩⟩
/-- What the law has in hand behind the sweep. -/
structure SwS (w0 w6 w : World) (gv wv : Value) (G : List GrV) (V : List WtV) (av : Value) (ut : List GrV) (m : List GrP) : Prop where
  low : Below w0.heap.size w0 w
  bank : BankW w w0.heap.size w0.heap.size gv wv G V
  sin : Below w6.heap.size w6 w
  aft : RowG w w6.heap.size av ut m
theorem SwS.below {w0 w6 w w' : World} {gv wv : Value} {G : List GrV} {V : List WtV} {av : Value} {ut : List GrV} {m : List GrP} (h : SwS w0 w6 w gv wv G V av ut m) (hb : Below w.heap.size w w') : SwS w0 w6 w' gv wv G V av ut m :=
  ⟨h.low.trans (hb.mono h.low.size), h.bank.below hb, h.sin.trans (hb.mono h.sin.size), h.aft.below hb⟩
theorem SwS.alloc {w0 w6 w : World} {gv wv : Value} {G : List GrV} {V : List WtV} {av : Value} {ut : List GrV} {m : List GrP} (h : SwS w0 w6 w gv wv G V av ut m) (x : Obj) : SwS w0 w6 (w.alloc x) gv wv G V av ut m :=
  h.below ((Below.refl _ _).alloc (Nat.le_refl _) _)
set_option maxRecDepth 100000 in
set_option maxHeartbeats 8000000 in
theorem bankSwept_walk (a0 : Option Addr) (len cap b off : Nat) (gs : List GrA) (hl : len ≤ 9223372036854775807) (hz : ∀ v ∈ gs, GrZ v.g) (os : Bool) (oh : ByteArray) (op : Int) (path : ByteArray) (hpz : path.size ≤ 140737488355328) (w : World) (h : Grs w a0 len b off gs) :
    Calls Try.prog 3 #[.slice a0 len cap, .agg #[.bool os, .string oh, .int .i64 op], .string path] w fun e w' => e = .returned (.bool true) ∧ Below w.heap.size w w' := by
  have HG : Hid (Grs w a0 len b off gs) := h
  have HZ : Hid (∀ v ∈ gs, GrZ v.g) := hz
  have hb0 : Below w.heap.size w (w.alloc (.cells #[.bool os, .string oh, .int .i64 op] 24)) := (Below.refl _ _).alloc (Nat.le_refl _) _
  have hn0 := heap_alloc_new w (.cells #[.bool os, .string oh, .int .i64 op] 24)
  have hsz0 : (w.alloc (.cells #[.bool os, .string oh, .int .i64 op] 24)).heap.size = w.heap.size + 1 := by simp
  clear h hz
  go_enter Try.func3, Try.ntmps3
  go_wp2_with fail
  generalize hW0 : w.alloc (.cells #[.bool os, .string oh, .int .i64 op] 24) = W0 at hb0 hn0 hsz0 ⊢
  clear hW0
  have HO : Hid (∀ W, Below W0.heap.size W0 W → W.heap[w.heap.size]? = some (.cells #[.bool os, .string oh, .int .i64 op] 24 (0, 0)) ∧ Below w.heap.size w W) := fun W hW => ⟨(hW.block _ (by omega)).trans hn0, hb0.trans (hW.mono hb0.size)⟩
  clear hb0 hn0 hsz0
  refine (banked_any _).mono ?_
  rintro e w1 ⟨rfl, hb1⟩
  have HB1 : Hid (Below W0.heap.size W0 w1) := hb1
  clear hb1
  go_wp2_with fail
  refine (held_any a0 len cap b off gs HZ.out hl _ (HG.out.below (HO.out _ HB1.out).2)).mono ?_
  rintro e w2 ⟨⟨t, rfl, ht⟩, hb2⟩
  have HB4 : Hid (Below W0.heap.size W0 w2) := HB1.out.trans (hb2.mono HB1.out.size)
  clear hb2 HB1 hl
  cases t
  · go_wp2
    go_ret
    exact ⟨rfl, (HO.out _ HB4.out).2⟩
  obtain ⟨hn, hsh⟩ := ht rfl
  have HSH : Hid (∀ v ∈ gs, shortB v) := hsh
  clear ht hsh
  by_cases h100 : (100 : Int) < (path.size : Int)
  · go_wp2
    go_ret
    exact ⟨rfl, (HO.out _ HB4.out).2⟩
  go_wp2_with fail
  refine (filled_any a0 len cap b off gs HZ.out HSH.out hn _ (HG.out.below (HO.out _ HB4.out).2)).mono ?_
  rintro e w3 ⟨rfl, H3⟩
  obtain ⟨⟨gv, G, hB, hG⟩, hb3⟩ := H3.out
  have HBK : Hid (Below w2.heap.size w2 w3 ∧ BankW w3 w2.heap.size w2.heap.size gv (.slice none 0 0) G []) := ⟨hb3, hB⟩
  clear H3 hB hG hb3
  have HL : Hid (gs.length = len) := HG.out.len_eq
  go_wp2
  go_loopw [8] (fun i wr => ∃ k : Nat, k ≤ len ∧ i = .int .i64 k ∧ Hid ((∃ wv V, BankW wr w2.heap.size w2.heap.size gv wv G V) ∧ Below w2.heap.size w2 wr)) (fun i _ => len - (intOf i).toNat)
  case atStart => exact ⟨0, Nat.zero_le _, rfl, ⟨_, [], HBK.out.2⟩, HBK.out.1⟩
  case round =>
    obtain ⟨k, hk, rfl, HI⟩ := hrel
    by_cases hlt : k < len
    · have hkL : (k : Int) < (len : Int) := by omega
      obtain ⟨v, hv⟩ : ∃ v, gs[k]? = some v := ⟨gs[k]'(by have := HL.out; omega), List.getElem?_eq_getElem _⟩
      have hvm : v ∈ gs := List.mem_of_getElem? hv
      obtain ⟨ha0, _⟩ := HG.out.lies (by omega)
      subst ha0
      obtain ⟨⟨wv, V, hB⟩, hbel⟩ := HI.out
      have hbw : Below w.heap.size w wr.drew := (HO.out _ (HB4.out.trans (hbel.mono HB4.out.size))).2.drew
      have hW := HG.out.below hbw
      have hQ := hW.ask hv
      have hfit := wtfit_of (HZ.out v hvm) (HSH.out v hvm).1 ⟨#[]⟩ (by decide)
      have hcall := asked_at (wtOf ⟨#[]⟩ v.g) hfit v.da v.g.ask.dom.length v.dc v.db v.doff wr.drew (hW.dom v hvm) w2.heap.size w2.heap.size gv wv G V (hB.below (Below.refl _ _).drew) hbel.size
      have HKK : Hid (BankW wr.drew w2.heap.size w2.heap.size gv wv G V ∧ Below w2.heap.size w2 wr.drew ∧ gs[k]? = some v) := ⟨hB.below (Below.refl _ _).drew, hbel.drew, hv⟩
      clear hB hbel HI hbw hW hfit hvm hv
      go_wp2_with fail
      go_region_held3 (fun W => W.cell? ⟨b, off + k * 16, none⟩ = some (.bool v.g.org.sec) ∧ W.cell? ⟨b, off + k * 16 + 1, none⟩ = some (.string v.g.org.host) ∧ W.cell? ⟨b, off + k * 16 + 2, none⟩ = some (.int .i64 v.g.org.port) ∧ W.cell? ⟨b, off + k * 16 + 3, none⟩ = some (.bool v.g.proxy) ∧ W.cell? ⟨b, off + k * 16 + 6, none⟩ = some (.int .i64 v.g.ask.sch) ∧ W.cell? ⟨b, off + k * 16 + 7, none⟩ = some (.string v.g.ask.realm) ∧ W.cell? ⟨b, off + k * 16 + 8, none⟩ = some (.string v.g.ask.nonce) ∧ W.cell? ⟨b, off + k * 16 + 9, none⟩ = some (.string v.g.ask.opq) ∧ W.cell? ⟨b, off + k * 16 + 10, none⟩ = some (.bool v.g.ask.sess) ∧ W.cell? ⟨b, off + k * 16 + 11, none⟩ = some (.string v.g.ask.qop) ∧ W.cell? ⟨b, off + k * 16 + 12, none⟩ = some (.bool v.g.ask.stale) ∧ W.cell? ⟨b, off + k * 16 + 13, none⟩ = some (.slice v.da v.g.ask.dom.length v.dc)) (with_reducible assumption) (first | (go_at_call 12; refine hcall.mono ?_; rintro e w5 ⟨rfl, wv', V', H'⟩; have HR : Hid ((∃ wv V, BankW w5 w2.heap.size w2.heap.size gv wv G V) ∧ Below w2.heap.size w2 w5) := ⟨⟨wv', V', H'.out.1⟩, HKK.out.2.1.trans (step_low HKK.out.1 HKK.out.2.1.size H'.out.2.2)⟩; have hQ5 := (HG.out.below (HO.out _ (HB4.out.trans (HR.out.2.mono HB4.out.size))).2).ask HKK.out.2.2; clear H'))
      clear hcall hQ hQ5
      go_wp2
      go_roundw
      case rel => exact ⟨k + 1, by omega, by go_num, HR.out⟩
      case measure => simp [intOf]; omega
    · have hkL : ¬ (k : Int) < (len : Int) := by omega
      obtain ⟨⟨wv, V, hB⟩, hbel⟩ := HI.out
      have HR0 : Hid (BankW wr w2.heap.size w2.heap.size gv wv G V ∧ Below w2.heap.size w2 wr) := ⟨hB, hbel⟩
      clear hbel HI
      have hgr := grants_any wr hB
      have HFG : Hid (∀ g ∈ G.map (·.g), g.ask.dom.length ≤ 1000 ∧ g.paths.length ≤ 1000) := fun g hg => by
        obtain ⟨v, hv, rfl⟩ := List.mem_map.1 hg
        exact fit_small (hB.gf v hv)
      clear hB
      go_wp2_with fail
      refine hgr.mono ?_
      rintro e w5 ⟨⟨bv, us, rfl, hown5, his5, hea5⟩, hb5⟩
      have HR5 : Hid (BankW w5 w2.heap.size w2.heap.size gv wv G V ∧ Below w2.heap.size w2 w5 ∧ RowG w5 wr.heap.size bv us (G.map (·.g)) ∧ wr.heap.size ≤ w5.heap.size) := ⟨HR0.out.1.below hb5, HR0.out.2.trans (hb5.mono HR0.out.2.size), ⟨hown5, his5, hea5⟩, hb5.size⟩
      clear hgr hown5 his5 hea5 hb5
      have hbr := HB4.out.trans (HR5.out.2.1.mono HB4.out.size)
      have b1 := (HO.out _ hbr).1
      have c0 := cell_of (i := 0) b1
      have c1 := cell_of (i := 1) b1
      have c2 := cell_of (i := 2) b1
      simp only [List.getElem?_toArray, List.getElem?_cons_zero, List.getElem?_cons_succ] at c0 c1 c2
      clear b1 hbr
      have q1 := HR5.out.1
      have q2 := HR5.out.2.1.size
      have hsw := sweep_any w5 q1 q2 ⟨os, oh, op⟩
      clear q1 q2
      go_wp2_with fail
      refine hsw.mono ?_
      rintro e w6 ⟨rfl, gv6, wv6, G6, V6, H6⟩
      have hlow6 := HR5.out.2.1.trans (step_low HR5.out.1 HR5.out.2.1.size H6.out.2.2.2)
      have hrow6 : ∀ x, wr.heap.size ≤ x → x < w5.heap.size → w6.heap[x]? = w5.heap[x]? ∧ gv6.ownBlock ≠ some x ∧ wv6.ownBlock ≠ some x := by
        intro x hx hxl
        have hblt := (Array.getElem?_eq_some_iff.1 HR0.out.1.blk).1
        exact H6.out.2.2.2.keep x hxl (by omega) (fun e => by have := (HR0.out.1.gs.lt x e).2; omega) (fun e => by have := (HR0.out.1.ws.lt x e).2; omega)
      have hs56 := H6.out.2.2.2.size
      have HR6 : Hid (BankW w6 w2.heap.size w2.heap.size gv6 wv6 G6 V6 ∧ Below w2.heap.size w2 w6 ∧ (w5.heap.size ≤ w6.heap.size ∧ ∀ x, wr.heap.size ≤ x → x < w5.heap.size → w6.heap[x]? = w5.heap[x]? ∧ gv6.ownBlock ≠ some x ∧ wv6.ownBlock ≠ some x) ∧ (∀ g ∈ G6.map (·.g), orgB g.org ⟨os, oh, op⟩ = false) ∧ (∀ v ∈ V6.map (·.g), orgB v.org ⟨os, oh, op⟩ = false) ∧ G6.map (·.g) = (G.map (·.g)).filter (fun g => !orgB g.org ⟨os, oh, op⟩)) := by
        refine ⟨H6.out.1, hlow6, ⟨hs56, hrow6⟩, ?_, ?_, H6.out.2.1⟩
        · intro g hg
          rw [H6.out.2.1] at hg
          simpa using (List.mem_filter.1 hg).2
        · intro v hv
          rw [H6.out.2.2.1] at hv
          simpa using (List.mem_filter.1 hv).2
      obtain ⟨N, hN⟩ : ∃ N : Int, (((G.map (·.g)).length : Int) - (((G.map (·.g)).filter (fun g => !orgB g.org ⟨os, oh, op⟩)).length : Int)) = N := ⟨_, rfl⟩
      have hN0 : 0 ≤ N := by
        rw [← hN]
        have := List.length_filter_le (fun g : GrP => !orgB g.org ⟨os, oh, op⟩) (G.map (·.g))
        omega
      rw [hN]
      clear hN hlow6 hrow6 hs56 H6 hsw c0 c1 c2
      have q1 := HR6.out.1
      have hgr := grants_any w6 q1
      clear q1
      go_wp2_with fail
      refine hgr.mono ?_
      rintro e w7 ⟨⟨av, ut, rfl, hown7, his7, hea7⟩, hb7⟩
      have HS7 : Hid (SwS w2 w6 w7 gv6 wv6 G6 V6 av ut ((G.map (·.g)).filter (fun g => !orgB g.org ⟨os, oh, op⟩))) := ⟨HR6.out.2.1.trans (hb7.mono HR6.out.2.1.size), HR6.out.1.below hb7, hb7, ⟨hown7, his7.trans HR6.out.2.2.2.2.2, hea7⟩⟩
      have HBD : Hid ((∀ x, bv.ownBlock = some x → wr.heap.size ≤ x ∧ x < w5.heap.size) ∧ w2.heap.size < w6.heap.size ∧ w2.heap.size < wr.heap.size ∧ (∀ x, gv6.ownBlock = some x → x < w6.heap.size) ∧ (∀ x, wv6.ownBlock = some x → x < w6.heap.size)) := ⟨fun x e => HR5.out.2.2.1.own.lt x e, (Array.getElem?_eq_some_iff.1 HR6.out.1.blk).1, (Array.getElem?_eq_some_iff.1 HR0.out.1.blk).1, fun x e => (HR6.out.1.gs.lt x e).2, fun x e => (HR6.out.1.ws.lt x e).2⟩
      clear hgr hown7 his7 hea7 hb7
      have hbr := HB4.out.trans (HS7.out.low.mono HB4.out.size)
      have b1 := (HO.out _ hbr).1
      have c0 := cell_of (i := 0) b1
      have c1 := cell_of (i := 1) b1
      have c2 := cell_of (i := 2) b1
      simp only [List.getElem?_toArray, List.getElem?_cons_zero, List.getElem?_cons_succ] at c0 c1 c2
      clear b1 hbr
      have q1 := HS7.out.bank
      have q2 := HR6.out.2.2.2.1
      have hfd := find_nothing w7 q1 ⟨os, oh, op⟩ false path q2
      clear q1 q2
      go_wp2_with fail
      refine hfd.mono ?_
      rintro e w8 ⟨⟨ya1, yc1, za1, zc1, rfl⟩, hb8⟩
      have HS8 := HS7.out.below hb8
      have HS9 : Hid (SwS w2 w6 (w8.alloc (.cells #[.bool false, .string ⟨#[]⟩, .int .i64 0, .bool false, .string ⟨#[]⟩, .string ⟨#[]⟩, .int .i64 0, .string ⟨#[]⟩, .string ⟨#[]⟩, .string ⟨#[]⟩, .bool false, .string ⟨#[]⟩, .bool false, .slice ya1 0 yc1, .int .i64 0, .slice za1 0 zc1] 36)) gv6 wv6 G6 V6 av ut ((G.map (·.g)).filter (fun g => !orgB g.org ⟨os, oh, op⟩))) := HS8.alloc _
      clear hfd hb8 HS8 HS7 c0 c1 c2
      have hbr := HB4.out.trans (HS9.out.low.mono HB4.out.size)
      have b1 := (HO.out _ hbr).1
      have c0 := cell_of (i := 0) b1
      have c1 := cell_of (i := 1) b1
      have c2 := cell_of (i := 2) b1
      simp only [List.getElem?_toArray, List.getElem?_cons_zero, List.getElem?_cons_succ] at c0 c1 c2
      clear b1 hbr
      have q1 := HS9.out.bank
      have q2 := HR6.out.2.2.2.1
      have hfd := find_nothing _ q1 ⟨os, oh, op⟩ true path q2
      clear q1 q2
      go_wp2_with fail
      refine hfd.mono ?_
      rintro e w10 ⟨⟨ya2, yc2, za2, zc2, rfl⟩, hb10⟩
      have HS10 := HS9.out.below hb10
      have HS11 : Hid (SwS w2 w6 (w10.alloc (.cells #[.bool false, .string ⟨#[]⟩, .int .i64 0, .bool false, .string ⟨#[]⟩, .string ⟨#[]⟩, .int .i64 0, .string ⟨#[]⟩, .string ⟨#[]⟩, .string ⟨#[]⟩, .bool false, .string ⟨#[]⟩, .bool false, .slice ya2 0 yc2, .int .i64 0, .slice za2 0 zc2] 36)) gv6 wv6 G6 V6 av ut ((G.map (·.g)).filter (fun g => !orgB g.org ⟨os, oh, op⟩))) := HS10.alloc _
      clear hfd hb10 HS10 HS9 c0 c1 c2
      have hbr := HB4.out.trans (HS11.out.low.mono HB4.out.size)
      have b1 := (HO.out _ hbr).1
      have c0 := cell_of (i := 0) b1
      have c1 := cell_of (i := 1) b1
      have c2 := cell_of (i := 2) b1
      simp only [List.getElem?_toArray, List.getElem?_cons_zero, List.getElem?_cons_succ] at c0 c1 c2
      clear b1 hbr
      have q1 := HS11.out.bank
      have q2 := HS11.out.low.size
      have q3 := HR6.out.2.2.2.2.1
      have htk := take_nothing _ q1 q2 ⟨os, oh, op⟩ false (V6.map (·.g)) rfl (takeI_none q3 false)
      clear q1 q2 q3
      go_wp2_with fail
      refine htk.mono ?_
      rintro e w12 ⟨⟨ya3, yc3, rfl⟩, wv12, V12, H12⟩
      have hrow12 : RowG w12 wr.heap.size bv us (G.map (·.g)) := by
        refine HR5.out.2.2.1.keep fun x hx hxl => ?_
        obtain ⟨k1, k2, k3⟩ := HR6.out.2.2.1.2 x hx hxl
        have hx6 : x < w6.heap.size := Nat.lt_of_lt_of_le hxl HR6.out.2.2.1.1
        have hb11 := HBD.out.2.2.1
        rw [(H12.out.2.2.keep x (Nat.lt_of_lt_of_le hx6 HS11.out.sin.size) (by omega) k2 k3).1, HS11.out.sin.block x hx6, k1]
      have haft12 : RowG w12 w6.heap.size av ut ((G.map (·.g)).filter (fun g => !orgB g.org ⟨os, oh, op⟩)) := RowG.step HS11.out.aft H12.out.2.2 HBD.out.2.1 HBD.out.2.2.2.1 HBD.out.2.2.2.2
      have hlow12 := HS11.out.low.trans (step_low HS11.out.bank HS11.out.low.size H12.out.2.2)
      have hb13 : Below w12.heap.size w12 (w12.alloc (.cells #[.bool false, .string ⟨#[]⟩, .int .i64 0, .bool false, .string ⟨#[]⟩, .int .i64 0, .string ⟨#[]⟩, .string ⟨#[]⟩, .string ⟨#[]⟩, .bool false, .string ⟨#[]⟩, .bool false, .slice ya3 0 yc3] 38)) := (Below.refl _ _).alloc (Nat.le_refl _) _
      have HS13 : Hid (Below w2.heap.size w2 (w12.alloc (.cells #[.bool false, .string ⟨#[]⟩, .int .i64 0, .bool false, .string ⟨#[]⟩, .int .i64 0, .string ⟨#[]⟩, .string ⟨#[]⟩, .string ⟨#[]⟩, .bool false, .string ⟨#[]⟩, .bool false, .slice ya3 0 yc3] 38)) ∧ RowG (w12.alloc (.cells #[.bool false, .string ⟨#[]⟩, .int .i64 0, .bool false, .string ⟨#[]⟩, .int .i64 0, .string ⟨#[]⟩, .string ⟨#[]⟩, .string ⟨#[]⟩, .bool false, .string ⟨#[]⟩, .bool false, .slice ya3 0 yc3] 38)) wr.heap.size bv us (G.map (·.g)) ∧ RowG (w12.alloc (.cells #[.bool false, .string ⟨#[]⟩, .int .i64 0, .bool false, .string ⟨#[]⟩, .int .i64 0, .string ⟨#[]⟩, .string ⟨#[]⟩, .string ⟨#[]⟩, .bool false, .string ⟨#[]⟩, .bool false, .slice ya3 0 yc3] 38)) w6.heap.size av ut ((G.map (·.g)).filter (fun g => !orgB g.org ⟨os, oh, op⟩))) := ⟨hlow12.trans (hb13.mono hlow12.size), hrow12.below hb13, haft12.below hb13⟩
      have hlu : us.length ≤ 1000 := by
        have h1 := congrArg List.length HS13.out.2.1.is
        rw [List.length_map, List.length_map] at h1
        have := HR0.out.1.glen
        omega
      have hlm : ((G.map (·.g)).filter (fun g => !orgB g.org ⟨os, oh, op⟩)).length ≤ 1000 := by
        have h1 := List.length_filter_le (fun g : GrP => !orgB g.org ⟨os, oh, op⟩) (G.map (·.g))
        rw [List.length_map] at h1
        have := HR0.out.1.glen
        omega
      have hbr := HB4.out.trans (HS13.out.1.mono HB4.out.size)
      have hbox : BoxO (w12.alloc (.cells #[.bool false, .string ⟨#[]⟩, .int .i64 0, .bool false, .string ⟨#[]⟩, .int .i64 0, .string ⟨#[]⟩, .string ⟨#[]⟩, .string ⟨#[]⟩, .bool false, .string ⟨#[]⟩, .bool false, .slice ya3 0 yc3] 38)) w.heap.size ⟨os, oh, op⟩ := (HO.out _ hbr).1
      have q1 := HS13.out.2.1
      have hdl := swL_del hlu _ q1 hbox
      clear q1 hbox hbr hrow12 haft12 hlow12 hb13 htk H12 HS11 c0 c1 c2
      go_wp2_with fail
      refine hdl.mono ?_
      rintro e w14 ⟨lp, ln, lc, rfl, H14⟩
      have hlow14 : Below w2.heap.size w2 w14 := HS13.out.1.grown H14.out.2 HS13.out.1.size (fun i hi => by
        have h1 := (HBD.out.1 i hi).1
        have h2 := HBD.out.2.2.1
        omega)
      have haft14 : RowG w14 w6.heap.size av ut ((G.map (·.g)).filter (fun g => !orgB g.org ⟨os, oh, op⟩)) := HS13.out.2.2.keep fun x hx hxl => H14.out.2.block x hxl (fun e => by
        have h1 := (HBD.out.1 x e.symm).2
        have h2 := HR6.out.2.2.1.1
        omega)
      have hleft := H14.out.1
      have heq := eqf_rows w14 haft14 hleft (fun g hg => HFG.out g (List.mem_filter.1 hg).1) hlm
      have HL14 : Hid (Below W0.heap.size W0 w14) := HB4.out.trans (hlow14.mono HB4.out.size)
      clear hdl hlow14 haft14 hleft hlm hlu H14 HS13
      go_wp2_with fail
      refine heq.mono ?_
      rintro e w15 ⟨rfl, hb15⟩
      have HB15 : Hid (Below w.heap.size w w15) := (HO.out _ (HL14.out.trans (hb15.mono HL14.out.size))).2
      clear hb15 heq
      go_wp2
      go_ret
      exact ⟨rfl, HB15.out⟩
end Go.Proofs.Ytjadmldnpdmamaa

/- What came in: no text of it is longer than a machine can hold. -/
namespace Go.Proofs.Ytjadmldnpdmamaa
open Go.ChangeShapes Go.WideShapes Go.ChangeAt Go.RowKit Go.Joins

theorem laidOutP : laidOutB Try.prog = true := by kernel_rfl
theorem weightsAll_mem {H : Type} {P : Program} {e : TypeId} : ∀ {ds : List (DataW H)} {d : DataW H}, d ∈ ds → ∀ n ∈ d.weights P e, n ∈ DataW.weightsAll P e ds
  | d0 :: ds, d, hd, n, hn => by
    rw [DataW.weightsAll, List.mem_append]
    rcases List.mem_cons.1 hd with rfl | h
    · exact .inl hn
    · exact .inr (weightsAll_mem h n hn)
theorem weights_slice {H : Type} {t e : TypeId} (ht : Try.prog.underlying t = some (.slice e)) {ds es : List (DataW H)} {d : DataW H} (hd : d ∈ ds) : ∀ n ∈ d.weights Try.prog e, n ∈ (DataW.slice ds es).weights Try.prog t := by
  intro n hn
  rw [DataW.weights, ht]
  simp only [List.mem_cons, List.mem_append]
  exact .inr (.inl (weightsAll_mem hd n hn))
/-- No text of it is longer than a machine can hold. -/
def Reach {H : Type} (t : TypeId) (d : DataW H) : Prop := ∀ n ∈ d.weights Try.prog t, n ≤ 140737488355328
theorem reach_all {H : Type} {ts : List TypeId} {ds : List (DataW H)} (h : (DataW.weightsEach Try.prog ts ds).all (· ≤ reachBytes) = true) {j : Nat} {t : TypeId} {d : DataW H} (ht : ts[j]? = some t) (hd : ds[j]? = some d) : Reach t d := fun n hn => by
  have h1 := List.all_eq_true.1 h _ (DataW.weights_mem_each ht hd n hn)
  have h2 : n ≤ reachBytes := of_decide_eq_true h1
  have := reachBytes_lt
  have e3 : (2 : Nat) ^ 47 = 140737488355328 := by decide
  omega
theorem reach_string {H : Type} {t : TypeId} {s : ByteArray} (h : Reach (H := H) t (.lit (.string s.data.toList))) : s.size ≤ 140737488355328 := by
  have := h s.data.toList.length (by simp [DataW.weights])
  rw [Array.length_toList] at this
  exact this
def strOf : Value → ByteArray
  | .string s => s
  | _ => ⟨#[]⟩
end Go.Proofs.Ytjadmldnpdmamaa

/- Rows of grants that came in: opened down to their lists. -/
namespace Go.Proofs.Ytjadmldnpdmamaa
open Go.ChangeShapes Go.WideShapes Go.ChangeAt Go.RowKit Go.Joins
set_option linter.unusedVariables false

instance : Inhabited GrA := ⟨⟨⟨⟨false, ⟨#[]⟩, 0⟩, false, ⟨#[]⟩, ⟨#[]⟩, ⟨0, ⟨#[]⟩, ⟨#[]⟩, ⟨#[]⟩, false, ⟨#[]⟩, false, []⟩, 0, []⟩, none, 0, 0, 0, none, 0, 0, 0⟩⟩
theorem lst2 {α : Type} {l : List α} (h : l.length = 2) : ∃ c0 c1, l = [c0, c1] := by
  match l, h with
  | [c0, c1], _ => exact ⟨c0, c1, rfl⟩
theorem lst3 {α : Type} {l : List α} (h : l.length = 3) : ∃ c0 c1 c2, l = [c0, c1, c2] := by
  match l, h with
  | [c0, c1, c2], _ => exact ⟨c0, c1, c2, rfl⟩
theorem lst6 {α : Type} {l : List α} (h : l.length = 6) : ∃ c0 c1 c2 c3 c4 c5, l = [c0, c1, c2, c3, c4, c5] := by
  match l, h with
  | [c0, c1, c2, c3, c4, c5], _ => exact ⟨c0, c1, c2, c3, c4, c5, rfl⟩
theorem lst8 {α : Type} {l : List α} (h : l.length = 8) : ∃ c0 c1 c2 c3 c4 c5 c6 c7, l = [c0, c1, c2, c3, c4, c5, c6, c7] := by
  match l, h with
  | [c0, c1, c2, c3, c4, c5, c6, c7], _ => exact ⟨c0, c1, c2, c3, c4, c5, c6, c7, rfl⟩
section
variable {H : Type} {enc : TypeId × Value → H} {W : World}
theorem open_strsAt {fuel : Nat} {v : Value} {x : DataW H × List MemPlace} (h : DataW.trod enc Try.prog W 0 (fun _ => true) true fuel 32 [v] = some x) :
    ∃ (a0 : Option Addr) (cap b off : Nat) (xs : List ByteArray), v = .slice a0 xs.length cap ∧ Strs W a0 xs.length b off xs ∧ (Reach 32 x.1 → ∀ s ∈ xs, s.size ≤ 140737488355328) := by
  rcases Go.Deep.open_strs Try.underlying32 Try.underlying9 (by kernel_rfl) h with ⟨hcs, hx⟩ | ⟨a, len, cap, m, Sx, hcs, _, hl, hm, hmm, hx, hall⟩
  · simp only [List.cons.injEq, and_true] at hcs
    exact ⟨none, 0, 0, 0, [], hcs, ⟨rfl, fun h => absurd h (by simp), (fun j p hp => by simp at hp)⟩, fun _ s hs => by cases hs⟩
  · simp only [List.cons.injEq, and_true] at hcs
    simp only [if_true] at hmm
    obtain rfl := hmm.symm
    obtain ⟨b, off, spot⟩ := a
    have hspot : 0 < len → spot = none := fun h0 => by simpa [Addr.add] using World.cell?_spot (hall 0 (by omega)).1
    refine ⟨some ⟨b, off, spot⟩, cap, b, off, (List.range len).map Sx, by simpa using hcs, ⟨rfl, fun h0 => ?_, fun j p hp => ?_⟩, fun hr s hs => ?_⟩
    · have h0' : 0 < len := by simpa using h0
      obtain rfl := hspot h0'
      refine ⟨rfl, ?_⟩
      have hc := (hall 0 (by omega)).1
      rcases Nat.lt_or_ge b W.heap.size with h1 | h1
      · exact h1
      · simp [World.cell?, Addr.add, Array.getElem?_eq_none h1] at hc
    · rw [List.getElem?_map] at hp
      by_cases hj : j < len
      · rw [List.getElem?_range hj] at hp
        simp only [Option.map_some, Option.some.injEq] at hp
        subst hp
        obtain rfl := hspot (by omega)
        rw [← add_plain]
        exact (hall j (by omega)).1
      · rw [List.getElem?_eq_none (by simp; omega)] at hp
        cases hp
    · obtain ⟨i, hi, rfl⟩ := List.mem_map.1 hs
      have h1 := hr (Sx i).data.toList.length (by
        rw [hx]
        exact weights_slice Try.underlying32 (List.mem_map.2 ⟨i, hi, rfl⟩) _ (by simp [DataW.weights]))
      rw [Array.length_toList] at h1
      exact h1
set_option maxRecDepth 100000 in
set_option maxHeartbeats 4000000 in
/-- A grant among the cells of a row. -/
theorem open_grantAt {fuel : Nat} {c0 c1 c2 c3 c4 c5 c6 c7 c8 c9 c10 c11 c12 c13 c14 c15 : Value} {x : DataW H × List MemPlace} (h : DataW.trod enc Try.prog W 0 (fun _ => true) true fuel 36 [c0, c1, c2, c3, c4, c5, c6, c7, c8, c9, c10, c11, c12, c13, c14, c15] = some x) :
    ∃ v : GrA, [c0, c1, c2, c3, c4, c5, c6, c7, c8, c9, c10, c11, c12, c13, c14, c15] = grCells v.val ∧ Strs W v.da v.g.ask.dom.length v.db v.doff v.g.ask.dom ∧ Strs W v.pa v.g.paths.length v.pb v.poff v.g.paths ∧ (Reach 36 x.1 → GrZ v.g) := by
  obtain ⟨xs, n, rfl, rfl, _, hlen, hff⟩ := DataW.trod_struct Try.underlying36 h
  obtain ⟨y0, y1, y2, y3, y4, y5, rfl⟩ := lst6 (hlen.trans rfl)
  have g0 : DataW.trod enc Try.prog W 0 (fun _ => true) true n 24 [c0, c1, c2] = some y0 := hff 0 _ rfl
  have g1 : DataW.trod enc Try.prog W 0 (fun _ => true) true n 4 [c3] = some y1 := hff 1 _ rfl
  have g2 : DataW.trod enc Try.prog W 0 (fun _ => true) true n 31 [c4, c5] = some y2 := hff 2 _ rfl
  have g3 : DataW.trod enc Try.prog W 0 (fun _ => true) true n 34 [c6, c7, c8, c9, c10, c11, c12, c13] = some y3 := hff 3 _ rfl
  have g4 : DataW.trod enc Try.prog W 0 (fun _ => true) true n 3 [c14] = some y4 := hff 4 _ rfl
  have g5 : DataW.trod enc Try.prog W 0 (fun _ => true) true n 32 [c15] = some y5 := hff 5 _ rfl
  clear hff h
  obtain ⟨os', n0, _, ho, _, hl0, hf0⟩ := DataW.trod_struct Try.underlying24 g0
  obtain ⟨o0, o1, o2, rfl⟩ := lst3 (hl0.trans rfl)
  have p0 : DataW.trod enc Try.prog W 0 (fun _ => true) true n0 4 [c0] = some o0 := hf0 0 _ rfl
  have p1 : DataW.trod enc Try.prog W 0 (fun _ => true) true n0 9 [c1] = some o1 := hf0 1 _ rfl
  have p2 : DataW.trod enc Try.prog W 0 (fun _ => true) true n0 3 [c2] = some o2 := hf0 2 _ rfl
  clear hf0
  obtain ⟨sec, e0, rfl⟩ := DataW.trod_bool Try.underlying4 p0
  obtain ⟨host, e1, rfl, _⟩ := DataW.trod_string Try.underlying9 p1
  obtain ⟨port, e2, rfl, _⟩ := DataW.trod_int Try.underlying3 p2
  obtain ⟨px, e3, rfl⟩ := DataW.trod_bool Try.underlying4 g1
  obtain ⟨cs', n1, _, hc, _, hl1, hf1⟩ := DataW.trod_struct Try.underlying31 g2
  obtain ⟨r0, r1, rfl⟩ := lst2 (hl1.trans rfl)
  have q0 : DataW.trod enc Try.prog W 0 (fun _ => true) true n1 9 [c4] = some r0 := hf1 0 _ rfl
  have q1 : DataW.trod enc Try.prog W 0 (fun _ => true) true n1 9 [c5] = some r1 := hf1 1 _ rfl
  clear hf1
  obtain ⟨us, e4, rfl, _⟩ := DataW.trod_string Try.underlying9 q0
  obtain ⟨pw, e5, rfl, _⟩ := DataW.trod_string Try.underlying9 q1
  obtain ⟨as', n2, _, ha, _, hl2, hf2⟩ := DataW.trod_struct Try.underlying34 g3
  obtain ⟨s0, s1, s2, s3, s4, s5, s6, s7, rfl⟩ := lst8 (hl2.trans rfl)
  have t0 : DataW.trod enc Try.prog W 0 (fun _ => true) true n2 3 [c6] = some s0 := hf2 0 _ rfl
  have t1 : DataW.trod enc Try.prog W 0 (fun _ => true) true n2 9 [c7] = some s1 := hf2 1 _ rfl
  have t2 : DataW.trod enc Try.prog W 0 (fun _ => true) true n2 9 [c8] = some s2 := hf2 2 _ rfl
  have t3 : DataW.trod enc Try.prog W 0 (fun _ => true) true n2 9 [c9] = some s3 := hf2 3 _ rfl
  have t4 : DataW.trod enc Try.prog W 0 (fun _ => true) true n2 4 [c10] = some s4 := hf2 4 _ rfl
  have t5 : DataW.trod enc Try.prog W 0 (fun _ => true) true n2 9 [c11] = some s5 := hf2 5 _ rfl
  have t6 : DataW.trod enc Try.prog W 0 (fun _ => true) true n2 4 [c12] = some s6 := hf2 6 _ rfl
  have t7 : DataW.trod enc Try.prog W 0 (fun _ => true) true n2 32 [c13] = some s7 := hf2 7 _ rfl
  clear hf2
  obtain ⟨sch, e6, rfl, _⟩ := DataW.trod_int Try.underlying3 t0
  obtain ⟨rlm, e7, rfl, _⟩ := DataW.trod_string Try.underlying9 t1
  obtain ⟨non, e8, rfl, _⟩ := DataW.trod_string Try.underlying9 t2
  obtain ⟨opq, e9, rfl, _⟩ := DataW.trod_string Try.underlying9 t3
  obtain ⟨ses, e10, rfl⟩ := DataW.trod_bool Try.underlying4 t4
  obtain ⟨qop, e11, rfl, _⟩ := DataW.trod_string Try.underlying9 t5
  obtain ⟨stl, e12, rfl⟩ := DataW.trod_bool Try.underlying4 t6
  obtain ⟨da, dc, db, doff, dm, rfl, hdm, rdm⟩ := open_strsAt t7
  obtain ⟨cnt, e14, rfl, wcnt⟩ := DataW.trod_int Try.underlying3 g4
  obtain ⟨pa, pc, pb, poff, pt, rfl, hpt, rpt⟩ := open_strsAt g5
  simp only [List.cons.injEq, and_true] at e0 e1 e2 e3 e4 e5 e6 e7 e8 e9 e10 e11 e12 e14
  subst e0 e1 e2 e3 e4 e5 e6 e7 e8 e9 e10 e11 e12 e14
  refine ⟨⟨⟨⟨sec, host, port⟩, px, us, pw, ⟨sch, rlm, non, opq, ses, qop, stl, dm⟩, cnt, pt⟩, da, dc, db, doff, pa, pc, pb, poff⟩, rfl, hdm, hpt, fun hr => ?_⟩
  subst ho hc ha
  have w0 := hr host.data.toList.length (by simp [DataW.weights, DataW.weightsEach, Try.underlying36, Try.underlying24])
  have w1 := hr us.data.toList.length (by simp [DataW.weights, DataW.weightsEach, Try.underlying36, Try.underlying31])
  have w2 := hr pw.data.toList.length (by simp [DataW.weights, DataW.weightsEach, Try.underlying36, Try.underlying31])
  have w3 := hr rlm.data.toList.length (by simp [DataW.weights, DataW.weightsEach, Try.underlying36, Try.underlying34])
  have w4 := hr non.data.toList.length (by simp [DataW.weights, DataW.weightsEach, Try.underlying36, Try.underlying34])
  have w5 := hr opq.data.toList.length (by simp [DataW.weights, DataW.weightsEach, Try.underlying36, Try.underlying34])
  have w6 := hr qop.data.toList.length (by simp [DataW.weights, DataW.weightsEach, Try.underlying36, Try.underlying34])
  rw [Array.length_toList] at w0 w1 w2 w3 w4 w5 w6
  have d1 := rdm fun k hk => hr k (by simp [DataW.weights, DataW.weightsEach, Try.underlying36, Try.underlying34, hk])
  have d2 := rpt fun k hk => hr k (by simp [DataW.weights, DataW.weightsEach, Try.underlying36, hk])
  refine ⟨w0, w1, w2, w3, w4, w5, w6, d1, d2, ?_⟩
  simp only [Lit.wf, Bool.and_eq_true, decide_eq_true_eq] at wcnt
  have e1 : IntKind.i64.min = -9223372036854775808 := by decide
  show -9223372036854775808 ≤ cnt
  omega
theorem cells16 : Try.prog.cellsOf 36 = 16 := by kernel_rfl
set_option maxRecDepth 100000 in
set_option maxHeartbeats 2000000 in
theorem open_grants {fuel : Nat} {v : Value} {x : DataW H × List MemPlace} (h : DataW.trod enc Try.prog W 0 (fun _ => true) true fuel 22 [v] = some x) :
    ∃ (a0 : Option Addr) (len cap b off : Nat) (gs : List GrA), v = .slice a0 len cap ∧ len ≤ 9223372036854775807 ∧ Grs W a0 len b off gs ∧ (Reach 22 x.1 → ∀ g ∈ gs, GrZ g.g) := by
  rcases Go.Deep.open_slice Try.underlying22 h with ⟨hcs, hx⟩ | ⟨a, len, cap, m, n, D, Pl, hcs, _, hl, hm, hmm, hx, hall⟩
  · simp only [List.cons.injEq, and_true] at hcs
    exact ⟨none, 0, 0, 0, 0, [], hcs, by omega, ⟨rfl, fun h => absurd h (by omega), (fun j p hp => by simp at hp), (fun c hc => by cases hc), fun c hc => by cases hc⟩, fun _ c hc => by cases hc⟩
  · simp only [List.cons.injEq, and_true] at hcs
    simp only [if_true] at hmm
    obtain rfl := hmm.symm
    unfold maxLen at hm
    rw [cells16] at hall
    have each : ∀ i, i < cap → ∃ g : GrA, (∀ (j : Nat) (u : Value), (grCells g.val)[j]? = some u → W.cell? (a.add (i * 16 + j)) = some u) ∧ Strs W g.da g.g.ask.dom.length g.db g.doff g.g.ask.dom ∧ Strs W g.pa g.g.paths.length g.pb g.poff g.g.paths ∧ (Reach 36 (D i) → GrZ g.g) := fun i hi => by
      obtain ⟨cs', h1, h2⟩ := hall i hi
      obtain ⟨_, hlen, hcell⟩ := World.cells?_some h1
      match cs', hlen with
      | [c0, c1, c2, c3, c4, c5, c6, c7, c8, c9, c10, c11, c12, c13, c14, c15], _ =>
        obtain ⟨g, e, k1, k2, k3⟩ := open_grantAt h2
        refine ⟨g, fun j u hj => ?_, k1, k2, k3⟩
        have hj16 : j < 16 := (List.getElem?_eq_some_iff.1 hj).1
        have e0 := hcell j hj16
        rw [Go.Deep.add_add] at e0
        rw [e0, e, hj]
    obtain ⟨C, hC⟩ := Go.Deep.choose_lt each
    obtain ⟨b, off, spot⟩ := a
    have hget : ∀ (j : Nat) (c : GrA), ((List.range len).map C)[j]? = some c → j < len ∧ c = C j := fun j p hp => by
      rw [List.getElem?_map] at hp
      by_cases hj : j < len
      · rw [List.getElem?_range hj] at hp
        simp only [Option.map_some, Option.some.injEq] at hp
        exact ⟨hj, hp.symm⟩
      · rw [List.getElem?_eq_none (by simp; omega)] at hp
        cases hp
    have hspot : 0 < len → spot = none := fun h0 => by simpa [Addr.add] using World.cell?_spot ((hC 0 (by omega)).1 0 _ rfl)
    refine ⟨some ⟨b, off, spot⟩, len, cap, b, off, (List.range len).map C, hcs, by omega, ⟨by simp, fun h0 => ?_, fun j c hc i u hu => ?_, fun c hc => ?_, fun c hc => ?_⟩, fun hr c hc => ?_⟩
    · obtain rfl := hspot h0
      refine ⟨rfl, ?_⟩
      have hc := (hC 0 (by omega)).1 0 _ rfl
      rcases Nat.lt_or_ge b W.heap.size with h1 | h1
      · exact h1
      · simp [World.cell?, Addr.add, Array.getElem?_eq_none h1] at hc
    · obtain ⟨hj, rfl⟩ := hget j c hc
      obtain rfl := hspot (by omega)
      rw [Nat.add_assoc, ← add_plain]
      exact (hC j (by omega)).1 i u hu
    · obtain ⟨i, hi, rfl⟩ := List.mem_map.1 hc
      exact (hC i (by have := List.mem_range.1 hi; omega)).2.1
    · obtain ⟨i, hi, rfl⟩ := List.mem_map.1 hc
      exact (hC i (by have := List.mem_range.1 hi; omega)).2.2.1
    · obtain ⟨i, hi, rfl⟩ := List.mem_map.1 hc
      refine (hC i (by have := List.mem_range.1 hi; omega)).2.2.2 fun n hn => hr n ?_
      rw [hx]
      exact weights_slice Try.underlying22 (List.mem_map.2 ⟨i, hi, rfl⟩) n hn
/-- A row of grants that came in. -/
theorem open_grantsT {v : Value} {d : DataW H} {p : List MemPlace} {a : Option Addr} {n k : Nat} (h : DataW.Trod enc Try.prog W 0 (fun _ => true) true 22 v d p) (hv : v = .slice a n k) :
    ∃ (b off : Nat) (gs : List GrA), n ≤ 9223372036854775807 ∧ Grs W a n b off gs ∧ (Reach 22 d → ∀ g ∈ gs, GrZ g.g) := by
  subst hv
  obtain ⟨fuel, hf⟩ := h
  obtain ⟨a0, len, cap, b, off, gs, e, h1, h2, h3⟩ := open_grants (v := .slice a n k) hf
  injection e with e1 e2 e3
  subst e1 e2 e3
  exact ⟨b, off, gs, h1, h2, h3⟩
end
end Go.Proofs.Ytjadmldnpdmamaa
