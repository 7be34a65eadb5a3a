/- bank.Copy: a bank like it, that lies apart. -/
import Derived.Test.YtdnnlfklanaliacGrt7
import Derived.Test.YtdnnlfklanaliacWts7
import Derived.Deep.RegionHeld3
namespace Go.Proofs.Ytdnnlfklanaliac
open Go.RowKit
set_option linter.unusedVariables false

/-- Rows that were handed out, among blocks from B on. -/
structure CpG (w : World) (B : Nat) (l : List GrP) (val : Value) (us : List GrV) : Prop where
  own : OwnK 16 38 w B val (us.map grCells)
  all : us.map (·.g) = l
  gos : ∀ u ∈ us, GrOwn w B u
structure CpW (w : World) (B : Nat) (l : List WtP) (val : Value) (us : List WtV) : Prop where
  own : OwnK 13 67 w B val (us.map wtCells)
  all : us.map (·.g) = l
  gos : ∀ u ∈ us, WtOwn w B u
theorem CpG.below {w w' : World} {B : Nat} {l : List GrP} {val : Value} {us : List GrV} (h : CpG w B l val us) (hb : Below w.heap.size w w') : CpG w' B l val us := ⟨h.own.below hb, h.all, fun u hu => (h.gos u hu).below hb⟩
theorem CpW.below {w w' : World} {B : Nat} {l : List WtP} {val : Value} {us : List WtV} (h : CpW w B l val us) (hb : Below w.heap.size w w') : CpW w' B l val us := ⟨h.own.below hb, h.all, fun u hu => OwnS.below (h.gos u hu) hb⟩
theorem CpG.mono {w : World} {B B' : Nat} {l : List GrP} {val : Value} {us : List GrV} (h : CpG w B l val us) (hb : B' ≤ B) : CpG w B' l val us := ⟨h.own.mono hb, h.all, fun u hu => (h.gos u hu).mono hb⟩
theorem CpW.mono {w : World} {B B' : Nat} {l : List WtP} {val : Value} {us : List WtV} (h : CpW w B l val us) (hb : B' ≤ B) : CpW w B' l val us := ⟨h.own.mono hb, h.all, fun u hu => ownS_mono (h.gos u hu) hb⟩
theorem form16 {k : Nat} {t : TypeId} {w : World} {B : Nat} {val : Value} {xs : List (List Value)} (h : OwnK k t w B val xs) : ∃ p n c, val = .slice p n c := by
  rcases h.forms with ⟨e, _⟩ | ⟨g, cap, e, _⟩
  · exact ⟨_, _, _, e⟩
  · exact ⟨_, _, _, e⟩
/-- The new bank. -/
theorem cpy_bank {w w2 : World} {B b : Nat} {gv wv : Value} {G : List GrV} {V : List WtV} {p q : Option Addr} {n c m d : Nat} {us : List GrV} {vs : List WtV} (h : BankW w B b gv wv G V) (hb : Below w.heap.size w w2) (h1 : CpG w2 w.heap.size (G.map (·.g)) (.slice p n c) us) (h2 : CpW w2 w.heap.size (V.map (·.g)) (.slice q m d) vs) :
    BankW (w2.alloc (.cells #[.slice p n c, .slice q m d] 45)) w.heap.size w2.heap.size (.slice p n c) (.slice q m d) us vs ∧ Below w.heap.size w (w2.alloc (.cells #[.slice p n c, .slice q m d] 45)) := by
  have ha : Below w2.heap.size w2 (w2.alloc (.cells #[.slice p n c, .slice q m d] 45)) := (Below.refl _ _).alloc (Nat.le_refl _) _
  have h3 := h1.below ha
  have h4 := h2.below ha
  have hl1 : us.length = G.length := by have := congrArg List.length h1.all; rwa [List.length_map, List.length_map] at this
  have hl2 : vs.length = V.length := by have := congrArg List.length h2.all; rwa [List.length_map, List.length_map] at this
  refine ⟨⟨heap_alloc_new w2 _, hb.size, h3.own, h4.own, h3.gos, h4.gos, fun u hu => ?_, by rw [hl1]; exact h.glen, by rw [hl2]; exact h.vlen⟩, hb.trans (ha.mono hb.size)⟩
  have hm : u.g ∈ G.map (·.g) := by rw [← h1.all]; exact List.mem_map.2 ⟨u, hu, rfl⟩
  obtain ⟨v, hv, e⟩ := List.mem_map.1 hm
  rw [← e]
  exact h.gf v hv
set_option maxRecDepth 100000 in
set_option maxHeartbeats 4000000 in
theorem copy_any {B b : Nat} {gv wv : Value} {G : List GrV} {V : List WtV} (w : World) (h : BankW w B b gv wv G V) (hwf : ∀ v ∈ V, WtFit v.g) :
    Calls Try.prog 7 #[.pointer (some ⟨b, 0, none⟩)] w fun e w' => ∃ c gv' wv' G' V', e = .returned (.pointer (some ⟨c, 0, none⟩)) ∧ Hid (BankW w' w.heap.size c gv' wv' G' V' ∧ G'.map (·.g) = G.map (·.g) ∧ V'.map (·.g) = V.map (·.g) ∧ Below w.heap.size w w') := by
  have HK : Hid (BankW w B b gv wv G V ∧ ∀ v ∈ V, WtFit v.g) := ⟨h, hwf⟩
  clear h hwf
  go_enter Try.func7, Try.ntmps7
  go_wp2_with fail
  refine (grants_any _ HK.out.1).mono ?_
  rintro e w1 ⟨⟨val, us, rfl, h1, h2, h3⟩, hb1⟩
  obtain ⟨p, n, c, rfl⟩ := form16 h1
  have HG1 : Hid (Below w.heap.size w w1 ∧ CpG w1 w.heap.size (G.map (·.g)) (.slice p n c) us) := ⟨hb1, ⟨h1, h2, h3⟩⟩
  clear h1 h2 h3 hb1
  go_wp2_with fail
  refine (waits_any _ (HK.out.1.below HG1.out.1) HK.out.2).mono ?_
  rintro e w2 ⟨⟨val, vs, rfl, h1, h2, h3⟩, hb2⟩
  obtain ⟨q, m, d, rfl⟩ := form16 h1
  have HE : Hid (BankW (w2.alloc (.cells #[.slice p n c, .slice q m d] 45)) w.heap.size w2.heap.size (.slice p n c) (.slice q m d) us vs ∧ Below w.heap.size w (w2.alloc (.cells #[.slice p n c, .slice q m d] 45))) :=
    cpy_bank HK.out.1 (HG1.out.1.trans (hb2.mono HG1.out.1.size)) (HG1.out.2.below hb2) ((CpW.mk h1 h2 h3).mono HG1.out.1.size)
  have HF : Hid (us.map (·.g) = G.map (·.g) ∧ vs.map (·.g) = V.map (·.g)) := ⟨HG1.out.2.all, h2⟩
  clear h1 h2 h3 hb2
  go_wp2
  go_ret
  exact ⟨_, _, _, _, _, rfl, ⟨HE.out.1, HF.out.1, HF.out.2, HE.out.2⟩⟩
end Go.Proofs.Ytdnnlfklanaliac
