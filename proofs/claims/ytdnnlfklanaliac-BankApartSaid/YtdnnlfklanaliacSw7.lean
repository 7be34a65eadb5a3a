/- bank.Sweep's two closures, and what they leave of a bank's rows. -/
import Derived.Test.YtdnnlfklanaliacBkD
import Derived.Test.YtdnnlfklanaliacDlfW
import Derived.Deep.QuietTactic
import Derived.BigQuiet
namespace Go.Proofs.Ytdnnlfklanaliac
open Go.RowKit
set_option linter.unusedVariables false

/-- Whether cells begin with an origin. -/
def orgAt (o : OrgV) : List Value → Bool
  | .bool s :: .string h :: .int _ n :: _ => orgB ⟨s, h, n⟩ o
  | _ => false
def BoxO (w : World) (a : Nat) (o : OrgV) : Prop := w.heap[a]? = some (.cells #[.bool o.sec, .string o.host, .int .i64 o.port] 31 (0, 0))
set_option maxRecDepth 100000 in
set_option maxHeartbeats 4000000 in
theorem swG_is (v : GrV) (o : OrgV) (a : Nat) (w : World) (hb : BoxO w a o) :
    Calls Try.prog 28 #[.agg (grCells v).toArray, .pointer (some ⟨a, 0, none⟩)] w fun e w' => e = .returned (.bool (orgB v.g.org o)) ∧ Below w.heap.size w w' := by
  have hbb : Below w.heap.size w (w.alloc (.cells (grCells v).toArray 38)) := (Below.refl _ _).alloc (Nat.le_refl _) _
  have hb2 := (hbb.block _ (Array.getElem?_eq_some_iff.1 hb).1).trans hb
  have hn := heap_alloc_new w (.cells (grCells v).toArray 38)
  have HB : Hid (Below w.heap.size w (w.alloc (.cells (grCells v).toArray 38))) := hbb
  unfold grCells at hbb hb2 hn HB ⊢
  have c0 := (cell_of (i := 0) hb2)
  have c1 := (cell_of (i := 1) hb2)
  have c2 := (cell_of (i := 2) hb2)
  have n0 := cell_of (i := 0) hn
  have n1 := cell_of (i := 1) hn
  have n2 := cell_of (i := 2) hn
  simp only [List.getElem?_toArray, List.getElem?_cons_zero, List.getElem?_cons_succ] at c0 c1 c2 n0 n1 n2
  have e1 := eqOrg v.g.org o (orgB v.g.org o) rfl
  clear hb hb2 hn hbb
  go_enter Try.func28, Try.ntmps28
  obtain ⟨E1, h1⟩ : ∃ E, orgB v.g.org o = E := ⟨_, rfl⟩
  rw [h1] at e1 ⊢
  clear h1
  go_wp2
  go_ret
  exact ⟨rfl, HB.out⟩
set_option maxRecDepth 100000 in
set_option maxHeartbeats 4000000 in
theorem swW_is (v : WtV) (o : OrgV) (a : Nat) (w : World) (hb : BoxO w a o) :
    Calls Try.prog 30 #[.agg (wtCells v).toArray, .pointer (some ⟨a, 0, none⟩)] w fun e w' => e = .returned (.bool (orgB v.g.org o)) ∧ Below w.heap.size w w' := by
  have hbb : Below w.heap.size w (w.alloc (.cells (wtCells v).toArray 67)) := (Below.refl _ _).alloc (Nat.le_refl _) _
  have hb2 := (hbb.block _ (Array.getElem?_eq_some_iff.1 hb).1).trans hb
  have hn := heap_alloc_new w (.cells (wtCells v).toArray 67)
  have HB : Hid (Below w.heap.size w (w.alloc (.cells (wtCells v).toArray 67))) := hbb
  unfold wtCells at hbb hb2 hn HB ⊢
  have c0 := (cell_of (i := 0) hb2)
  have c1 := (cell_of (i := 1) hb2)
  have c2 := (cell_of (i := 2) hb2)
  have n0 := cell_of (i := 0) hn
  have n1 := cell_of (i := 1) hn
  have n2 := cell_of (i := 2) hn
  simp only [List.getElem?_toArray, List.getElem?_cons_zero, List.getElem?_cons_succ] at c0 c1 c2 n0 n1 n2
  have e1 := eqOrg v.g.org o (orgB v.g.org o) rfl
  clear hb hb2 hn hbb
  go_enter Try.func30, Try.ntmps30
  obtain ⟨E1, h1⟩ : ∃ E, orgB v.g.org o = E := ⟨_, rfl⟩
  rw [h1] at e1 ⊢
  clear h1
  go_wp2
  go_ret
  exact ⟨rfl, HB.out⟩
theorem swG_pred {w : World} {val : Value} {G : List GrV} {B a : Nat} {o : OrgV} (hown : OwnK 16 38 w B val (G.map grCells)) (hx : BoxO w a o) :
    PredK Try.prog 28 #[.pointer (some ⟨a, 0, none⟩)] (orgAt o) (G.map grCells) w val.ownBlock := by
  intro W x hm hg
  obtain ⟨v, hv, rfl⟩ := List.mem_map.1 hm
  exact swG_is v o a W (block_other hx hg hown.typed (by decide))
theorem swW_pred {w : World} {val : Value} {V : List WtV} {B a : Nat} {o : OrgV} (hown : OwnK 13 67 w B val (V.map wtCells)) (hx : BoxO w a o) :
    PredK Try.prog 30 #[.pointer (some ⟨a, 0, none⟩)] (orgAt o) (V.map wtCells) w val.ownBlock := by
  intro W x hm hg
  obtain ⟨v, hv, rfl⟩ := List.mem_map.1 hm
  exact swW_is v o a W (block_other hx hg hown.typed (by decide))
theorem swG_map (o : OrgV) (G : List GrV) : (G.map grCells).filter (fun y => !orgAt o y) = (G.filter (fun v => !orgB v.g.org o)).map grCells := by
  rw [List.filter_map]
  rfl
theorem swW_map (o : OrgV) (V : List WtV) : (V.map wtCells).filter (fun y => !orgAt o y) = (V.filter (fun v => !orgB v.g.org o)).map wtCells := by
  rw [List.filter_map]
  rfl
/-- The row of waits without an origin's. -/
theorem swW_del {B a : Nat} {V : List WtV} {wv : Value} {o : OrgV} (hl : V.length ≤ 8) (w : World) (h : OwnK 13 67 w B wv (V.map wtCells)) (hx : BoxO w a o) :
    Calls Try.prog 29 #[wv, .func (.func 30) #[] #[.pointer (some ⟨a, 0, none⟩)]] w fun e w' => ∃ p m c, e = .returned (.slice p m c) ∧ Hid (OwnK 13 67 w' B (.slice p m c) ((V.filter (fun v => !orgB v.g.org o)).map wtCells) ∧ w.grownBy w' wv.ownBlock ∧ (Value.slice p m c).ownBlock = wv.ownBlock ∧ (V.filter (fun v => !orgB v.g.org o)).length = m) := by
  have hp := swW_pred h hx
  rcases h.forms with ⟨e, e2⟩ | ⟨g, cap, e, _, _, _, _⟩
  · subst e
    refine (dlfW_none _ _).mono ?_
    rintro e w' ⟨rfl, rfl⟩
    have h0 : V = [] := List.map_eq_nil_iff.1 e2
    subst h0
    exact ⟨_, _, _, rfl, ⟨h, ⟨rfl, rfl, rfl, Nat.le_refl _, fun _ _ _ => rfl⟩, rfl, rfl⟩⟩
  · subst e
    refine (dlfW_any g _ cap B _ rfl (by rw [List.length_map]; omega) w h _ _ _ (enters_at Try.func30 (by kernel_rfl) rfl) hp).mono ?_
    rintro e w' ⟨m, rfl, H⟩
    obtain ⟨h1, h2, h3⟩ := H.out
    rw [swW_map] at h1 h2
    rw [List.length_map] at h2
    exact ⟨_, _, _, rfl, ⟨h1, h3, rfl, h2⟩⟩
/-- The row of grants without an origin's. -/
theorem swG_del {B a : Nat} {V : List GrV} {wv : Value} {o : OrgV} (hl : V.length ≤ 8) (w : World) (h : OwnK 16 38 w B wv (V.map grCells)) (hx : BoxO w a o) :
    Calls Try.prog 27 #[wv, .func (.func 28) #[] #[.pointer (some ⟨a, 0, none⟩)]] w fun e w' => ∃ p m c, e = .returned (.slice p m c) ∧ Hid (OwnK 16 38 w' B (.slice p m c) ((V.filter (fun v => !orgB v.g.org o)).map grCells) ∧ w.grownBy w' wv.ownBlock ∧ (Value.slice p m c).ownBlock = wv.ownBlock ∧ (V.filter (fun v => !orgB v.g.org o)).length = m) := by
  have hp := swG_pred h hx
  rcases h.forms with ⟨e, e2⟩ | ⟨g, cap, e, _, _, _, _⟩
  · subst e
    refine (dlfG_none _ _).mono ?_
    rintro e w' ⟨rfl, rfl⟩
    have h0 : V = [] := List.map_eq_nil_iff.1 e2
    subst h0
    exact ⟨_, _, _, rfl, ⟨h, ⟨rfl, rfl, rfl, Nat.le_refl _, fun _ _ _ => rfl⟩, rfl, rfl⟩⟩
  · subst e
    refine (dlfG_any g _ cap B _ rfl (by rw [List.length_map]; omega) w h _ _ _ (enters_at Try.func28 (by kernel_rfl) rfl) hp).mono ?_
    rintro e w' ⟨m, rfl, H⟩
    obtain ⟨h1, h2, h3⟩ := H.out
    rw [swG_map] at h1 h2
    rw [List.length_map] at h2
    exact ⟨_, _, _, rfl, ⟨h1, h3, rfl, h2⟩⟩
/-- What is written into the row of waits: another row of the bank's. -/
theorem bank_waits {w w2 w3 : World} {B b : Nat} {gv wv wv' : Value} {G : List GrV} {V V' : List WtV} (h : BankW w B b gv wv G V) (hb : Below w.heap.size w w2) (hg : w2.grownBy w3 wv.ownBlock) (hown : OwnK 13 67 w3 B wv' (V'.map wtCells))
    (hnew : ∀ k, wv'.ownBlock = some k → wv.ownBlock = some k ∨ w2.heap.size ≤ k) (hV : ∀ v ∈ V', v ∈ V ∨ WtOwn w2 B v) (hl : V'.length ≤ 8) :
    BankW (w3.setCell ⟨b, 1, none⟩ wv') B b gv wv' G V' ∧ BankStep b gv wv w (w3.setCell ⟨b, 1, none⟩ wv') gv wv' := by
  have h2 := h.below hb
  have t2 := h2.ws.typed
  have hb3 := block_other h2.blk hg t2 (by decide)
  have hg3 := h2.gs.other hg t2 (by decide)
  have hb4 : (w3.setCell ⟨b, 1, none⟩ wv').heap[b]? = some (.cells #[gv, wv'] 45 (0, 0)) := heap_setCell_same w3 b 1 _ _ wv' hb3
  have g34 : w3.grownBy (w3.setCell ⟨b, 1, none⟩ wv') (some b) := grown_setCells w3 b 1 [wv']
  have t3 := Typed.block hb3
  refine ⟨⟨hb4, h.low, hg3.other g34 t3 (by decide), hown.other g34 t3 (by decide), fun v hv => ((h2.go v hv).other hg t2 (by decide)).other g34 t3 (by decide), fun v hv => ?_, h.gf, h.glen, hl⟩, ?_⟩
  · rcases hV v hv with h1 | h1
    · exact OwnS.other (OwnS.other (h2.wo v h1) hg t2 (by decide)) g34 t3 (by decide)
    · exact OwnS.other (OwnS.other h1 hg t2 (by decide)) g34 t3 (by decide)
  · refine ⟨g34.os.trans (hg.os.trans hb.os), g34.tape.trans (hg.tape.trans hb.tape), g34.output.trans (hg.output.trans hb.output), Nat.le_trans hb.size (Nat.le_trans hg.size g34.size), fun x hx h1 h2' h3 => ⟨?_, h2', fun e => ?_⟩⟩
    · have hx2 := Nat.lt_of_lt_of_le hx hb.size
      rw [g34.block x (Nat.lt_of_lt_of_le hx2 hg.size) (fun e => h1 (by injection e)), hg.block x hx2 (fun e => h3 e.symm), hb.block x hx]
    · rcases hnew x e with h4 | h4
      · exact h3 h4
      · have := hb.size
        omega
end Go.Proofs.Ytdnnlfklanaliac
