/- The law BankApart, walked. -/
import Derived.Test.YtdnnlfklanaliacFil7
import Derived.Test.YtdnnlfklanaliacCpy7
import Derived.Test.YtdnnlfklanaliacSwp7
import Derived.Test.YtdnnlfklanaliacEqf7
namespace Go.Proofs.Ytdnnlfklanaliac
open Go.RowKit
set_option linter.unusedVariables false

theorem fit_small {g : GrP} (h : GrFit g) : g.ask.dom.length ≤ 1000 ∧ g.paths.length ≤ 1000 := ⟨h.2.2.2.1.2.2.2.2.1, h.2.2.2.2.1⟩
/-- Rows of a call's own that hold the same grants. -/
structure RowG (w : World) (B : Nat) (v : Value) (us : List GrV) (l : List GrP) : Prop where
  own : OwnK 16 38 w B v (us.map grCells)
  is : us.map (·.g) = l
  each : ∀ u ∈ us, GrOwn w B u
theorem RowG.below {w w' : World} {B : Nat} {v : Value} {us : List GrV} {l : List GrP} (h : RowG w B v us l) (hb : Below w.heap.size w w') : RowG w' B v us l := ⟨h.own.below hb, h.is, fun u hu => (h.each u hu).below hb⟩
theorem eqf_rows {v1 v2 : Value} {us vs : List GrV} {B B2 : Nat} {l : List GrP} (w : World) (h1 : RowG w B v1 us l) (h2 : RowG w B2 v2 vs l) (hf : ∀ g ∈ l, g.ask.dom.length ≤ 1000 ∧ g.paths.length ≤ 1000) (hl : l.length ≤ 1000) :
    Calls Try.prog 9 #[v1, v2, .func (.func 10) #[] #[]] w fun e w' => e = .returned (.bool true) ∧ Below w.heap.size w w' :=
  eqf_same v1 v2 us vs B B2 w h1.own h2.own (h1.is.trans h2.is.symm) h1.each h2.each (fun v hv => hf v.g (by rw [← h2.is]; exact List.mem_map.2 ⟨v, hv, rfl⟩)) (by rw [← List.length_map (f := (·.g)), h2.is]; exact hl)
theorem row_keep {w w' : World} {B : Nat} {t : TypeId} {k : Nat} {v : Value} {n : Nat} {us : List Value} (h : w.ownsRow B t k v n us) (hk : ∀ x, B ≤ x → x < w.heap.size → w'.heap[x]? = w.heap[x]?) : w'.ownsRow B t k v n us := by
  refine ⟨h.1, ?_⟩
  rcases h.2 with h0 | ⟨g, cap, cur, e, hB, hh, hr⟩
  · exact .inl h0
  · exact .inr ⟨g, cap, cur, e, hB, (hk g hB (Array.getElem?_eq_some_iff.1 hh).1).trans hh, hr⟩
theorem RowG.keep {w w' : World} {B : Nat} {v : Value} {us : List GrV} {l : List GrP} (h : RowG w B v us l) (hk : ∀ x, B ≤ x → x < w.heap.size → w'.heap[x]? = w.heap[x]?) : RowG w' B v us l :=
  ⟨⟨row_keep h.own.row hk, h.own.len, h.own.one⟩, h.is, fun u hu => ⟨row_keep (h.each u hu).dom hk, row_keep (h.each u hu).paths hk⟩⟩
theorem RowG.step {w w' : World} {B b : Nat} {v gv wv gv' wv' : Value} {us : List GrV} {l : List GrP} (h : RowG w B v us l) (hs : BankStep b gv wv w w' gv' wv') (hb : b < B) (hg : ∀ x, gv.ownBlock = some x → x < B) (hw : ∀ x, wv.ownBlock = some x → x < B) : RowG w' B v us l :=
  h.keep fun x hx hl => (hs.keep x hl (by omega) (fun e => by have := hg x e; omega) (fun e => by have := hw x e; omega)).1
set_option maxRecDepth 100000 in
set_option maxHeartbeats 4000000 in
theorem bankApart_walk (a0 : Option Addr) (len cap b off : Nat) (gs : List GrA) (hl : len ≤ 9223372036854775807) (hz : ∀ v ∈ gs, GrZ v.g) (a1 : Option Addr) (len1 cap1 b1 off1 : Nat) (ms : List GrA) (hl1 : len1 ≤ 9223372036854775807) (hz1 : ∀ v ∈ ms, GrZ v.g) (w : World) (h : Grs w a0 len b off gs) (h1 : Grs w a1 len1 b1 off1 ms) :
    Calls Try.prog 3 #[.slice a0 len cap, .slice a1 len1 cap1] w fun e w' => e = .returned (.bool true) ∧ Below w.heap.size w w' := by
  have HG : Hid (Grs w a0 len b off gs) := h
  have HM : Hid (Grs w a1 len1 b1 off1 ms) := h1
  have HZ : Hid ((∀ v ∈ gs, GrZ v.g) ∧ ∀ v ∈ ms, GrZ v.g) := ⟨hz, hz1⟩
  clear h h1 hz hz1
  go_enter Try.func3, Try.ntmps3
  go_wp2_with fail
  refine (banked_any _).mono ?_
  rintro e w1 ⟨rfl, hb1⟩
  have HB1 : Hid (Below w.heap.size w w1) := hb1
  clear hb1
  go_wp2_with fail
  refine (held_any a0 len cap b off gs HZ.out.1 hl _ (HG.out.below HB1.out)).mono ?_
  rintro e w2 ⟨⟨t, rfl, ht⟩, hb2⟩
  have HB2 : Hid (Below w.heap.size w w2) := HB1.out.trans (hb2.mono HB1.out.size)
  clear hb2 HB1 hl
  cases t
  · go_wp2
    go_ret
    exact ⟨rfl, HB2.out⟩
  obtain ⟨hn, hsh⟩ := ht rfl
  have HSH : Hid (∀ v ∈ gs, shortB v) := hsh
  clear ht hsh
  go_wp2_with fail
  refine (held_any a1 len1 cap1 b1 off1 ms HZ.out.2 hl1 _ (HM.out.below HB2.out)).mono ?_
  rintro e w3 ⟨⟨t, rfl, ht⟩, hb3⟩
  have HB3 : Hid (Below w.heap.size w w3) := HB2.out.trans (hb3.mono HB2.out.size)
  clear hb3 HB2 hl1
  cases t
  · go_wp2
    go_ret
    exact ⟨rfl, HB3.out⟩
  obtain ⟨hn1, hsh⟩ := ht rfl
  have HSM : Hid (∀ v ∈ ms, shortB v) := hsh
  clear ht hsh
  go_wp2_with fail
  refine (filled_any a0 len cap b off gs HZ.out.1 HSH.out hn _ (HG.out.below HB3.out)).mono ?_
  rintro e w4 ⟨rfl, H4⟩
  obtain ⟨⟨gv, G, hB, hG⟩, hb4⟩ := H4.out
  obtain ⟨lb, HLB⟩ : ∃ x, Hid (w3.heap.size = x) := ⟨_, rfl⟩
  rw [HLB.out] at hB ⊢
  have HB4 : Hid (Below w.heap.size w w4 ∧ BankW w4 lb lb gv (.slice none 0 0) G []) := ⟨HB3.out.trans (hb4.mono HB3.out.size), hB⟩
  clear H4 hB hG hb4 HB3 HLB
  go_wp2_with fail
  refine (copy_any _ HB4.out.2 (fun v hv => by cases hv)).mono ?_
  rintro e w5 ⟨c, gvc, wvc, Gc, Vc, rfl, H5⟩
  obtain ⟨bc, HBC⟩ : ∃ x, Hid (w4.heap.size = x) := ⟨_, rfl⟩
  have HB5 : Hid (Below w.heap.size w w5 ∧ BankW w5 lb lb gv (.slice none 0 0) G [] ∧ BankW w5 bc c gvc wvc Gc Vc ∧ Gc.map (·.g) = G.map (·.g) ∧ bc ≤ w5.heap.size) := ⟨HB4.out.1.trans (H5.out.2.2.2.mono HB4.out.1.size), HB4.out.2.below H5.out.2.2.2, by rw [← HBC.out]; exact H5.out.1, H5.out.2.1, by rw [← HBC.out]; exact H5.out.2.2.2.size⟩
  have HKB : Hid (∀ W, Below bc w5 W → BankW W lb lb gv (.slice none 0 0) G [] ∧ Below w.heap.size w W) := fun W hW => by
    rw [← HBC.out] at hW
    have h45 : Below w4.heap.size w4 W := H5.out.2.2.2.trans hW
    exact ⟨HB4.out.2.below h45, HB4.out.1.trans (h45.mono HB4.out.1.size)⟩
  have hbw : w.heap.size ≤ bc := by rw [← HBC.out]; exact HB4.out.1.size
  clear H5 HBC HB4
  have HFG : Hid (∀ g ∈ G.map (·.g), g.ask.dom.length ≤ 1000 ∧ g.paths.length ≤ 1000) := fun g hg => by
    obtain ⟨v, hv, rfl⟩ := List.mem_map.1 hg
    exact fit_small (HB5.out.2.1.gf v hv)
  have HGL : Hid ((G.map (·.g)).length ≤ 1000) := by have := HB5.out.2.1.glen; show _ ≤ _; rw [List.length_map]; omega
  obtain ⟨s5, HS5⟩ : ∃ x, Hid (w5.heap.size = x) := ⟨_, rfl⟩
  have HGV : Hid (c < s5 ∧ (∀ x, gvc.ownBlock = some x → x < s5) ∧ ∀ x, wvc.ownBlock = some x → x < s5) := by
    rw [← HS5.out]
    exact ⟨(Array.getElem?_eq_some_iff.1 HB5.out.2.2.1.blk).1, fun x e => (HB5.out.2.2.1.gs.lt x e).2, fun x e => (HB5.out.2.2.1.ws.lt x e).2⟩
  go_wp2_with fail
  refine (grants_any _ HB5.out.2.1).mono ?_
  rintro e w6 ⟨⟨wasv, us, rfl, hown6, his6, hea6⟩, hb6⟩
  rw [HS5.out] at hown6 hea6
  have HR6 : Hid (RowG w6 s5 wasv us (G.map (·.g))) := ⟨hown6, his6, hea6⟩
  have HB6 : Hid (Below bc w5 w6) := hb6.mono HB5.out.2.2.2.2
  have hb6' : Hid (BankW w6 bc c gvc wvc Gc Vc) := HB5.out.2.2.1.below hb6
  clear hown6 his6 hea6 hb6 HS5
  go_wp2_with fail
  refine (grants_any _ hb6'.out).mono ?_
  rintro e w7 ⟨⟨cv, us7, rfl, hown7, his7, hea7⟩, hb7⟩
  have HR7 : Hid (RowG w7 s5 wasv us (G.map (·.g)) ∧ ∃ B, RowG w7 B cv us7 (G.map (·.g))) :=
    ⟨HR6.out.below hb7, ⟨_, hown7, his7.trans HB5.out.2.2.2.1, hea7⟩⟩
  have HB7 : Hid (Below bc w5 w7 ∧ BankW w7 bc c gvc wvc Gc Vc) := ⟨HB6.out.trans (hb7.mono (Nat.le_trans HB5.out.2.2.2.2 HB6.out.size)), hb6'.out.below hb7⟩
  clear hown7 his7 hea7 hb7 HR6 HB6 hb6'
  obtain ⟨hr1, B2, hr2⟩ := HR7.out
  go_wp2_with fail
  refine (eqf_rows _ hr2 hr1 HFG.out HGL.out).mono ?_
  rintro e w8 ⟨rfl, hb8⟩
  have HR8 : Hid (RowG w8 s5 wasv us (G.map (·.g))) := hr1.below hb8
  have HB8 : Hid (Below bc w5 w8 ∧ BankW w8 bc c gvc wvc Gc Vc ∧ bc ≤ w8.heap.size) := ⟨HB7.out.1.trans (hb8.mono (Nat.le_trans HB5.out.2.2.2.2 HB7.out.1.size)), HB7.out.2.below hb8, Nat.le_trans HB5.out.2.2.2.2 (Nat.le_trans HB7.out.1.size hb8.size)⟩
  clear hr1 hr2 hb8 HR7 HB7 HB5
  have HLM : Hid (ms.length = len1) := HM.out.len_eq
  go_wp2
  go_loopw [8] (fun i wr => ∃ (k : Nat) (gq wq : Value) (Gq : List GrV) (Vq : List WtV), k ≤ len1 ∧ i = .int .i64 k ∧ Hid (BankW wr bc c gq wq Gq Vq ∧ BankStep c gvc wvc w8 wr gq wq)) (fun i _ => len1 - (intOf i).toNat)
  case atStart => exact ⟨0, gvc, wvc, Gc, Vc, Nat.zero_le _, rfl, HB8.out.2.1, BankStep.of_below (Below.refl _ _)⟩
  case round =>
    obtain ⟨k, gq, wq, Gq, Vq, hk, rfl, HI⟩ := hrel
    have HBE : Hid (Below bc w5 wr ∧ bc ≤ wr.heap.size) := by
      have h8 := step_low HB8.out.2.1 HB8.out.2.2 HI.out.2
      exact ⟨HB8.out.1.trans h8, Nat.le_trans HB8.out.2.2 h8.size⟩
    by_cases hlt : k < len1
    · have hkL : (k : Int) < (len1 : Int) := by omega
      obtain ⟨v, hv⟩ : ∃ v, ms[k]? = some v := ⟨ms[k]'(by have := HLM.out; omega), List.getElem?_eq_getElem _⟩
      have hvm : v ∈ ms := List.mem_of_getElem? hv
      obtain ⟨ha0, _⟩ := HM.out.lies (by omega)
      subst ha0
      have hW := HM.out.below (HKB.out wr HBE.out.1).2
      obtain ⟨c0, c1, c2, c3, c4, c5, c6, c7, c8, c9, c10, c11, c12, c13, c14, c15⟩ := hW.all hv
      have hsh := HSM.out v hvm
      have hcall := put_at v.g (fit_of (HZ.out.2 v hvm) hsh.1 hsh.2) v.da v.pa v.g.ask.dom.length v.dc v.g.paths.length v.pc v.db v.doff v.pb v.poff wr (hW.dom v hvm) (hW.paths v hvm) bc c gq wq Gq Vq HI.out.1 HBE.out.2
      have HALL : Hid (∀ W, Below bc wr W → W.cell? ⟨b1, off1 + k * 16, none⟩ = some (.bool v.g.org.sec) ∧ W.cell? ⟨b1, off1 + k * 16 + 1, none⟩ = some (.string v.g.org.host) ∧ W.cell? ⟨b1, off1 + k * 16 + 2, none⟩ = some (.int .i64 v.g.org.port)) := fun W hWb => by
        have hW2 := HM.out.below (HKB.out W (HBE.out.1.trans hWb)).2
        obtain ⟨d0, d1, d2, _⟩ := hW2.all hv
        exact ⟨d0, d1, d2⟩
      clear hsh
      obtain ⟨⟨⟨os, oh, op⟩, px, us', pw, ⟨sc, re, no, oq, se, qo, st, dm⟩, ct, pt⟩, da, dc, db, doff, pa, pc, pb, poff⟩ := v
      simp only at hcall c0 c1 c2 c3 c4 c5 c6 c7 c8 c9 c10 c11 c12 c13 c14 c15 HALL
      clear hv hvm hW
      go_wp2_with fail
      refine hcall.mono ?_
      rintro e w9 ⟨rfl, gv', G', H'⟩
      have h9 := step_low HI.out.1 HBE.out.2 H'.out.2.2
      have H9 : Hid (BankW w9 bc c gv' wq G' Vq ∧ bc ≤ w9.heap.size ∧ BankStep c gvc wvc w8 w9 gv' wq) := ⟨H'.out.1, Nat.le_trans HBE.out.2 h9.size, HI.out.2.trans H'.out.2.2⟩
      clear c0 c1 c2 c3 c4 c5 c6 c7 c8 c9 c10 c11 c12 c13 c14 c15
      obtain ⟨c0, c1, c2⟩ := HALL.out w9 h9
      clear H' hcall h9
      go_wp2_with fail
      refine (sweep_any _ H9.out.1 H9.out.2.1 ⟨os, oh, op⟩).mono ?_
      rintro e w10 ⟨rfl, gv2, wv2, G2, V2, H2⟩
      have HR : Hid (BankW w10 bc c gv2 wv2 G2 V2 ∧ BankStep c gvc wvc w8 w10 gv2 wv2) := ⟨H2.out.1, H9.out.2.2.trans H2.out.2.2.2⟩
      clear H2 H9 c0 c1 c2 HALL
      go_wp2
      go_roundw
      case rel => exact ⟨k + 1, gv2, wv2, G2, V2, by omega, by go_num, HR.out⟩
      case measure => simp [intOf]; omega
    · have hkL : ¬ (k : Int) < (len1 : Int) := by omega
      have hkb := HKB.out wr HBE.out.1
      have HR9 : Hid (RowG wr s5 wasv us (G.map (·.g))) := HR8.out.step HI.out.2 HGV.out.1 HGV.out.2.1 HGV.out.2.2
      have HKW : Hid (BankW wr lb lb gv (.slice none 0 0) G [] ∧ Below w.heap.size w wr) := hkb
      clear hkb
      go_wp2_with fail
      refine (grants_any _ HKW.out.1).mono ?_
      rintro e w10 ⟨⟨bv, us10, rfl, hown10, his10, hea10⟩, hb10⟩
      have HRA : Hid (RowG w10 s5 wasv us (G.map (·.g)) ∧ RowG w10 wr.heap.size bv us10 (G.map (·.g))) := ⟨HR9.out.below hb10, hown10, his10, hea10⟩
      have HBA : Hid (Below w.heap.size w w10) := HKW.out.2.trans (hb10.mono HKW.out.2.size)
      clear hown10 his10 hea10 hb10
      go_wp2_with fail
      refine (eqf_rows _ HRA.out.2 HRA.out.1 HFG.out HGL.out).mono ?_
      rintro e w11 ⟨rfl, hb11⟩
      have HBZ : Hid (Below w.heap.size w w11) := HBA.out.trans (hb11.mono HBA.out.size)
      clear hb11 HRA HBA
      go_wp2
      go_ret
      exact ⟨rfl, HBZ.out⟩
end Go.Proofs.Ytdnnlfklanaliac
