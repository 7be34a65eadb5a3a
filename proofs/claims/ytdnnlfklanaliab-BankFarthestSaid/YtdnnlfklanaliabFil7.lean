/- gatepostkeep.filled: a bank into which grants were put, one behind the other. -/
import Derived.Test.YtdnnlfklanaliabGrs7
import Derived.Test.YtdnnlfklanaliabPutG
import Derived.Test.YtdnnlfklanaliabBkd7
namespace Go.Proofs.Ytdnnlfklanaliab
open Go.RowKit
set_option linter.unusedVariables false

/-- The grants that a bank has, into which these were put. -/
def putAll (l : List GrP) : List GrP := l.foldl putL []
theorem putAll_snoc (l : List GrP) (g : GrP) : putAll (l ++ [g]) = putL (putAll l) g := by
  unfold putAll
  rw [List.foldl_append]
  rfl
theorem fit_of {g : GrP} (h : GrZ g) (h1 : g.ask.dom.length ≤ 6) (h2 : g.paths.length ≤ 6) : GrFit g := by
  obtain ⟨a1, a2, a3, a4, a5, a6, a7, a8, a9, a10⟩ := h
  exact ⟨a1, a2, a3, ⟨a4, a5, a6, a7, by omega, a8⟩, by omega, a9, a10⟩
set_option maxRecDepth 100000 in
set_option maxHeartbeats 4000000 in
theorem filled_any (a0 : Option Addr) (len cap b off : Nat) (gs : List GrA) (hz : ∀ v ∈ gs, GrZ v.g) (hs : ∀ v ∈ gs, shortB v) (hn : len ≤ 30) (w : World) (h : Grs w a0 len b off gs) :
    Calls Try.prog 9 #[.slice a0 len cap] w fun e w' => e = .returned (.pointer (some ⟨w.heap.size, 0, none⟩)) ∧ Hid ((∃ gv G, BankW w' w.heap.size w.heap.size gv (.slice none 0 0) G [] ∧ G.map (·.g) = putAll (gs.map (·.g))) ∧ Below w.heap.size w w') := by
  have HS : Hid (Grs w a0 len b off gs) := h
  have HZ : Hid ((∀ v ∈ gs, GrZ v.g) ∧ ∀ v ∈ gs, shortB v) := ⟨hz, hs⟩
  have HL : Hid (gs.length = len) := h.len_eq
  have HB0 : Hid (Below w.heap.size w (w.alloc (.cells #[.slice none 0 0, .slice none 0 0] 54)) ∧ BankW (w.alloc (.cells #[.slice none 0 0, .slice none 0 0] 54)) w.heap.size w.heap.size (.slice none 0 0) (.slice none 0 0) [] []) := ⟨(Below.refl _ _).alloc (Nat.le_refl _) _, bank_new w⟩
  clear h hz hs
  go_enter Try.func9, Try.ntmps9
  go_wp2
  go_loopw [4] (fun i wr => ∃ k : Nat, k ≤ len ∧ i = .int .i64 k ∧ Hid ((∃ gv G, BankW wr w.heap.size w.heap.size gv (.slice none 0 0) G [] ∧ G.map (·.g) = putAll ((gs.take k).map (·.g))) ∧ Below w.heap.size w wr)) (fun i _ => len - (intOf i).toNat)
  case atStart => exact ⟨0, Nat.zero_le _, rfl, ⟨_, [], HB0.out.2, rfl⟩, HB0.out.1⟩
  case round =>
    obtain ⟨k, hk, rfl, HI⟩ := hrel
    by_cases hlt : k < len
    · have hkL : (k : Int) < (len : Int) := by omega
      obtain ⟨v, hv⟩ : ∃ v, gs[k]? = some v := ⟨gs[k]'(by have := HL.out; omega), List.getElem?_eq_getElem _⟩
      have hvm : v ∈ gs := List.mem_of_getElem? hv
      obtain ⟨ha0, _⟩ := HS.out.lies (by omega)
      subst ha0
      have hW := HS.out.below HI.out.2
      obtain ⟨c0, c1, c2, c3, c4, c5, c6, c7, c8, c9, c10, c11, c12, c13, c14, c15⟩ := hW.all hv
      obtain ⟨⟨gv, G, hB, hG⟩, hbel⟩ := HI.out
      have hsh := HZ.out.2 v hvm
      have hcall := put_at v.g (fit_of (HZ.out.1 v hvm) hsh.1 hsh.2) v.da v.pa v.g.ask.dom.length v.dc v.g.paths.length v.pc v.db v.doff v.pb v.poff wr (hW.dom v hvm) (hW.paths v hvm) w.heap.size w.heap.size gv (.slice none 0 0) G [] hB hbel.size
      have HST : Hid (putAll ((gs.take (k + 1)).map (·.g)) = putL (putAll ((gs.take k).map (·.g))) v.g) := by
        show _ = _
        obtain ⟨hk1, e1⟩ := List.getElem?_eq_some_iff.1 hv
        rw [List.take_succ_eq_append_getElem hk1, List.map_append, e1]
        exact putAll_snoc _ _
      have HBK : Hid (BankW wr w.heap.size w.heap.size gv (.slice none 0 0) G [] ∧ G.map (·.g) = putAll ((gs.take k).map (·.g)) ∧ Below w.heap.size w wr) := ⟨hB, hG, hbel⟩
      clear hB hG hbel HI hsh
      obtain ⟨⟨⟨os, oh, op⟩, px, us, pw, ⟨sc, re, no, oq, se, qo, st, dm⟩, ct, pt⟩, da, dc, db, doff, pa, pc, pb, poff⟩ := v
      simp only at hcall c0 c1 c2 c3 c4 c5 c6 c7 c8 c9 c10 c11 c12 c13 c14 c15
      clear hv hvm hW
      go_wp2_with fail
      refine hcall.mono ?_
      rintro e w1 ⟨rfl, gv', G', H'⟩
      have HR : Hid ((∃ gv G, BankW w1 w.heap.size w.heap.size gv (.slice none 0 0) G [] ∧ G.map (·.g) = putAll ((gs.take (k + 1)).map (·.g))) ∧ Below w.heap.size w w1) := by
        refine ⟨⟨gv', G', H'.out.1, by rw [H'.out.2.1, HST.out, HBK.out.2.1]⟩, ?_⟩
        exact HBK.out.2.2.trans (step_low HBK.out.1 HBK.out.2.2.size H'.out.2.2)
      clear H' hcall c0 c1 c2 c3 c4 c5 c6 c7 c8 c9 c10 c11 c12 c13 c14 c15
      go_wp2
      go_roundw
      case rel => exact ⟨k + 1, by omega, by go_num, HR.out⟩
      case measure => simp [intOf]; omega
    · have hkL : ¬ (k : Int) < (len : Int) := by omega
      have HE : Hid ((∃ gv G, BankW wr w.heap.size w.heap.size gv (.slice none 0 0) G [] ∧ G.map (·.g) = putAll (gs.map (·.g))) ∧ Below w.heap.size w wr) := by
        have := HI.out
        rw [List.take_of_length_le (by have := HL.out; omega)] at this
        exact this
      go_wp2
      go_ret
      exact ⟨rfl, HE.out⟩
end Go.Proofs.Ytdnnlfklanaliab
