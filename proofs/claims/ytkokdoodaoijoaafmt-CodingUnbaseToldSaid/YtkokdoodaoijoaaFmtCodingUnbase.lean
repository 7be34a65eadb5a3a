/- The bytes that any letters are, by the program, are the document's own answer: the law CodingUnbase returns true at every text. What fmt gives is told by the authors' own function, tested against real Go, not proved from fmt's source; the library's variable is tied to the program's text, by the translator's own report over the pruned copy. -/
import Derived.Test.YtkokdoodaoijoaaFmtRefUnb
import Derived.Test.YtkokdoodaoijoaaFmtTell
import Derived.Test.YtkokdoodaoijoaaFmtCards
import Derived.Test.YtkokdoodaoijoaaFmtTie
import Derived.ProofKit
import Derived.OpenShut
import Derived.ShutString
import Derived.ChangeOld
import Derived.Below
import Derived.Stop.JoinedAt
import Derived.Stop.Joined
import Derived.Stop.Texts
import Derived.Stop.JoinedTold
import Derived.SizedLaws
import Derived.SevenTiedAt
import Derived.LaidMore
import Derived.LaidHandle
import Derived.Deep.DeepWitnessRef
import Derived.MakeChecks
namespace Go.Proofs.YtkokdoodaoijoaaFmt
open Go.ChangeShapes Go.WideShapes Go.ChangeAt Go.RowKit Go.Kit
open Go.ChangeMaps (open_string shut_string)
open Go.Extern.Stop Go.Stop Go.Extern
set_option linter.unusedVariables false

set_option maxHeartbeats 800000 in
theorem codingUnbase_walk (F : Interp) (s : ByteArray) (w : World) (hF : F.told.answers w.tape) (hg : ErrT w) :
    Calls Tryf.prog 6 #[.string s] w fun e w' => e = .returned (.bool true) ∧ Below w.heap.size w w' := by
  have HG : Hid (ErrT w) := hg
  clear hg
  by_cases h : (300 : Int) < (s.size : Int)
  · go_enter Tryf.func6, Tryf.ntmps6
    go_wp2
    go_ret
    exact ⟨rfl, Below.refl _ _⟩
  · have h3 : s.size ≤ 300 := by omega
    go_enter Tryf.func6, Tryf.ntmps6
    go_wp2_with fail
    refine (refUnb_any F s _ hF h3).mono ?_
    rintro e w1 ⟨hb1, ⟨o1, rfl, ho1⟩ | ⟨rfl, hn1⟩⟩
    · have H1 : Hid (enc o1 = s.data.toList) := ho1
      clear ho1
      go_wp2_with fail
      refine (unbase_any s _ (by omega)).mono ?_
      rintro e w2 ⟨hb2, ⟨o2, rfl, ho2⟩ | ⟨rfl, hn2⟩⟩
      · have e : o2 = o1 := enc_inj o2 o1 (by rw [ho2, H1.out])
        subst e
        clear ho2 H1
        go_wp2_with fail
        refine (bare_nil _).mono ?_
        rintro e w3 ⟨rfl, hb3⟩
        go_wp2
        go_ret
        have s1 := hb1.size
        have s2 := hb2.size
        exact ⟨by simp, (hb1.trans (hb2.mono (by omega))).trans (hb3.mono (by omega))⟩
      · exact absurd H1.out (hn2 o1)
    · have H1 : Hid (∀ o, enc o ≠ s.data.toList) := hn1
      clear hn1
      go_wp2_with fail
      refine (unbase_any s _ (by omega)).mono ?_
      rintro e w2 ⟨hb2, ⟨o2, rfl, ho2⟩ | ⟨rfl, hn2⟩⟩
      · exact absurd ho2 (H1.out o2)
      · clear hn2
        have s1 := hb1.size
        have hb12 : Below w.heap.size w w2 := hb1.trans (hb2.mono (by omega))
        go_wp2_with fail
        refine (bare_form _ (HG.out.below hb12)).mono ?_
        rintro e w3 ⟨rfl, hb3⟩
        go_wp2
        go_ret
        exact ⟨by simp, hb12.trans (hb3.mono hb12.size)⟩

theorem etAt : Tryf.prog.globalNamed "errors.errorType" = some 1 := by kernel_rfl
theorem rtAt : (Tryf.prog.cutTypes.find? (·.1 == "internal/reflectlite.rtype")).map (·.2) = some 80 := by kernel_rfl
theorem oneError : ((List.range Tryf.prog.types.size).filter fun t => Tryf.prog.rowNamed t [101, 114, 114, 111, 114]) = [28] := by kernel_rfl
theorem errT_of_handles {W : World} (h : handlesMet Tryf.prog [("errors.errorType", Rows.laid_errors_errorType)] W) : ErrT W := by
  obtain ⟨name, u, ty, e1, e2, e3, e4, e5⟩ := h _ (List.mem_singleton.2 rfl)
  have en : name = [101, 114, 114, 111, 114] := (Option.some.inj e1).symm
  subst en
  obtain rfl := Option.some.inj (rtAt.symm.trans e2)
  have hm : ty ∈ (List.range Tryf.prog.types.size).filter fun t => Tryf.prog.rowNamed t [101, 114, 114, 111, 114] := List.mem_filter.2 ⟨List.mem_range.2 e3, e4⟩
  rw [oneError] at hm
  obtain rfl := List.mem_singleton.1 hm
  have hh : typeHandle Tryf.prog 28 = .pointer (some ⟨7, 28, none⟩) := by kernel_rfl
  rw [hh] at e5
  have hc : W.cell? ⟨1, 0, none⟩ = some (.iface 80 (.agg #[.pointer (some ⟨7, 28, none⟩)])) := by
    simpa using World.var?_cell etAt e5 0
  refine ⟨hc, ?_⟩
  rcases Nat.lt_or_ge 1 W.heap.size with h | h
  · exact h
  · simp [World.cell?, Array.getElem?_eq_none h] at hc

theorem codingUnbase_door (os : Os) (args : Array Value) : laidMetH Tryf.prog Rows.codingUnbaseRow.laid ((World.doorLaid Tryf.prog 69 os).forCall (fun _ _ => 0) ⟨#[], args, []⟩).memory :=
  laidMetH_of_parts3 (fuel := 8) (laidMet_of_run' 8 (by kernel_rfl) (by kernel_rfl)) (by kernel_rfl) (by kernel_rfl)
theorem codingUnbase_witness (os : Os) {H : Type} (enc : TypeId × Value → H) :
    (OpenSpec.ofChange Rows.codingUnbaseSpec).preRow enc Tryf.prog Tryf.f6 [] false Rows.codingUnbaseRow.laid ((World.doorLaid Tryf.prog 69 os).forCall (fun _ _ => 0) ⟨#[], #[.string ⟨#[]⟩], []⟩).memory #[.string ⟨#[]⟩] := by
  have hw : (DataW.whole enc Tryf.prog ((World.doorLaid Tryf.prog 69 os).forCall (fun _ _ => 0) ⟨#[], #[.string ⟨#[]⟩], []⟩).memory Tryf.f6.params.toList (OpenSpec.ofChange Rows.codingUnbaseSpec).vars false #[Value.string ⟨#[]⟩].toList 8).map (fun x => (x.1, x.2.1)) =
      some ([.lit (.string [])], []) := by kernel_rfl
  obtain ⟨⟨x1, x2, x3⟩, hx, hx1⟩ := Option.map_eq_some_iff.1 hw
  simp only [Prod.mk.injEq] at hx1
  obtain ⟨rfl, rfl⟩ := hx1
  exact OpenSpec.preRow_of_cond 8 hx (by kernel_rfl) (fun k hk => by cases hk) (by kernel_rfl) (codingUnbase_door os _)

set_option maxRecDepth 100000 in
theorem codingUnbase_lifted (os : Os) (started : os.Started) (H : Type) (enc : TypeId × Value → H) :
    ReturnsInTold none {} Tryf.checked os 6 .any Input.okWide ((OpenSpec.ofChange Rows.codingUnbaseSpec).preRow enc Tryf.prog Tryf.f6 [] false Rows.codingUnbaseRow.laid) (fun F => ((OpenSpec.ofChange Rows.codingUnbaseSpec).at F).post enc Tryf.prog Tryf.f6 false true false false) (aloneAtReturn Tryf.prog) nothingAlways := by
  refine returnsInTold_of_row (C := Tryf.checked) (s := OpenSpec.ofChange Rows.codingUnbaseSpec) (by kernel_rfl) own started (by kernel_rfl) Tryf.func6
    (OpenSpec.witness_stopped_atRef (enc := enc) (C := Tryf.checked) false (World.doorLaid Tryf.prog 69 os) #[.string ⟨#[]⟩] rfl (by kernel_rfl) (by kernel_rfl) (by kernel_rfl) (codingUnbase_witness os enc)) ?_
  intro F W base args ds gs before _ hF hval0 hW _ _ hsz hL _
  have hval : ∀ (j : Nat) t v, Tryf.f6.params[j]? = some t → args[j]? = some v → Value.okWide Tryf.prog W .any base t v := hval0
  have hW' := hW
  obtain ⟨p, q, hA0, hV, rfl, hfz, hnd⟩ := hW
  have hA : DataW.TrodAll enc Tryf.prog W 0 (fun _ => true) true Tryf.f6.params.toList args.toList ds p := hA0
  rw [Tryf.params6] at hA hval
  obtain ⟨v0, vs0, d0, ds0, p0, q0, hargs, rfl, rfl, h0, r0⟩ := trodAll_cons hA
  obtain ⟨rfl, rfl, rfl⟩ := trodAll_nil r0
  obtain rfl : args = #[v0] := by cases args; simp_all
  obtain ⟨rfl, rfl⟩ := trodVars_none hV
  obtain ⟨a0, rfl, rfl, rfl, w0⟩ := open_string Tryf.underlying9 (hval 0 9 v0 rfl rfl) h0
  clear hA0 hval0
  simp only [List.append_nil] at hW'
  have hL' : laidMet Tryf.prog (Rows.codingUnbaseRow.laid.filter fun x => x.2.handleName?.isNone) W ∧ handlesMet Tryf.prog [("errors.errorType", Rows.laid_errors_errorType)] W := hL
  refine (codingUnbase_walk F a0 W hF (errT_of_handles hL'.2)).mono fun e W' ⟨he, bel⟩ => ?_
  subst he
  exact ⟨_, rfl, _, _, _, [], [], [], hW', trodAll_mk1 (shut_bool Tryf.underlying4 _), (trodAll_cons_mk (shut_string Tryf.underlying9 w0) trodAll_mk0), rfl, bel.frame _, fun h => by cases h⟩

theorem laidOut : laidOutB Tryf.pinned.checked.prog = true := by kernel_rfl
theorem seatStops : Tryf.pinned.checked.prog.stops = ["fmt.Sprintf"] := by kernel_rfl
theorem seatKnobs : Tryf.pinned.checked.prog.stopKnobs = [] := by kernel_rfl
theorem seatQuiet (os : Os) : Stop.quiet Tryf.pinned.checked.prog os := by
  intro k hk
  rw [seatKnobs] at hk
  cases hk

theorem codingUnbase_holds : Rows.CodingUnbaseToldSaid :=
  Claim7.holds_of_told_tied_any_at .later 6 Tryf.f6 "fmt.Sprintf" [] [] _ _ _ _ _ (by kernel_rfl) rfl rfl rfl laidOut (by kernel_rfl) rfl ⟨rfl, rfl, rfl, rfl, rfl, rfl, rfl⟩ rfl rfl (by kernel_rfl) (by kernel_rfl) Tryf.func6 (by kernel_rfl)
    (of_decide_eq_true (by kernel_rfl)) (of_decide_eq_true (by kernel_rfl)) seatStops.symm rfl seatKnobs.symm (by kernel_rfl)
    (by kernel_rfl) (by kernel_rfl) (by kernel_rfl) (by kernel_rfl) (by kernel_rfl) (by kernel_rfl) (by kernel_rfl) (by kernel_rfl) (by kernel_rfl) rfl (by kernel_rfl) rfl rfl
    rfl rfl
    rfl (by kernel_rfl) (by kernel_rfl) (by kernel_rfl) (by decide) (by kernel_rfl) codingUnbase_row_tie
    (OpenClaim.moreEntering_of (by kernel_rfl) (by kernel_rfl) (by kernel_rfl) (by kernel_rfl) (by kernel_rfl) (by kernel_rfl) (by kernel_rfl) (by kernel_rfl) (by kernel_rfl) (by kernel_rfl))
    ⟨_, WideRow.started_initial, seatQuiet _⟩
    (fun os started _ H enc _ => codingUnbase_lifted os started H enc)
#print axioms codingUnbase_holds
end Go.Proofs.YtkokdoodaoijoaaFmt
