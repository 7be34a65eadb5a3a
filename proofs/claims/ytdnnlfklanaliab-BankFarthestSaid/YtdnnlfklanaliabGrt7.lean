/- A bank's grants, cloned. -/
import Derived.Test.YtdnnlfklanaliabBkD
import Derived.Test.YtdnnlfklanaliabEchG
import Derived.Test.YtdnnlfklanaliabFshG
import Derived.Test.YtdnnlfklanaliabTld7
namespace Go.Proofs.Ytdnnlfklanaliab
open Go.RowKit
set_option linter.unusedVariables false

theorem freshG_any (v : GrV) (B : Nat) (hfit : GrFit v.g) (w : World) (h : GrOwn w B v) :
    Calls Try.prog 30 #[.agg (grCells v).toArray] w fun e w' => (∃ u : GrV, e = .returned (.agg (grCells u).toArray) ∧ u.g = v.g ∧ GrOwn w' w.heap.size u) ∧ Below w.heap.size w w' := by
  obtain ⟨da, dc, dg, hdv, hds⟩ := h.dom.strs
  obtain ⟨pa, pc, pg, hpv, hps⟩ := h.paths.strs
  have hc := freshG_at v.g hfit da pa _ dc _ pc dg 0 pg 0 w hds hps
  rw [← hdv, ← hpv] at hc
  refine hc.mono ?_
  rintro e w' ⟨⟨a, u, rfl, h1, h2⟩, hb⟩
  exact ⟨⟨⟨v.g, a, u⟩, rfl, rfl, ⟨h1, h2⟩⟩, hb⟩
theorem stays_own (B : Nat) : Stays 36 (fun W (u : GrV) => GrOwn W B u) := fun W W' row u hg ht h => h.other hg ht (by decide)
set_option maxHeartbeats 2000000 in
theorem ech_none (w : World) (F : Value) : Calls Try.prog 29 #[.slice none 0 0, F] w fun e w' => e = .returned (.slice none 0 0) ∧ w' = w := by
  go_enter Try.func29, Try.ntmps29
  go_wp2
  refine wp_loop_rounds 1 ?_
  rw [rounds_succ]
  go_wp2
  go_ret
  exact ⟨rfl, rfl⟩
theorem infoE : (Try.prog.info? 36).map (fun i => (i.zero, i.size, i.bytes)) = some (some (.agg #[.bool false, .string ⟨#[]⟩, .int .i64 0, .bool false, .string ⟨#[]⟩, .string ⟨#[]⟩, .int .i64 0, .string ⟨#[]⟩, .string ⟨#[]⟩, .string ⟨#[]⟩, .bool false, .string ⟨#[]⟩, .bool false, .slice none 0 0, .int .i64 0, .slice none 0 0]), 16, 216) := by kernel_rfl
/-- Grants handed out. -/
def GrtAns (l : List GrP) (B : Nat) (e : Ending) (w' : World) : Prop := ∃ (val : Value) (us : List GrV), e = .returned val ∧ OwnK 16 36 w' B val (us.map grCells) ∧ us.map (·.g) = l ∧ ∀ u ∈ us, GrOwn w' B u
theorem each_any (gv : Value) (B : Nat) (G : List GrV) (hl : G.length ≤ 1000) (w : World) (hown : OwnK 16 36 w B gv (G.map grCells)) (hgo : ∀ v ∈ G, GrOwn w B v) (hgf : ∀ v ∈ G, GrFit v.g) :
    Calls Try.prog 29 #[gv, .func (.func 30) #[] #[]] w fun e w' => GrtAns (G.map (·.g)) w.heap.size e w' ∧ Below w.heap.size w w' := by
  rcases hown.forms with ⟨rfl, e2⟩ | ⟨g, cap, rfl, _, _, _, _⟩
  · obtain rfl : G = [] := List.map_eq_nil_iff.1 e2
    refine (ech_none w _).mono ?_
    rintro e w' ⟨rfl, rfl⟩
    exact ⟨⟨_, [], rfl, ownK_nil _ _ _ _, rfl, fun u hu => (by cases hu)⟩, Below.refl _ _⟩
  · rw [List.length_map] at hown ⊢
    obtain ⟨i0, hi0, hz0, hz1, hz2⟩ := info_parts infoE
    refine (echG_of Try.prog Try.func29 (by kernel_rfl) Try.underlying22 Try.isAgg22 Try.sizeOf22 Try.underlying3 Try.isAgg3 Try.sizeOf3 Try.zeroValue3 Try.underlying4 Try.isAgg4 Try.sizeOf4 16 (by omega) (by omega) Try.isAgg36 Try.sizeOf36 _ Try.zeroValue36 rfl (by decide) i0 hi0 hz1 hz0 216 hz2 (by omega) grCells (fun v : GrV => v.g) grCells_len (fun W (u : GrV) => GrOwn W w.heap.size u) (stays_own _) (fun W u hu => hu.one) g _ cap B G rfl hl w hown 30 (enters_at Try.func30 (by kernel_rfl) rfl) (fun W v hv hb => ?_)).mono ?_
    · refine (freshG_any v B (hgf v hv) W ((hgo v hv).below hb)).mono ?_
      rintro e w' ⟨⟨u, rfl, hu, ho⟩, hb2⟩
      exact ⟨⟨u, rfl, hu, ho.mono hb.size⟩, hb2⟩
    · rintro e w' ⟨⟨val, us, rfl, h1, h2, h3⟩, hb⟩
      exact ⟨⟨val, us, rfl, h1, h2, h3⟩, hb⟩
set_option maxHeartbeats 2000000 in
theorem grants_any {B b : Nat} {gv wv : Value} {G : List GrV} {V : List WtV} (w : World) (h : BankW w B b gv wv G V) :
    Calls Try.prog 10 #[.pointer (some ⟨b, 0, none⟩)] w fun e w' => GrtAns (G.map (·.g)) w.heap.size e w' ∧ Below w.heap.size w w' := by
  have hc := cell_of (i := 0) h.blk
  simp only [List.getElem?_toArray, List.getElem?_cons_zero] at hc
  have he := each_any gv B G (by have := h.glen; omega) w h.gs h.go h.gf
  have HL : Hid (BankW w B b gv wv G V) := h
  clear h
  go_enter Try.func10, Try.ntmps10
  go_wp2_with fail
  refine he.mono ?_
  rintro e w1 ⟨⟨val, us, rfl, h1, h2, h3⟩, hb⟩
  go_wp2
  go_ret
  exact ⟨⟨val, us, rfl, h1, h2, h3⟩, hb⟩
end Go.Proofs.Ytdnnlfklanaliab
