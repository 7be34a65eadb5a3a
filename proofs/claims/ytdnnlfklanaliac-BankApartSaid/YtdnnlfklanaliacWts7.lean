/- A bank's waits, cloned. -/
import Derived.Test.YtdnnlfklanaliacBkD
import Derived.Test.YtdnnlfklanaliacEchW
import Derived.Test.YtdnnlfklanaliacFshW
namespace Go.Proofs.Ytdnnlfklanaliac
open Go.RowKit
set_option linter.unusedVariables false

theorem freshW_any (v : WtV) (B : Nat) (hfit : WtFit v.g) (w : World) (h : WtOwn w B v) :
    Calls Try.prog 38 #[.agg (wtCells v).toArray] w fun e w' => (∃ u : WtV, e = .returned (.agg (wtCells u).toArray) ∧ u.g = v.g ∧ WtOwn w' w.heap.size u) ∧ Below w.heap.size w w' := by
  obtain ⟨da, dc, dg, hdv, hds⟩ := OwnS.strs h
  have hc := freshW_at v.g hfit da _ dc dg 0 w hds
  rw [← hdv] at hc
  refine hc.mono ?_
  rintro e w' ⟨⟨a, rfl, h1⟩, hb⟩
  exact ⟨⟨⟨v.g, a⟩, rfl, rfl, h1⟩, hb⟩
theorem stays_ownW (B : Nat) : Stays 67 (fun W (u : WtV) => WtOwn W B u) := fun W W' row u hg ht h => OwnS.other h hg ht (by decide)
set_option maxHeartbeats 2000000 in
theorem ech_noneW (w : World) (F : Value) : Calls Try.prog 37 #[.slice none 0 0, F] w fun e w' => e = .returned (.slice none 0 0) ∧ w' = w := by
  go_enter Try.func37, Try.ntmps37
  go_wp2
  refine wp_loop_rounds 1 ?_
  rw [rounds_succ]
  go_wp2
  go_ret
  exact ⟨rfl, rfl⟩
theorem infoW : (Try.prog.info? 67).map (fun i => (i.zero, i.size, i.bytes)) = some (some (.agg #[.bool false, .string ⟨#[]⟩, .int .i64 0, .bool false, .string ⟨#[]⟩, .int .i64 0, .string ⟨#[]⟩, .string ⟨#[]⟩, .string ⟨#[]⟩, .bool false, .string ⟨#[]⟩, .bool false, .slice none 0 0]), 13, 168) := by kernel_rfl
/-- Grants handed out. -/
def WtsAns (l : List WtP) (B : Nat) (e : Ending) (w' : World) : Prop := ∃ (val : Value) (us : List WtV), e = .returned val ∧ OwnK 13 67 w' B val (us.map wtCells) ∧ us.map (·.g) = l ∧ ∀ u ∈ us, WtOwn w' B u
theorem each_anyW (gv : Value) (B : Nat) (V : List WtV) (hl : V.length ≤ 1000) (w : World) (hown : OwnK 13 67 w B gv (V.map wtCells)) (hgo : ∀ v ∈ V, WtOwn w B v) (hgf : ∀ v ∈ V, WtFit v.g) :
    Calls Try.prog 37 #[gv, .func (.func 38) #[] #[]] w fun e w' => WtsAns (V.map (·.g)) w.heap.size e w' ∧ Below w.heap.size w w' := by
  rcases hown.forms with ⟨rfl, e2⟩ | ⟨g, cap, rfl, _, _, _, _⟩
  · obtain rfl : V = [] := List.map_eq_nil_iff.1 e2
    refine (ech_noneW w _).mono ?_
    rintro e w' ⟨rfl, rfl⟩
    exact ⟨⟨_, [], rfl, ownK_nil _ _ _ _, rfl, fun u hu => (by cases hu)⟩, Below.refl _ _⟩
  · rw [List.length_map] at hown ⊢
    obtain ⟨i0, hi0, hz0, hz1, hz2⟩ := info_parts infoW
    refine (echW_of Try.prog Try.func37 (by kernel_rfl) Try.underlying43 Try.isAgg43 Try.sizeOf43 Try.underlying3 Try.isAgg3 Try.sizeOf3 Try.zeroValue3 Try.underlying4 Try.isAgg4 Try.sizeOf4 13 (by omega) (by omega) Try.isAgg67 Try.sizeOf67 _ Try.zeroValue67 rfl (by decide) i0 hi0 hz1 hz0 168 hz2 (by omega) wtCells (fun v : WtV => v.g) wtCells_len (fun W (u : WtV) => WtOwn W w.heap.size u) (stays_ownW _) (fun W u hu => wtOwn_one hu) g _ cap B V rfl hl w hown 38 (enters_at Try.func38 (by kernel_rfl) rfl) (fun W v hv hb => ?_)).mono ?_
    · refine (freshW_any v B (hgf v hv) W (OwnS.below (hgo v hv) hb)).mono ?_
      rintro e w' ⟨⟨u, rfl, hu, ho⟩, hb2⟩
      exact ⟨⟨u, rfl, hu, ownS_mono ho hb.size⟩, hb2⟩
    · rintro e w' ⟨⟨val, us, rfl, h1, h2, h3⟩, hb⟩
      exact ⟨⟨val, us, rfl, h1, h2, h3⟩, hb⟩
set_option maxHeartbeats 2000000 in
theorem waits_any {B b : Nat} {gv wv : Value} {G : List GrV} {V : List WtV} (w : World) (h : BankW w B b gv wv G V) (hwf : ∀ v ∈ V, WtFit v.g) :
    Calls Try.prog 20 #[.pointer (some ⟨b, 0, none⟩)] w fun e w' => WtsAns (V.map (·.g)) w.heap.size e w' ∧ Below w.heap.size w w' := by
  have hc := cell_of (i := 1) h.blk
  simp only [List.getElem?_toArray, List.getElem?_cons_zero, List.getElem?_cons_succ] at hc
  have he := each_anyW wv B V (by have := h.vlen; omega) w h.ws h.wo hwf
  have HL : Hid (BankW w B b gv wv G V) := h
  clear h
  go_enter Try.func20, Try.ntmps20
  go_wp2_with fail
  refine he.mono ?_
  rintro e w1 ⟨⟨val, us, rfl, h1, h2, h3⟩, hb⟩
  go_wp2
  go_ret
  exact ⟨⟨val, us, rfl, h1, h2, h3⟩, hb⟩
end Go.Proofs.Ytdnnlfklanaliac
