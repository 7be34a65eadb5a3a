/- gatepostkeep.home; the facts of banked. -/
import Derived.Test.YtdnnlfklanaliabUse7
import Derived.Test.YtdnnlfklanaliabGrt7
import Derived.Test.YtdnnlfklanaliabPutG
import Derived.Test.YtdnnlfklanaliabFshA
namespace Go.Proofs.Ytdnnlfklanaliab
open Go.RowKit
set_option linter.unusedVariables false

/-- 'a.test'. -/
def homeO : OrgV := ⟨true, ⟨#[97, 46, 116, 101, 115, 116]⟩, 443⟩
set_option maxRecDepth 100000 in
set_option maxHeartbeats 2000000 in
theorem home_any (w : World) : Calls Try.prog 23 #[] w fun e w' => e = .returned (.agg #[.bool homeO.sec, .string homeO.host, .int .i64 homeO.port]) ∧ Below w.heap.size w w' := by
  go_enter Try.func23, Try.ntmps23
  go_wp2
  exact bodyPost_ret (v := .agg #[.bool true, .string ⟨#[97, 46, 116, 101, 115, 116]⟩, .int .i64 443]) (res_cell rfl rfl Try.isAgg29 Try.sizeOf29 (vs := [.bool true, .string ⟨#[97, 46, 116, 101, 115, 116]⟩, .int .i64 443]) rfl (heap_alloc_new w _)) rfl ⟨rfl, (Below.refl _ _).alloc (Nat.le_refl _) _⟩
/-- The grant that the fact puts. -/
def bankedG : GrP := ⟨homeO, false, ⟨#[]⟩, ⟨#[]⟩, ⟨1, ⟨#[114]⟩, ⟨#[]⟩, ⟨#[]⟩, false, ⟨#[]⟩, false, []⟩, 0, [⟨#[47, 97, 47]⟩]⟩
theorem banked_put : putL [] bankedG = [bankedG] := rfl
theorem banked_at : findI [bankedG] homeO false ⟨#[47, 97, 47, 98]⟩ = 0 := by decide +kernel
theorem banked_use : useL [bankedG] (findI [bankedG] homeO false ⟨#[47, 97, 47, 98]⟩) = ([moreP bankedG], moreP bankedG, 0) := by
  rw [banked_at]
  rfl
theorem banked_none : findI [moreP bankedG] homeO false ⟨#[47, 99]⟩ = -1 := by decide +kernel
end Go.Proofs.Ytdnnlfklanaliab
