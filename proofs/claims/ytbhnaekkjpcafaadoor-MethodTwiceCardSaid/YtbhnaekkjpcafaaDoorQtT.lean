/- A byte that may stand between marks, by the program. -/
import Derived.Test.YtbhnaekkjpcafaaDoorTkB
import Derived.Test.YtbhnaekkjpcafaaDoorApp
import Derived.Test.YtbhnaekkjpcafaaDoorClo
import Derived.Deep.Cut
namespace Go.Proofs.YtbhnaekkjpcafaaDoor
open Go.RowKit Go.Shelf

theorem textB_9 (c : UInt8) (h : (c.toNat : Int) = 9) : textB c = true := by
  have : c = 9 := UInt8.toNat_inj.1 (by have : (9 : UInt8).toNat = 9 := rfl; omega)
  rw [this]
  decide
theorem textB_low (c : UInt8) (h : ¬ (c.toNat : Int) = 9) (h2 : ¬ (32 : Int) ≤ (c.toNat : Int)) : textB c = false := by
  have h3 : c ≠ 9 := by
    rintro rfl
    exact h rfl
  unfold textB
  rw [beq_eq_false_iff_ne.2 h3, decide_eq_false (by omega)]
  rfl
theorem textB_127 (c : UInt8) (h : (c.toNat : Int) = 127) : textB c = false := by
  have : c = 127 := UInt8.toNat_inj.1 (by have : (127 : UInt8).toNat = 127 := rfl; omega)
  rw [this]
  decide
theorem textB_yes (c : UInt8) (h2 : (32 : Int) ≤ (c.toNat : Int)) (h3 : ¬ (c.toNat : Int) = 127) : textB c = true := by
  have h4 : c ≠ 127 := by
    rintro rfl
    exact h3 rfl
  unfold textB
  rw [decide_eq_true (show 32 ≤ c.toNat by omega), bne_iff_ne.2 h4]
  simp
theorem text_any (c : UInt8) (w : World) : Calls Tryd.prog 80 #[.int .u8 (c.toNat : Int)] w fun e w' => e = .returned (.bool (textB c)) ∧ w' = w := by
  by_cases h : (c.toNat : Int) = 9
  · rw [textB_9 c h]
    go_enter Tryd.func80, Tryd.ntmps80
    go_wp2
    go_ret
    exact ⟨rfl, rfl⟩
  · by_cases h2 : (32 : Int) ≤ (c.toNat : Int)
    · by_cases h3 : (c.toNat : Int) = 127
      · rw [textB_127 c h3]
        go_enter Tryd.func80, Tryd.ntmps80
        go_wp2
        go_ret
        exact ⟨rfl, rfl⟩
      · rw [textB_yes c h2 h3]
        go_enter Tryd.func80, Tryd.ntmps80
        go_wp2
        go_ret
        exact ⟨ret_bool (by rw [bne_iff_ne.2 h3]; simp), rfl⟩
    · rw [textB_low c h h2]
      go_enter Tryd.func80, Tryd.ntmps80
      go_wp2
      go_ret
      exact ⟨ret_bool (beq_eq_false_iff_ne.2 h), rfl⟩
theorem kind_text : Kind 80 textB := ⟨text_any, enters_at Tryd.func80 (by kernel_rfl) rfl⟩
theorem u8_is {c : UInt8} {n : Nat} (hn : n < 256) : (c.toNat : Int) = n ↔ c = UInt8.ofNat n := by
  constructor
  · intro h
    apply UInt8.toNat_inj.1
    simp only [UInt8.toNat_ofNat']
    omega
  · rintro rfl
    simp only [UInt8.toNat_ofNat']
    omega

end Go.Proofs.YtbhnaekkjpcafaaDoor
