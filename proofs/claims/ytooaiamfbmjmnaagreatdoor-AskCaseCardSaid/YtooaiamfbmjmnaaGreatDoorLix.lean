/- Where a slash stands last in a row of bytes; what is cut off ahead of a text: by the library's own functions. -/
import Derived.Test.YtooaiamfbmjmnaaGreatDoorBase
namespace Go.Proofs.YtooaiamfbmjmnaaGreatDoor
open Go.RowKit

/-- Where a byte stands last; below 0: nowhere. -/
def lastL (c : UInt8) (l : List UInt8) : Int := match l with
  | [] => -1
  | b :: t => if lastL c t = -1 then (if b = c then 0 else -1) else lastL c t + 1
theorem lastL_none (c : UInt8) : ∀ l, c ∉ l → lastL c l = -1
  | [], _ => rfl
  | b :: t, h => by
    have h1 : b ≠ c := fun e => h (by simp [e])
    have h2 := lastL_none c t (fun e => h (by simp [e]))
    simp [lastL, h2, h1]
theorem lastL_some (c : UInt8) (b : List UInt8) (h : c ∉ b) : ∀ a, lastL c (a ++ c :: b) = (a.length : Int)
  | [] => by
    have := lastL_none c b h
    simp [lastL, this]
  | x :: a => by
    have ih := lastL_some c b h a
    show (if lastL c (a ++ c :: b) = -1 then _ else lastL c (a ++ c :: b) + 1) = _
    rw [ih, if_neg (by omega)]
    simp
set_option maxHeartbeats 1000000 in
set_option maxRecDepth 100000 in
theorem blast_in (l : List UInt8) (g n cap : Nat) (w : World) (hn : l.length = n) (hn2 : n ≤ 100000000) (hcells : ∀ j (h : j < l.length), w.cell? ⟨g, j, none⟩ = some (.int .u8 (l[j].toNat : Int))) :
    Calls Tryz.prog 150 #[.slice (some ⟨g, 0, none⟩) n cap, .int .u8 47] w fun e w' => e = .returned (.int .i64 (lastL 47 l)) ∧ w' = w := by
  have HC : Hid (∀ j (h : j < l.length), w.cell? ⟨g, j, none⟩ = some (.int .u8 (l[j].toNat : Int))) := hcells
  clear hcells
  have hw0 : IntKind.i64.wrap ((n : Int) - 1) = (n : Int) - 1 := IntWalk.i64_in _ ⟨by omega, by omega⟩
  go_enter Tryz.func150, Tryz.ntmps150
  go_wp2
  go_loop [5] (fun i => ∃ k : Nat, k ≤ n ∧ i = .int .i64 ((k : Int) - 1) ∧ Hid ((47 : UInt8) ∉ l.drop k)) (fun i => (intOf i + 1).toNat)
  case atStart => exact ⟨n, Nat.le_refl _, rfl, by show ¬ _; rw [List.drop_of_length_le (by omega)]; simp⟩
  case round =>
    obtain ⟨k, hk, rfl, HK⟩ := hrel
    cases k with
    | zero =>
      go_wp2
      go_ret
      exact ⟨by rw [lastL_none 47 l (by simpa using HK.out)]; rfl, rfl⟩
    | succ m =>
      have hm : m < l.length := by omega
      obtain ⟨c, hc⟩ : ∃ c : UInt8, l[m] = c := ⟨_, rfl⟩
      have hcell : w.cell? ⟨g, m, none⟩ = some (.int .u8 (c.toNat : Int)) := by rw [← hc]; exact HC.out m hm
      have HS : Hid (l = l.take m ++ c :: l.drop (m + 1)) := by show _ = _; rw [← hc, ← List.drop_eq_getElem_cons, List.take_append_drop]
      have hix : ((m + 1 : Nat) : Int) - 1 = (m : Int) := by omega
      rw [hix]
      by_cases h47 : c = 47
      · subst h47
        have HL : Hid (lastL 47 l = (m : Int)) := by
          show _ = _
          rw [HS.out, lastL_some 47 _ HK.out]
          simp
          omega
        go_wp2
        go_ret
        exact ⟨by rw [HL.out]; rfl, rfl⟩
      · have q : ((c.toNat : Int) == 47) = false := beq_eq_false_iff_ne.2 (fun e => h47 (UInt8.toNat_inj.1 (by have : (47 : UInt8).toNat = 47 := rfl; omega)))
        have HN : Hid ((47 : UInt8) ∉ l.drop m) := by
          show ¬ _
          rw [List.drop_eq_getElem_cons hm, hc]
          simp
          exact ⟨fun e => h47 e.symm, by simpa using HK.out⟩
        have hw1 : IntKind.i64.wrap ((m : Int) - 1) = (m : Int) - 1 := IntWalk.i64_in _ ⟨by omega, by omega⟩
        clear h47
        go_wp2
        go_round
        case rel => exact ⟨m, by omega, by go_num, HN⟩
        case measure => simp [intOf]
theorem blast_any (l : List UInt8) (g n cap : Nat) (w : World) (hn : l.length = n) (hn2 : n ≤ 100000000) (hcells : ∀ j (h : j < l.length), w.cell? ⟨g, j, none⟩ = some (.int .u8 (l[j].toNat : Int))) :
    Calls Tryz.prog 132 #[.slice (some ⟨g, 0, none⟩) n cap, .int .u8 47] w fun e w' => e = .returned (.int .i64 (lastL 47 l)) ∧ w' = w := by
  go_enter Tryz.func132, Tryz.ntmps132
  go_wp2_with (go_at_call 150; refine (blast_in l g n cap _ hn hn2 hcells).mono ?_; rintro e w' ⟨rfl, rfl⟩)
  go_ret
  exact ⟨rfl, rfl⟩
end Go.Proofs.YtooaiamfbmjmnaaGreatDoor
