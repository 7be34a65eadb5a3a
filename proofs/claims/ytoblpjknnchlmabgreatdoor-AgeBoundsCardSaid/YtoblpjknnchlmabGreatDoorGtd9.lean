/- The fact that servers' answers are read and held. -/
import Derived.Test.YtoblpjknnchlmabGreatDoorNed9
import Derived.Test.YtoblpjknnchlmabGreatDoorFld9
import Derived.Test.YtoblpjknnchlmabGreatDoorGra9
namespace Go.Proofs.YtoblpjknnchlmabGreatDoor
open Go.RowKit

theorem asked_none : askedL [] = [] := by
  have h : tx (askedNames []) = [] := by decide +kernel
  have h2 : sortL [] = [] := List.eq_nil_of_length_eq_zero (sortL_len [])
  unfold askedL
  rw [h, h2]
  rfl
def granS : ByteArray := ⟨#[65, 99, 99, 101, 115, 115, 45, 67, 111, 110, 116, 114, 111, 108, 45, 65, 108, 108, 111, 119, 45, 79, 114, 105, 103, 105, 110, 58, 32, 104, 116, 116, 112, 115, 58, 47, 47, 97, 46, 116, 101, 115, 116, 10, 65, 99, 99, 101, 115, 115, 45, 67, 111, 110, 116, 114, 111, 108, 45, 65, 108, 108, 111, 119, 45, 77, 101, 116, 104, 111, 100, 115, 58, 32, 80, 85, 84, 44, 88]⟩
def granF : List Par := [(⟨#[65, 99, 99, 101, 115, 115, 45, 67, 111, 110, 116, 114, 111, 108, 45, 65, 108, 108, 111, 119, 45, 79, 114, 105, 103, 105, 110]⟩, ⟨#[104, 116, 116, 112, 115, 58, 47, 47, 97, 46, 116, 101, 115, 116]⟩), (⟨#[65, 99, 99, 101, 115, 115, 45, 67, 111, 110, 116, 114, 111, 108, 45, 65, 108, 108, 111, 119, 45, 77, 101, 116, 104, 111, 100, 115]⟩, ⟨#[80, 85, 84, 44, 88]⟩)]
theorem granF_is : fieldsF granS.data.toList = .ok granF := by kernel_rfl
theorem granF_few : Few9 granF := by unfold Few9; decide +kernel
theorem granF_age : ageL granF = 5 := by kernel_rfl
theorem gran_may : mayL false (textL true (⟨#[97, 46, 116, 101, 115, 116]⟩ : ByteArray).data.toList 443) granF = true := by kernel_rfl
theorem gran_put : methodB ⟨#[80, 85, 84]⟩ = ⟨#[80, 85, 84]⟩ := by kernel_rfl
theorem gran_grant (p : PsV) : grantL p true false ⟨#[80, 85, 84]⟩ [] granF = .ok [(⟨#[80, 85, 84]⟩, ⟨#[]⟩), (⟨#[88]⟩, ⟨#[]⟩)] := by
  have h1 : wordsO (fieldT mN granF) = some [⟨#[80, 85, 84]⟩, ⟨#[88]⟩] := by kernel_rfl
  have h2 : wordsO (fieldT hN granF) = some [] := by kernel_rfl
  have h3 : passL (msOf [⟨#[80, 85, 84]⟩, ⟨#[88]⟩] ⟨#[80, 85, 84]⟩) [] = [(⟨#[80, 85, 84]⟩, ⟨#[]⟩), (⟨#[88]⟩, ⟨#[]⟩)] := by kernel_rfl
  have h4 : coversL false ⟨#[80, 85, 84]⟩ [] ((passL (msOf [⟨#[80, 85, 84]⟩, ⟨#[88]⟩] ⟨#[80, 85, 84]⟩) []).map p.of) = true := by
    rw [h3]
    unfold coversL
    simp [okM, PsV.of]
  rw [grantL_cov h1 h2 h4, if_pos rfl, h3]
theorem gran_cov : coversL false ⟨#[80, 85, 84]⟩ [] [] = false := by decide +kernel
theorem gran_same : sameO true ⟨#[97, 46, 116, 101, 115, 116]⟩ 443 true ⟨#[98, 46, 116, 101, 115, 116]⟩ 443 = false := by decide +kernel
set_option maxRecDepth 100000 in
set_option maxHeartbeats 8000000 in
theorem granted_any (w : World) (he : Env w) (hm : Methods w) : Calls Tryz.prog 12 #[] w fun e w' => e = .returned (.bool true) ∧ Below w.heap.size w w' := by
  have HQ : Hid (BoxQ 28 w #[.int .i64 0, .bool true, .string ⟨#[97, 46, 116, 101, 115, 116]⟩, .int .i64 443, .bool true, .string ⟨#[98, 46, 116, 101, 115, 116]⟩, .int .i64 443, .string ⟨#[47]⟩, .string ⟨#[]⟩, .string ⟨#[80, 85, 84]⟩, .slice none 0 0, .bool false, .string ⟨#[]⟩] (w.alloc (.cells #[.int .i64 0, .bool true, .string ⟨#[97, 46, 116, 101, 115, 116]⟩, .int .i64 443, .bool true, .string ⟨#[98, 46, 116, 101, 115, 116]⟩, .int .i64 443, .string ⟨#[47]⟩, .string ⟨#[]⟩, .string ⟨#[80, 85, 84]⟩, .slice none 0 0, .bool false, .string ⟨#[]⟩] 28))) := BoxQ.new _ _ _
  have HE : Hid (∀ W, Below w.heap.size w W → Env W ∧ Methods W) := fun W hW => ⟨he.below hW (Nat.le_refl _), hm.below hW (Nat.le_refl _)⟩
  have hfl := fields9_any granS (by decide +kernel) (w.alloc (.cells #[.int .i64 0, .bool true, .string ⟨#[97, 46, 116, 101, 115, 116]⟩, .int .i64 443, .bool true, .string ⟨#[98, 46, 116, 101, 115, 116]⟩, .int .i64 443, .string ⟨#[47]⟩, .string ⟨#[]⟩, .string ⟨#[80, 85, 84]⟩, .slice none 0 0, .bool false, .string ⟨#[]⟩] 28))
  rw [granF_is] at hfl
  clear he hm
  go_enter Tryz.func12, Tryz.ntmps12
  go_wp2_with fail
  refine hfl.mono ?_
  rintro e w1 ⟨ha, hb1⟩
  have HQ1 : Hid (BoxQ 28 w #[.int .i64 0, .bool true, .string ⟨#[97, 46, 116, 101, 115, 116]⟩, .int .i64 443, .bool true, .string ⟨#[98, 46, 116, 101, 115, 116]⟩, .int .i64 443, .string ⟨#[47]⟩, .string ⟨#[]⟩, .string ⟨#[80, 85, 84]⟩, .slice none 0 0, .bool false, .string ⟨#[]⟩] w1) := HQ.out.step hb1
  clear hfl hb1
  obtain ⟨v, rfl, hown⟩ : ∃ v, e = .returned (.tuple #[v, .nilIface]) ∧ OwnP w1 w.heap.size v granF := by
    rcases ha with ⟨acc, v, h1, _, h3, h4⟩ | ⟨h1, _⟩ | ⟨i, g, h1, _⟩
    · injection h1 with h1
      subst h1
      exact ⟨v, h3, h4.mono9 HQ.out.bel.size⟩
    · cases h1
    · cases h1
  obtain ⟨a, cap, g, rfl, hps, _⟩ := hown.pars
  have hl2 : granF.length = 2 := rfl
  rw [hl2] at hps
  have HP1 : Hid (Pars w1 a 2 g 0 granF) := hps
  clear ha hown hps HQ
  rw [hl2]
  have c0 := HQ1.out.at 0 _ rfl
  have c1 := HQ1.out.at 1 _ rfl
  have c2 := HQ1.out.at 2 _ rfl
  have c3 := HQ1.out.at 3 _ rfl
  have c4 := HQ1.out.at 4 _ rfl
  have c5 := HQ1.out.at 5 _ rfl
  have c6 := HQ1.out.at 6 _ rfl
  have c7 := HQ1.out.at 7 _ rfl
  have c8 := HQ1.out.at 8 _ rfl
  have c9 := HQ1.out.at 9 _ rfl
  have c10 := HQ1.out.at 10 _ rfl
  have c11 := HQ1.out.at 11 _ rfl
  have c12 := HQ1.out.at 12 _ rfl
  go_wp2_with fail
  have hgr := grant9_any granF granF_few a 2 cap g 0 [] (by intro p hp; cases hp) none 0 0 0 0 (by decide) 0 443 443 true true false ⟨#[97, 46, 116, 101, 115, 116]⟩ ⟨#[98, 46, 116, 101, 115, 116]⟩ ⟨#[47]⟩ ⟨#[]⟩ ⟨#[80, 85, 84]⟩ ⟨#[]⟩ (by decide) (by decide) (by decide) (by decide) (by decide) (by decide) (by decide) 10 (by decide) (by decide) w1 (HE.out _ HQ1.out.bel).1 (HE.out _ HQ1.out.bel).2 HP1.out ⟨rfl, fun h => absurd h (by omega), fun j p hp => by simp at hp, fun j p hp => by simp at hp⟩
  rw [gran_may, gran_put, asked_none, gran_grant] at hgr
  refine hgr.mono ?_
  rintro e w2 ⟨ha, hb2⟩
  have HQ2 : Hid (BoxQ 28 w #[.int .i64 0, .bool true, .string ⟨#[97, 46, 116, 101, 115, 116]⟩, .int .i64 443, .bool true, .string ⟨#[98, 46, 116, 101, 115, 116]⟩, .int .i64 443, .string ⟨#[47]⟩, .string ⟨#[]⟩, .string ⟨#[80, 85, 84]⟩, .slice none 0 0, .bool false, .string ⟨#[]⟩] w2) := HQ1.out.step hb2
  have HP2 : Hid (Pars w2 a 2 g 0 granF) := HP1.out.below hb2
  clear hgr hb2 HQ1 HP1 c0 c1 c2 c3 c4 c5 c6 c7 c8 c9 c10 c11 c12
  obtain ⟨v, rfl, hown⟩ : ∃ v, e = .returned (.tuple #[v, .nilIface]) ∧ OwnX ⟨true, ⟨#[97, 46, 116, 101, 115, 116]⟩, 443, true, ⟨#[98, 46, 116, 101, 115, 116]⟩, 443, ⟨#[47]⟩, ⟨#[]⟩, false, ⟨#[]⟩, ⟨#[]⟩, 10 + ageL granF⟩ w2 w1.heap.size v [(⟨#[80, 85, 84]⟩, ⟨#[]⟩), (⟨#[88]⟩, ⟨#[]⟩)] := by
    rcases ha with ⟨l, v, h1, _, h3, h4⟩ | ⟨n, h1, _⟩
    · injection h1 with h1
      subst h1
      exact ⟨v, h3, h4⟩
    · cases h1
  obtain ⟨xa, xc, xg, rfl, hpx⟩ := hown.pss
  obtain ⟨hxa, _⟩ := hpx.lies (by decide)
  subst hxa
  have hp9 := (hpx.all (j := 0) rfl).2.2.2.2.2.2.2.2.2.1
  have hp11 := (hpx.all (j := 1) rfl).2.2.2.2.2.2.2.2.2.2.2
  rw [granF_age] at hp11
  simp only [PsV.of, Nat.zero_add, Nat.zero_mul, Nat.one_mul, Nat.reduceAdd, Int.reduceAdd] at hp9 hp11
  clear ha hown hpx
  simp only [List.length_cons, List.length_nil, Nat.zero_add, Nat.reduceAdd]
  have d0 := HQ2.out.at 0 _ rfl
  have d1 := HQ2.out.at 1 _ rfl
  have d2 := HQ2.out.at 2 _ rfl
  have d3 := HQ2.out.at 3 _ rfl
  have d4 := HQ2.out.at 4 _ rfl
  have d5 := HQ2.out.at 5 _ rfl
  have d6 := HQ2.out.at 6 _ rfl
  have d7 := HQ2.out.at 7 _ rfl
  have d8 := HQ2.out.at 8 _ rfl
  have d9 := HQ2.out.at 9 _ rfl
  have d10 := HQ2.out.at 10 _ rfl
  have d11 := HQ2.out.at 11 _ rfl
  have d12 := HQ2.out.at 12 _ rfl
  have hn := needs9_any [] (by intro p hp; cases hp) none 0 0 0 0 (by decide) 0 443 443 true true false ⟨#[97, 46, 116, 101, 115, 116]⟩ ⟨#[98, 46, 116, 101, 115, 116]⟩ ⟨#[47]⟩ ⟨#[]⟩ ⟨#[80, 85, 84]⟩ ⟨#[]⟩ (by decide) w2 (HE.out _ HQ2.out.bel).2 ⟨rfl, fun h => absurd h (by omega), fun j p hp => by simp at hp, fun j p hp => by simp at hp⟩
  rw [gran_put, asked_none, gran_cov, gran_same] at hn
  go_wp2_with fail
  refine hn.mono ?_
  rintro e w3 ⟨rfl, hb3⟩
  have HQ3 : Hid (BoxQ 28 w #[.int .i64 0, .bool true, .string ⟨#[97, 46, 116, 101, 115, 116]⟩, .int .i64 443, .bool true, .string ⟨#[98, 46, 116, 101, 115, 116]⟩, .int .i64 443, .string ⟨#[47]⟩, .string ⟨#[]⟩, .string ⟨#[80, 85, 84]⟩, .slice none 0 0, .bool false, .string ⟨#[]⟩] w3) := HQ2.out.step hb3
  have HP3 : Hid (Pars w3 a 2 g 0 granF) := HP2.out.below hb3
  clear hn hb3 HQ2 HP2 d0 d1 d2 d3 d4 d5 d6 d7 d8 d9 d10 d11 d12 hp9 hp11
  have e0 := HQ3.out.at 0 _ rfl
  have e1 := HQ3.out.at 1 _ rfl
  have e2 := HQ3.out.at 2 _ rfl
  have e3 := HQ3.out.at 3 _ rfl
  have e4 := HQ3.out.at 4 _ rfl
  have e5 := HQ3.out.at 5 _ rfl
  have e6 := HQ3.out.at 6 _ rfl
  have e7 := HQ3.out.at 7 _ rfl
  have e8 := HQ3.out.at 8 _ rfl
  have e9 := HQ3.out.at 9 _ rfl
  have e10 := HQ3.out.at 10 _ rfl
  have e11 := HQ3.out.at 11 _ rfl
  have e12 := HQ3.out.at 12 _ rfl
  have hma := may9_any granF granF_few a 2 cap g 0 0 443 443 true true ⟨#[97, 46, 116, 101, 115, 116]⟩ ⟨#[98, 46, 116, 101, 115, 116]⟩ ⟨#[47]⟩ ⟨#[]⟩ ⟨#[80, 85, 84]⟩ ⟨#[]⟩ none 0 0 false (by decide) (by decide) (by decide) w3 (HE.out _ HQ3.out.bel).1 HP3.out
  rw [gran_may] at hma
  go_wp2_with fail
  refine hma.mono ?_
  rintro e w4 ⟨rfl, hb4⟩
  have HB4 : Hid (Below w.heap.size w w4) := HQ3.out.inB hb4
  clear hma hb4
  go_wp2
  go_ret
  exact ⟨rfl, HB4.out⟩
end Go.Proofs.YtoblpjknnchlmabGreatDoor
