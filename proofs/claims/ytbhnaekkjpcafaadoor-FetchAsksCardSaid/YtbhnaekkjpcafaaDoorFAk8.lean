/- The law FetchAsks, walked. -/
import Derived.Test.YtbhnaekkjpcafaaDoorRAk8
import Derived.Test.YtbhnaekkjpcafaaDoorLrg8
import Derived.Test.YtbhnaekkjpcafaaDoorArgPp
namespace Go.Proofs.YtbhnaekkjpcafaaDoor
open Go.RowKit

set_option maxRecDepth 100000 in
set_option maxHeartbeats 2000000 in
theorem sameTexts_same (a1 a2 : Option Addr) (n c b1 o1 d b2 o2 : Nat) (xs : List ByteArray) (w : World) (hn : n ≤ 1000) (h1 : Strs w a1 n b1 o1 xs) (h2 : Strs w a2 n b2 o2 xs) :
    Calls Tryd.prog 15 #[.slice a1 n c, .slice a2 n d] w fun e w' => e = .returned (.bool true) ∧ ∃ q, w' = w.drewN q := by
  have H1 : Hid (Strs w a1 n b1 o1 xs) := h1
  have H2 : Hid (Strs w a2 n b2 o2 xs) := h2
  have HL : Hid (xs.length = n) := h1.len_eq
  clear h1 h2
  go_enter Tryd.func15, Tryd.ntmps15
  go_wp2
  go_loopw [5] (fun i wr => ∃ (k q : Nat), k ≤ n ∧ i = .int .i64 k ∧ wr = w.drewN q) (fun i _ => n - (intOf i).toNat)
  case atStart => exact ⟨0, 0, Nat.zero_le _, rfl, rfl⟩
  case round =>
    obtain ⟨k, q, hk, rfl, rfl⟩ := hrel
    by_cases hlt : k < n
    · have hltz : (k : Int) < (n : Int) := by omega
      obtain ⟨x, hx⟩ : ∃ x, xs[k]? = some x := ⟨xs[k]'(by have := HL.out; omega), List.getElem?_eq_getElem _⟩
      obtain ⟨ha1, _⟩ := H1.out.lies (by omega)
      obtain ⟨ha2, _⟩ := H2.out.lies (by omega)
      subst ha1 ha2
      have c1 : w.cell? ⟨b1, o1 + k, none⟩ = some (.string x) := H1.out.cells k x hx
      have c2 : w.cell? ⟨b2, o2 + k, none⟩ = some (.string x) := H2.out.cells k x hx
      clear hx
      go_wp2
      go_quiet (fail)
      go_wp2
      go_roundw
      case rel => exact ⟨k + 1, _, by omega, by go_num, rfl⟩
      case measure => simp [intOf]; omega
    · have hltz : ¬ (k : Int) < (n : Int) := by omega
      go_wp2
      go_ret
      exact ⟨rfl, q, rfl⟩
set_option maxRecDepth 100000 in
set_option maxHeartbeats 4000000 in
theorem fetchAsks_walk (a0 : Option Addr) (len cap b off : Nat) (ps : List Par) (hl : len ≤ cap ∧ cap ≤ 9223372036854775807) (hz : ∀ p ∈ ps, p.1.size ≤ 140737488355328 ∧ p.2.size ≤ 140737488355328) (w : World) (hx : Pars w a0 len b off ps) :
    Calls Tryd.prog 5 #[.slice a0 len cap] w fun e w' => e = .returned (.bool true) ∧ Below w.heap.size w w' := by
  have hlg := large_any ps hz a0 len cap b off (Nat.le_trans hl.1 hl.2) 0 0 0 false false false ⟨#[]⟩ ⟨#[]⟩ ⟨#[]⟩ ⟨#[]⟩ ⟨#[]⟩ ⟨#[]⟩ (by decide) (by decide) (by decide) (by decide) (by decide) (by decide) w hx
  obtain ⟨z, HZ⟩ : ∃ z, Hid (largeL ps ((⟨#[]⟩ : ByteArray).size + (⟨#[]⟩ : ByteArray).size + (⟨#[]⟩ : ByteArray).size + (⟨#[]⟩ : ByteArray).size + (⟨#[]⟩ : ByteArray).size + (⟨#[]⟩ : ByteArray).size) = z) := ⟨_, rfl⟩
  rw [HZ.out] at hlg
  have HX : Hid (Pars w a0 len b off ps) := hx
  have HLEN : Hid (ps.length = len) := hx.len_eq
  clear hx hz hl
  go_enter Tryd.func5, Tryd.ntmps5
  go_wp2_with fail
  refine hlg.mono ?_
  rintro e w1 ⟨rfl, hb1⟩
  clear hlg
  have HB1 : Hid (Below w.heap.size w w1) := hb1
  clear hb1
  cases z
  · obtain ⟨hl45, _, hsm⟩ := large_small HZ.out
    have HSM : Hid (Small8 ps) := fun p hp => by have := hsm p hp; exact ⟨by omega, by omega⟩
    have hlen : len ≤ 60 := by have := HLEN.out; omega
    obtain ⟨xs, HXS⟩ : ∃ xs, Hid (askedL ps = xs) := ⟨_, rfl⟩
    have hxl : xs.length ≤ 60 := by
      rw [← HXS.out]
      unfold askedL
      rw [List.length_map]
      have h1 := compact_len (sortL (tx (askedNames ps)))
      have h2 : (tx (askedNames ps)).length = (askedNames ps).length := by unfold tx; simp
      rw [sortL_len, h2] at h1
      have h3 := lens_le ps
      have h4 : (askedNames ps).length ≤ ps.length := by
        unfold askedNames
        split
        · rw [List.length_append]; omega
        · omega
      omega
    clear hl45 hsm
    go_wp2_with fail
    refine (asked8_any ps HSM.out a0 len cap b off hlen _ (HX.out.below HB1.out)).mono ?_
    rintro e w2 ⟨⟨u, rfl, hown⟩, hb2⟩
    rw [HXS.out] at hown
    have HB2 : Hid (Below w.heap.size w w2) := HB1.out.trans (hb2.mono HB1.out.size)
    obtain ⟨a, c, g, rfl, hst⟩ := hown.strs
    have HS2 : Hid (Strs w2 a xs.length g 0 xs) := hst
    clear hown hb2 hst
    go_wp2_with fail
    refine (refAsked8_any ps HSM.out a0 len cap b off hlen _ (HX.out.below HB2.out)).mono ?_
    rintro e w3 ⟨⟨u, rfl, hown⟩, hb3⟩
    rw [HXS.out] at hown
    have HB3 : Hid (Below w.heap.size w w3) := HB2.out.trans (hb3.mono HB2.out.size)
    obtain ⟨a2, c2, g2, rfl, hst⟩ := hown.strs
    have HS3 : Hid (Strs w3 a xs.length g 0 xs ∧ Strs w3 a2 xs.length g2 0 xs) := ⟨HS2.out.below hb3, hst⟩
    clear hown hb3 hst HS2
    obtain ⟨n, HN⟩ : ∃ n, Hid (xs.length = n) := ⟨_, rfl⟩
    rw [HN.out] at HS3 hxl ⊢
    go_wp2_with fail
    refine (sameTexts_same a a2 n c g 0 c2 g2 0 xs _ (by omega) HS3.out.1 HS3.out.2).mono ?_
    rintro e w4 ⟨rfl, q, rfl⟩
    go_wp2
    go_ret
    exact ⟨rfl, drewN_below HB3.out _⟩
  · go_wp2
    go_ret
    exact ⟨rfl, HB1.out⟩
end Go.Proofs.YtbhnaekkjpcafaaDoor
