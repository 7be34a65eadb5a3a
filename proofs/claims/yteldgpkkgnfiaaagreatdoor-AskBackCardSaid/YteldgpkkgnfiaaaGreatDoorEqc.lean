/- Rows of the same challenges are alike, by the library's own functions. -/
import Derived.Test.YteldgpkkgnfiaaaGreatDoorChlA
import Derived.Test.YteldgpkkgnfiaaaGreatDoorEnt
import Derived.Test.YteldgpkkgnfiaaaGreatDoorDra
namespace Go.Proofs.YteldgpkkgnfiaaaGreatDoor
open Go.RowKit

set_option maxRecDepth 100000 in
set_option maxHeartbeats 2000000 in
theorem equalP_yes (ps : List Par) (a1 a2 : Option Addr) (n c1 c2 b1 o1 b2 o2 : Nat) (hn : n ≤ 1000000) (w : World) (h1 : Pars w a1 n b1 o1 ps) (h2 : Pars w a2 n b2 o2 ps) :
    Calls Tryz.prog 59 #[.slice a1 n c1, .slice a2 n c2] w fun e w' => e = .returned (.bool true) ∧ Below w.heap.size w w' := by
  have H1 : Hid (Pars w a1 n b1 o1 ps) := h1
  have H2 : Hid (Pars w a2 n b2 o2 ps) := h2
  have hl := h1.len_eq
  clear h1 h2
  go_enter Tryz.func59, Tryz.ntmps59
  go_wp2
  go_loopw [13] (fun i wr => ∃ (k : Nat), k ≤ n ∧ i = .int .i64 k ∧ ∃ q, wr = w.drewN q) (fun i _ => n - (intOf i).toNat)
  case atStart => exact ⟨0, Nat.zero_le _, rfl, 0, rfl⟩
  case round =>
    obtain ⟨k, hk, rfl, q, rfl⟩ := hrel
    by_cases hlt : k < n
    · obtain ⟨p, hpk⟩ : ∃ p, ps[k]? = some p := ⟨ps[k]'(by omega), List.getElem?_eq_getElem (by omega)⟩
      obtain ⟨ha1, _⟩ := H1.out.lies (by omega)
      obtain ⟨ha2, _⟩ := H2.out.lies (by omega)
      subst ha1 ha2
      have x1 := H1.out.one k p hpk
      have x2 := H1.out.two k p hpk
      have y1 := H2.out.one k p hpk
      have y2 := H2.out.two k p hpk
      have hkn : (k : Int) < (n : Int) := by omega
      clear hpk
      go_wp2
      go_quiet (fail)
      go_wp2
      go_roundw
      case rel => exact ⟨k + 1, by omega, by go_num, _, rfl⟩
      case measure => simp [intOf]; omega
    · have hkn : ¬ (k : Int) < (n : Int) := by omega
      go_wp2
      go_ret
      exact ⟨rfl, drewN_at (Below.refl _ _) _⟩
set_option maxRecDepth 100000 in
set_option maxHeartbeats 2000000 in
theorem sameChal_yes (c d : ChV) (hcd : c.x = d.x) (hl : c.len ≤ 1000000) (w : World) (h1 : ChOk w c) (h2 : ChOk w d) :
    Calls Tryz.prog 22 #[.agg #[.string c.x.scheme, .string c.x.token, .slice c.a c.len c.cap], .agg #[.string d.x.scheme, .string d.x.token, .slice d.a d.len d.cap]] w fun e w' => e = .returned (.bool true) ∧ Below w.heap.size w w' := by
  have hle : d.len = c.len := by unfold ChV.len; rw [hcd]
  have hds : d.x.scheme = c.x.scheme := by rw [hcd]
  have hdt : d.x.token = c.x.token := by rw [hcd]
  have h3 : Pars w d.a c.len d.b d.off c.x.params := by
    have := h2
    unfold ChOk at this
    rw [hle, ← hcd] at this
    exact this
  rw [hle, hds, hdt]
  have hb : Below w.heap.size w ((w.alloc (.cells #[.string c.x.scheme, .string c.x.token, .slice c.a c.len c.cap] 35)).alloc (.cells #[.string c.x.scheme, .string c.x.token, .slice d.a c.len d.cap] 35)) := ((Below.refl _ _).alloc (Nat.le_refl _) _).alloc (by simp) _
  have heq := equalP_yes c.x.params c.a d.a c.len c.cap d.cap c.b c.off d.b d.off hl _ (Pars.below h1 hb) (h3.below hb)
  clear h1 h2 h3 hcd hle hds hdt
  go_enter Tryz.func22, Tryz.ntmps22
  go_wp2_with (go_at_call 59; refine heq.mono ?_; rintro e w2 ⟨rfl, hb2⟩)
  go_ret
  exact ⟨rfl, hb.trans (hb2.mono (by simp; omega))⟩
set_option maxRecDepth 100000 in
set_option maxHeartbeats 2000000 in
theorem equalC_yes (cs ds : List ChV) (hx : xsOf cs = xsOf ds) (hl : ∀ c ∈ cs, c.len ≤ 1000000) (a1 a2 : Option Addr) (n c1 c2 b1 o1 b2 o2 : Nat) (hn : n ≤ 1000000) (w : World) (h1 : Chals w a1 n b1 o1 cs) (h2 : Chals w a2 n b2 o2 ds) :
    Calls Tryz.prog 21 #[.slice a1 n c1, .slice a2 n c2, .func (.func 22) #[] #[]] w fun e w' => e = .returned (.bool true) ∧ Below w.heap.size w w' := by
  have H1 : Hid (Chals w a1 n b1 o1 cs) := h1
  have H2 : Hid (Chals w a2 n b2 o2 ds) := h2
  have HL : Hid (∀ c ∈ cs, c.len ≤ 1000000) := hl
  have HX : Hid (xsOf cs = xsOf ds) := hx
  have hlen := h1.len_eq
  have hlen2 := h2.len_eq
  have hen := enters_at Tryz.func22 (by kernel_rfl) rfl
  clear h1 h2 hl hx
  go_enter Tryz.func21, Tryz.ntmps21
  go_wp2
  go_loopw [17] (fun i wr => ∃ (k : Nat), k ≤ n ∧ i = .int .i64 k ∧ Below w.heap.size w wr) (fun i _ => n - (intOf i).toNat)
  case atStart => exact ⟨0, Nat.zero_le _, rfl, Below.refl _ _⟩
  case round =>
    obtain ⟨k, hk, rfl, hb⟩ := hrel
    by_cases hlt : k < n
    · obtain ⟨c, hck⟩ : ∃ c, cs[k]? = some c := ⟨cs[k]'(by omega), List.getElem?_eq_getElem (by omega)⟩
      obtain ⟨d, hdk⟩ : ∃ d, ds[k]? = some d := ⟨ds[k]'(by omega), List.getElem?_eq_getElem (by omega)⟩
      have hcd : c.x = d.x := Option.some.inj ((xsOf_at hck).symm.trans ((congrArg (·[k]?) HX.out).trans (xsOf_at hdk)))
      have hX1 := H1.out.below hb
      have hX2 := H2.out.below hb
      obtain ⟨ha1, hl1⟩ := hX1.lies (by omega)
      obtain ⟨ha2, hl2⟩ := hX2.lies (by omega)
      subst ha1 ha2
      have x1 := hX1.one k c hck
      have x2 := hX1.two k c hck
      have x3 := hX1.three k c hck
      have y1 := hX2.one k d hdk
      have y2 := hX2.two k d hdk
      have y3 := hX2.three k d hdk
      have hkn : (k : Int) < (n : Int) := by omega
      have hbs : w.heap.size ≤ wr.heap.size := hb.size
      have hb2 : Below wr.heap.size wr ((wr.alloc (.cells #[.string c.x.scheme, .string c.x.token, .slice c.a c.len c.cap] 35)).alloc (.cells #[.string d.x.scheme, .string d.x.token, .slice d.a d.len d.cap] 35)) := ((Below.refl _ _).alloc (Nat.le_refl _) _).alloc (by simp) _
      have hs := sameChal_yes c d hcd (HL.out c (List.mem_of_getElem? hck)) _ ((hX1.pars c (List.mem_of_getElem? hck)).below hb2) ((hX2.pars d (List.mem_of_getElem? hdk)).below hb2)
      have HB2 : Hid (Below w.heap.size w ((wr.alloc (.cells #[.string c.x.scheme, .string c.x.token, .slice c.a c.len c.cap] 35)).alloc (.cells #[.string d.x.scheme, .string d.x.token, .slice d.a d.len d.cap] 35))) := hb.trans (hb2.mono hbs)
      clear hck hdk hcd hX1 hX2 hb2
      go_wp2_with fail
      refine hs.mono ?_
      rintro e w3 ⟨rfl, hb3⟩
      have HB3 : Hid (Below w.heap.size w w3) := HB2.out.trans (hb3.mono HB2.out.size)
      clear hb3 hs
      go_wp2
      go_roundw
      case rel => exact ⟨k + 1, by omega, by go_num, HB3.out⟩
      case measure => simp [intOf]; omega
    · have hkn : ¬ (k : Int) < (n : Int) := by omega
      go_wp2
      go_ret
      exact ⟨rfl, hb⟩
end Go.Proofs.YteldgpkkgnfiaaaGreatDoor
