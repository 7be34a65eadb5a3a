/- The fact on challenges, walked. -/
import Derived.Test.YtooaiamfbmjmnaaGreatDoorPsr
import Derived.Test.YtooaiamfbmjmnaaGreatDoorBst
namespace Go.Proofs.YtooaiamfbmjmnaaGreatDoor
open Go.RowKit

abbrev askText : ByteArray := ⟨#[66, 97, 115, 105, 99, 32, 114, 101, 97, 108, 109, 61, 34, 114, 34, 44, 32, 44, 32, 68, 105, 103, 101, 115, 116, 32, 110, 111, 110, 99, 101, 32, 61, 32, 110, 44, 114, 101, 97, 108, 109, 61, 115, 44, 78, 101, 103, 111, 116, 105, 97, 116, 101, 32, 97, 98, 99, 61, 61]⟩
def askXs : List Chal := [⟨⟨#[66, 97, 115, 105, 99]⟩, ⟨#[]⟩, [(⟨#[114, 101, 97, 108, 109]⟩, ⟨#[114]⟩)]⟩, ⟨⟨#[68, 105, 103, 101, 115, 116]⟩, ⟨#[]⟩, [(⟨#[110, 111, 110, 99, 101]⟩, ⟨#[110]⟩), (⟨#[114, 101, 97, 108, 109]⟩, ⟨#[115]⟩)]⟩, ⟨⟨#[78, 101, 103, 111, 116, 105, 97, 116, 101]⟩, ⟨#[97, 98, 99, 61, 61]⟩, []⟩]
theorem askText_is : askL askText.data.toList = .ok askXs := by kernel_rfl
theorem askBest_is : bestL askXs = ⟨2, ⟨#[115]⟩, ⟨#[110]⟩, ⟨#[]⟩, false, ⟨#[]⟩, false, []⟩ := by kernel_rfl
theorem slight_mild {c : ChV} (h : Slight c) : Mild c.x := ⟨⟨by have := h.1.1; omega, h.1.2⟩, h.2.1⟩
set_option maxRecDepth 100000 in
set_option maxHeartbeats 4000000 in
theorem asked_any (w : World) : Calls Tryz.prog 7 #[] w fun e w' => e = .returned (.bool true) ∧ Below w.heap.size w w' := by
  have hpz : askText.size ≤ 3000 := by decide
  go_enter Tryz.func7, Tryz.ntmps7
  go_wp2_with fail
  refine (parse_any askText hpz _).mono ?_
  rintro e w1 ⟨⟨cs, v, h1, h2, h3, rfl, hown⟩ | ⟨n, left, v, h1, _⟩, hb1⟩
  · have hxs : xsOf cs = askXs := Except.ok.inj (h1.symm.trans askText_is)
    obtain ⟨a, cap, g, ds, rfl, hC, hx, hBg, _⟩ := hown.chals
    have hxd : xsOf ds = askXs := hx.trans hxs
    have hl3 : cs.length = 3 := by rw [← xsOf_len, hxs]; rfl
    rw [hl3] at hC ⊢
    have hd : ∀ d ∈ ds, Mild d.x := fun d hd => by
      obtain ⟨c, hc, e⟩ : ∃ c ∈ cs, c.x = d.x := by
        have : d.x ∈ xsOf cs := by rw [← hx]; exact List.mem_map.2 ⟨d, hd, rfl⟩
        obtain ⟨c, hc, e⟩ := List.mem_map.1 this
        exact ⟨c, hc, e⟩
      rw [← e]
      exact slight_mild (h3 c hc)
    have HM : Hid (∀ d ∈ ds, Mild d.x) := hd
    have HC : Hid (Chals w1 a 3 g 0 ds) := hC
    have hds : ds.length = 3 := hC.len_eq
    obtain ⟨ha, hgl⟩ := hC.lies (by omega)
    subst ha
    obtain ⟨d0, d1, d2, rfl⟩ : ∃ d0 d1 d2, ds = [d0, d1, d2] := by
      match ds, hds with
      | [d0, d1, d2], _ => exact ⟨d0, d1, d2, rfl⟩
    have e0 : d0.x = ⟨⟨#[66, 97, 115, 105, 99]⟩, ⟨#[]⟩, [(⟨#[114, 101, 97, 108, 109]⟩, ⟨#[114]⟩)]⟩ := (List.cons.inj hxd).1
    have e2 : d2.x = ⟨⟨#[78, 101, 103, 111, 116, 105, 97, 116, 101]⟩, ⟨#[97, 98, 99, 61, 61]⟩, []⟩ := (List.cons.inj (List.cons.inj (List.cons.inj hxd).2).2).1
    have ht2 : w1.cell? ⟨g, 7, none⟩ = some (.string ⟨#[97, 98, 99, 61, 61]⟩) := by
      have := hC.two 2 d2 rfl
      rw [e2] at this
      exact this
    have hp0 : w1.cell? ⟨g, 2, none⟩ = some (.slice d0.a 1 d0.cap) := by
      have := hC.three 0 d0 rfl
      unfold ChV.len at this
      rw [e0] at this
      exact this
    have HX : Hid (bestL (xsOf [d0, d1, d2]) = ⟨2, ⟨#[115]⟩, ⟨#[110]⟩, ⟨#[]⟩, false, ⟨#[]⟩, false, []⟩) := by show _ = _; rw [hxd]; exact askBest_is
    clear hd hC hxd hx hxs h1 h2 h3 hown hBg e0 e2 hl3 hds
    go_wp2_with fail
    refine (best_any _ HM.out _ 3 cap g 0 (by omega) _ HC.out).mono ?_
    rintro e w2 ⟨⟨dv, rfl, ho⟩, hb2⟩
    rw [HX.out] at ho ⊢
    obtain ⟨da, dc, dg, rfl, _⟩ := ho.strs
    have k1 := (hb2.cell (p := ⟨g, 7, none⟩) hgl).trans ht2
    have k2 := (hb2.cell (p := ⟨g, 2, none⟩) hgl).trans hp0
    have HB : Hid (Below w.heap.size w w2) := hb1.trans (hb2.mono hb1.size)
    have hgl2 : g < w2.heap.size := Nat.lt_of_lt_of_le hgl hb2.size
    unfold askVal
    simp only []
    clear ho hb2 ht2 hp0 hb1
    go_wp2
    go_ret
    exact ⟨rfl, HB.out.alloc HB.out.size _⟩
  · rw [askText_is] at h1
    cases h1
end Go.Proofs.YtooaiamfbmjmnaaGreatDoor
