/- A fact: a URL, an origin, a text, a path, by the program. -/
import Derived.Test.YtpbipanafihabaaDoorPrs
import Derived.Test.YtpbipanafihabaaDoorTxt
namespace Go.Proofs.YtpbipanafihabaaDoor
open Go.RowKit

theorem parse_of (s h p q : ByteArray) (sec : Bool) (n : Int) (hs : s.size ≤ 900) (w : World) (hw : Schemes w) (hp : parseL s.data.toList = .inr (sec, h.data.toList, n, p.data.toList, q.data.toList)) :
    Calls Tryd.prog 10 #[.string s] w fun e w' => e = .returned (.tuple #[.agg #[.bool sec, .string h, .int .i64 n, .string p, .string q], .nilIface]) ∧ Below w.heap.size w w' := by
  refine (parse_any s hs w hw).mono ?_
  rintro e w' ⟨hb, ⟨sec2, h2, p2, q2, n2, rfl, he⟩ | ⟨c, _, he⟩⟩
  · rw [hp] at he
    simp only [Sum.inr.injEq, Prod.mk.injEq] at he
    obtain ⟨rfl, e1, rfl, e2, e3⟩ := he
    rw [data_inj e1, data_inj e2, data_inj e3]
    exact ⟨rfl, hb⟩
  · rw [hp] at he
    cases he
theorem parse_err (s : ByteArray) (c : Int) (hs : s.size ≤ 900) (w : World) (hw : Schemes w) (hp : parseL s.data.toList = .inl c) :
    Calls Tryd.prog 10 #[.string s] w fun e w' => e = .returned (.tuple #[.agg #[.bool false, .string ⟨#[]⟩, .int .i64 0, .string ⟨#[]⟩, .string ⟨#[]⟩], .iface 24 (.int .i64 c)]) ∧ Below w.heap.size w w' := by
  refine (parse_any s hs w hw).mono ?_
  rintro e w' ⟨hb, ⟨sec2, h2, p2, q2, n2, _, he⟩ | ⟨c2, rfl, he⟩⟩
  · rw [hp] at he
    cases he
  · rw [hp] at he
    simp only [Sum.inl.injEq] at he
    subst he
    exact ⟨rfl, hb⟩
theorem origin_of (s x : ByteArray) (sec : Bool) (n : Int) (hs : s.size ≤ 900) (w : World) (hw : Schemes w) (hp : originP s.data.toList = some (sec, x.data.toList, n)) :
    Calls Tryd.prog 7 #[.string s] w fun e w' => e = .returned (.tuple #[.agg #[.bool sec, .string x, .int .i64 n], .nilIface]) ∧ Below w.heap.size w w' := by
  refine (origin_any s hs w hw).mono ?_
  rintro e w' ⟨hb, ⟨sec2, x2, n2, rfl, _, he⟩ | ⟨_, he⟩⟩
  · rw [hp] at he
    simp only [Option.some.injEq, Prod.mk.injEq] at he
    obtain ⟨rfl, e1, rfl⟩ := he
    rw [data_inj e1]
    exact ⟨rfl, hb⟩
  · rw [hp] at he
    cases he
abbrev nm1 : ByteArray := ⟨#[72, 84, 84, 80, 83, 58, 47, 47, 65, 46, 116, 101, 115, 116, 58, 52, 52, 51, 47, 120, 47, 46, 46, 47, 121, 63, 113, 35, 102]⟩
abbrev nm2 : ByteArray := ⟨#[104, 116, 116, 112, 58, 47, 47, 98, 46, 116, 101, 115, 116, 58, 56, 48, 56, 48]⟩
theorem nm_parse : parseL nm1.data.toList = .inr (true, (⟨#[97, 46, 116, 101, 115, 116]⟩ : ByteArray).data.toList, 443, (⟨#[47, 121]⟩ : ByteArray).data.toList, (⟨#[113]⟩ : ByteArray).data.toList) := by decide +kernel
theorem nm_origin : originP nm2.data.toList = some (false, (⟨#[98, 46, 116, 101, 115, 116]⟩ : ByteArray).data.toList, 8080) := by decide +kernel
theorem nm_text : bs (textL false (⟨#[98, 46, 116, 101, 115, 116]⟩ : ByteArray).data.toList 8080) = nm2 := by
  have h : Lib.itoa 8080 = [56, 48, 56, 48] := by decide +kernel
  unfold textL tailT
  rw [h]
  decide +kernel
theorem nm_clean : bs (cleanL (⟨#[47, 97, 47, 46, 47, 98, 47, 46, 46]⟩ : ByteArray).data.toList) = ⟨#[47, 97, 47]⟩ := by decide +kernel
set_option maxRecDepth 100000 in
set_option maxHeartbeats 1000000 in
theorem named_any (w : World) (h : Env w) :
    Calls Tryd.prog 11 #[] w fun e w' => e = .returned (.bool true) ∧ Below w.heap.size w w' := by
  have hp := fun W hW => parse_of nm1 ⟨#[97, 46, 116, 101, 115, 116]⟩ ⟨#[47, 121]⟩ ⟨#[113]⟩ true 443 (by decide) W hW nm_parse
  have ho := fun W hW => origin_of nm2 ⟨#[98, 46, 116, 101, 115, 116]⟩ false 8080 (by decide) W hW nm_origin
  have ht := fun W hW => text_any false ⟨#[98, 46, 116, 101, 115, 116]⟩ 8080 (by decide) (by decide) (by decide) W hW
  rw [nm_text] at ht
  have hc := fun W => clean_any ⟨#[47, 97, 47, 46, 47, 98, 47, 46, 46]⟩ (by decide) W
  rw [nm_clean] at hc
  go_enter Tryd.func11, Tryd.ntmps11
  go_wp2_with fail
  refine (hp _ h.sch).mono ?_
  rintro e w1 ⟨rfl, hb1⟩
  have h1 := h.below hb1 (Nat.le_refl _)
  have h1a := h1.below ((Below.refl _ _).alloc (Nat.le_refl _) (.cells #[.bool true, .string ⟨#[97, 46, 116, 101, 115, 116]⟩, .int .i64 443, .string ⟨#[47, 121]⟩, .string ⟨#[113]⟩] 34)) (Nat.le_refl _)
  clear hp
  go_wp2_with fail
  refine (ho _ h1a.sch).mono ?_
  rintro e w2 ⟨rfl, hb2⟩
  clear ho
  have h2 := h1a.below hb2 (Nat.le_refl _)
  have h2a := h2.below ((Below.refl _ _).alloc (Nat.le_refl _) (.cells #[.bool false, .string ⟨#[98, 46, 116, 101, 115, 116]⟩, .int .i64 8080] 23)) (Nat.le_refl _)
  have hlt : w1.heap.size < w2.heap.size := by have := hb2.size; rw [World.size_alloc] at this; omega
  have hl1 : w1.heap.size < (w1.alloc (.cells #[.bool true, .string ⟨#[97, 46, 116, 101, 115, 116]⟩, .int .i64 443, .string ⟨#[47, 121]⟩, .string ⟨#[113]⟩] 34)).heap.size := by simp
  have k0 := fun o => keepA o ((freshC w1.heap.size hb2 0 hl1).trans (cells_new _ _ _ 0))
  have k1 := fun o => keepA o ((freshC w1.heap.size hb2 1 hl1).trans (cells_new _ _ _ 1))
  have k2 := fun o => keepA o ((freshC w1.heap.size hb2 2 hl1).trans (cells_new _ _ _ 2))
  have k3 := fun o => keepA o ((freshC w1.heap.size hb2 3 hl1).trans (cells_new _ _ _ 3))
  have k4 := fun o => keepA o ((freshC w1.heap.size hb2 4 hl1).trans (cells_new _ _ _ 4))
  have hbel : Below w.heap.size w (w2.alloc (.cells #[.bool false, .string ⟨#[98, 46, 116, 101, 115, 116]⟩, .int .i64 8080] 23)) := by
    have a1 := hb1.trans (((Below.refl w1.heap.size w1).alloc (Nat.le_refl _) (.cells #[.bool true, .string ⟨#[97, 46, 116, 101, 115, 116]⟩, .int .i64 443, .string ⟨#[47, 121]⟩, .string ⟨#[113]⟩] 34)).mono hb1.size)
    have a2 := a1.trans (hb2.mono a1.size)
    exact a2.alloc a2.size _
  clear hb1 hb2 h1 h1a h2 hl1
  go_wp2_with (first
    | (go_at_call 30; refine (ht _ h2a).mono ?_; rintro e w3 ⟨rfl, hb3⟩)
    | (go_at_call 28; refine (hc _).mono ?_; rintro e w4 ⟨rfl, hb4⟩))
  go_ret
  have a3 := hbel.trans (hb3.mono hbel.size)
  exact ⟨rfl, a3.trans (hb4.mono a3.size)⟩
end Go.Proofs.YtpbipanafihabaaDoor
