/- Texts of one claim, joined: each begins with what it proves. -/
import Derived.Test.YtgajhmmildbkfaaGreatDoorJo2
import Derived.Test.YtgajhmmildbkfaaGreatDoorJo1
import Derived.Deep.RegionHeld3
import Derived.Deep.Cut
import Derived.Laws.OwnMore
import Derived.Laws.IdiomCopy
import Derived.Deep.Upon
import Derived.Deep.Onto
import Derived.Below
import Derived.Shelf.SlicesQ.Load
/- What proves a request, by the program: the walks. -/
namespace Go.Proofs.YtgajhmmildbkfaaGreatDoor
open Go.RowKit

set_option maxRecDepth 100000 in
set_option maxHeartbeats 4000000 in
theorem resp_int_no (a : PfA) (r : PfR) (st : Bool) (dv : Value) (n : Nat) (hn : n < 9223372036854775808) (hf : Fits a r) (hs : a.sess = false) (hi : a.qop.data.toList = qInt) (w : World) (HT : Hid (Tabs w)) :
    Calls Tryz.prog 11 #[.agg #[.int .i64 a.scheme, .string a.realm, .string a.nonce, .string a.opq, .bool a.sess, .string a.qop, .bool st, dv], .agg #[.string r.user, .string r.pass], .string r.method, .string r.target, .string r.body, .string r.cnonce, .int .i64 (n : Int)] w fun e w' => e = .returned (.string (bs (respL a r n))) ∧ Below w.heap.size w w' := by
  have HK := pfK_start w a r st dv HT
  have HQE : Hid (a.qop = ⟨#[97, 117, 116, 104, 45, 105, 110, 116]⟩) := eq_int _ hi
  have HR : Hid (respL a r n = sumT a.scheme [whoL a r, a.nonce.data.toList, countL n, r.cnonce.data.toList, a.qop.data.toList, sumT a.scheme [r.method.data.toList, r.target.data.toList, sumT a.scheme [r.body.data.toList]]]) := by
    show _ = _
    unfold respL oneL twoL
    have h0 : ¬ qInt = [] := by decide
    rw [hi, if_neg h0, hs, if_pos rfl]
    rfl
  unfold Fits at hf
  obtain ⟨X, HX⟩ : ∃ X, Hid (bs (whoL a r) = X) := ⟨_, rfl⟩
  have hxz : X.size ≤ 64 := by rw [← HX.out, bs_size]; exact sumT_len _ _
  have h1 : ∀ W, Hid (Tabs W) → ∀ b, b = W.heap.size → Calls Tryz.prog 33 #[.int .i64 a.scheme, .slice (some ⟨b, 0, none⟩) 3 3] (W.alloc (.cells #[.string r.user, .string a.realm, .string r.pass] 9)) fun e w' => e = .returned (.string X) ∧ Below W.heap.size W w' := fun W HT b hb => by rw [← HX.out]; exact sum3 a.scheme r.user a.realm r.pass (by omega) W HT b hb
  obtain ⟨Y, HY⟩ : ∃ Y, Hid (bs (sumT a.scheme [r.method.data.toList, r.target.data.toList]) = Y) := ⟨_, rfl⟩
  have hyz : Y.size ≤ 64 := by rw [← HY.out, bs_size]; exact sumT_len _ _
  have h2 : ∀ W, Hid (Tabs W) → ∀ b, b = W.heap.size → Calls Tryz.prog 33 #[.int .i64 a.scheme, .slice (some ⟨b, 0, none⟩) 2 2] (W.alloc (.cells #[.string r.method, .string r.target] 9)) fun e w' => e = .returned (.string Y) ∧ Below W.heap.size W w' := fun W HT b hb => by rw [← HY.out]; exact sum2 a.scheme r.method r.target (by omega) W HT b hb
  obtain ⟨B, HB⟩ : ∃ B, Hid (bs (sumT a.scheme [r.body.data.toList]) = B) := ⟨_, rfl⟩
  have hbz : B.size ≤ 64 := by rw [← HB.out, bs_size]; exact sumT_len _ _
  have h5 : ∀ W, Hid (Tabs W) → ∀ b, b = W.heap.size → Calls Tryz.prog 33 #[.int .i64 a.scheme, .slice (some ⟨b, 0, none⟩) 1 1] ((W.alloc (.cells #[.string r.body] 9)).drew) fun e w' => e = .returned (.string B) ∧ Below W.heap.size W w' := fun W HT b hb => by
    rw [← HB.out, drew_alloc]
    exact (sum1 a.scheme r.body (by omega) W.drew (HT.out.below (Below.refl _ _).drew) b hb).mono fun e w' ⟨he, hb⟩ => ⟨he, (Below.refl _ _).drew.trans hb⟩
  obtain ⟨V, HV⟩ : ∃ V, Hid (bs (sumT a.scheme [r.method.data.toList, r.target.data.toList, B.data.toList]) = V) := ⟨_, rfl⟩
  have hvz : V.size ≤ 64 := by rw [← HV.out, bs_size]; exact sumT_len _ _
  have h6 : ∀ W, Hid (Tabs W) → ∀ b, b = W.heap.size → Calls Tryz.prog 33 #[.int .i64 a.scheme, .slice (some ⟨b, 0, none⟩) 3 3] (W.alloc (.cells #[.string r.method, .string r.target, .string B] 9)) fun e w' => e = .returned (.string V) ∧ Below W.heap.size W w' := fun W HT b hb => by rw [← HV.out]; exact sum3 a.scheme r.method r.target B (by omega) W HT b hb
  obtain ⟨C, HC⟩ : ∃ C, Hid (bs (countL n) = C) := ⟨_, rfl⟩
  have hcz : C.size ≤ 16 := by rw [← HC.out, bs_size]; exact countL_len _
  have h4 : ∀ w, Hid (Bruijn w) → Calls Tryz.prog 12 #[.int .i64 (n : Int)] w fun e w' => e = .returned (.string C) ∧ Below w.heap.size w w' := fun w HD => by rw [← HC.out]; exact count_any n hn w HD
  have HE : Hid (bs (sumT a.scheme [X.data.toList, a.nonce.data.toList, C.data.toList, r.cnonce.data.toList, a.qop.data.toList, V.data.toList]) = bs (respL a r n)) := by
    show _ = _
    rw [HR.out, ← HX.out, bs_data, ← HV.out, bs_data, ← HB.out, bs_data, ← HC.out, bs_data]
  have h3 : ∀ W, Hid (Tabs W) → ∀ b, b = W.heap.size → Calls Tryz.prog 33 #[.int .i64 a.scheme, .slice (some ⟨b, 0, none⟩) 6 6] (W.alloc (.cells #[.string X, .string a.nonce, .string C, .string r.cnonce, .string ⟨#[97, 117, 116, 104, 45, 105, 110, 116]⟩, .string V] 9)) fun e w' => e = .returned (.string (bs (respL a r n))) ∧ Below W.heap.size W w' := fun W HT b hb => by rw [← HE.out, ← HQE.out]; exact sum6 a.scheme X a.nonce C r.cnonce a.qop V (by omega) W HT b hb
  have HK0 : Hid (PfK w _ a r) := HK
  clear HK hi
  rw [hs]
  rw [hs] at HK0
  obtain ⟨c0, c1, c2, c4, c5, d0, d1, _, _, _⟩ := HK0.out
  rw [HQE.out] at c5
  rw [hs] at c4
  go_enter Tryz.func11, Tryz.ntmps11
  go_wp2_with fail
  refine (h1 _ HK0.out.tabs _ (by simp)).mono ?_
  rintro e w1 ⟨rfl, hb1⟩
  have HK1 : Hid (PfK w w1 a r) := HK0.out.below hb1
  clear hb1 c0 c1 c2 c4 c5 d0 d1
  obtain ⟨c0, c1, c2, c4, c5, d0, d1, _, _, _⟩ := HK1.out
  rw [HQE.out] at c5
  rw [hs] at c4
  go_wp2_with fail
  refine (h2 _ HK1.out.tabs _ (by simp)).mono ?_
  rintro e w2 ⟨rfl, hb2⟩
  have HK2 : Hid (PfK w w2 a r) := HK1.out.below hb2
  clear hb2 c0 c1 c2 c4 c5 d0 d1
  obtain ⟨c0, c1, c2, c4, c5, d0, d1, _, _, _⟩ := HK2.out
  rw [HQE.out] at c5
  rw [hs] at c4
  have hQ : w2.drew.cell? ⟨w.heap.size, 0, none⟩ = some (.int .i64 a.scheme) ∧ w2.drew.cell? ⟨w.heap.size, 2, none⟩ = some (.string a.nonce) ∧ w2.drew.cell? ⟨w.heap.size, 5, none⟩ = some (.string ⟨#[97, 117, 116, 104, 45, 105, 110, 116]⟩) ∧ Hid (PfK w (w2.drew) a r) := PfK.heldI HQE (HK2.out.drew)
  have hQ0 : w2.cell? ⟨w.heap.size, 0, none⟩ = some (.int .i64 a.scheme) ∧ w2.cell? ⟨w.heap.size, 2, none⟩ = some (.string a.nonce) ∧ w2.cell? ⟨w.heap.size, 5, none⟩ = some (.string ⟨#[97, 117, 116, 104, 45, 105, 110, 116]⟩) ∧ Hid (PfK w (w2) a r) := PfK.heldI HQE (HK2.out)
  go_wp2
  go_region_held3 (fun W => W.cell? ⟨w.heap.size, 0, none⟩ = some (.int .i64 a.scheme) ∧ W.cell? ⟨w.heap.size, 2, none⟩ = some (.string a.nonce) ∧ W.cell? ⟨w.heap.size, 5, none⟩ = some (.string ⟨#[97, 117, 116, 104, 45, 105, 110, 116]⟩) ∧ Hid (PfK w W a r)) (first | (with_reducible assumption) | (refine heldI HQE ?_ _; with_reducible assumption) | (refine heldD HQE ?_ _; with_reducible assumption)) (first
    | (go_at_call 33; refine (h6 _ hKa.tabs _ rfl).mono ?_; rintro e wb ⟨rfl, hbb⟩; have hKb := hKa.below hbb; have hQb : wb.cell? ⟨w.heap.size, 0, none⟩ = some (.int .i64 a.scheme) ∧ wb.cell? ⟨w.heap.size, 2, none⟩ = some (.string a.nonce) ∧ wb.cell? ⟨w.heap.size, 5, none⟩ = some (.string ⟨#[97, 117, 116, 104, 45, 105, 110, 116]⟩) ∧ Hid (PfK w (wb) a r) := PfK.heldI HQE (hKb))
    | (go_at_call 33; refine (h5 w2 HK2.out.tabs _ rfl).mono ?_; rintro e wa ⟨rfl, hba⟩; have hKa := HK2.out.below hba; have hQa : wa.cell? ⟨w.heap.size, 0, none⟩ = some (.int .i64 a.scheme) ∧ wa.cell? ⟨w.heap.size, 2, none⟩ = some (.string a.nonce) ∧ wa.cell? ⟨w.heap.size, 5, none⟩ = some (.string ⟨#[97, 117, 116, 104, 45, 105, 110, 116]⟩) ∧ Hid (PfK w (wa) a r) := PfK.heldI HQE (hKa)))
  have HK3 : Hid (PfK w wb a r) := hKb
  clear hQ hQ0 hQa hQb hKa hKb hba hbb c0 c1 c2 c4 c5 d0 d1
  obtain ⟨c0, c1, c2, c4, c5, d0, d1, _, _, _⟩ := HK3.out
  rw [HQE.out] at c5
  rw [hs] at c4
  have hQ : wb.drew.cell? ⟨w.heap.size, 0, none⟩ = some (.int .i64 a.scheme) ∧ wb.drew.cell? ⟨w.heap.size, 2, none⟩ = some (.string a.nonce) ∧ wb.drew.cell? ⟨w.heap.size, 5, none⟩ = some (.string ⟨#[97, 117, 116, 104, 45, 105, 110, 116]⟩) ∧ Hid (PfK w (wb.drew) a r) := PfK.heldI HQE (HK3.out.drew)
  go_wp2
  go_region_held3 (fun W => W.cell? ⟨w.heap.size, 0, none⟩ = some (.int .i64 a.scheme) ∧ W.cell? ⟨w.heap.size, 2, none⟩ = some (.string a.nonce) ∧ W.cell? ⟨w.heap.size, 5, none⟩ = some (.string ⟨#[97, 117, 116, 104, 45, 105, 110, 116]⟩) ∧ Hid (PfK w W a r)) (first | (with_reducible assumption) | (refine heldI HQE ?_ _; with_reducible assumption) | (refine heldD HQE ?_ _; with_reducible assumption)) (first
    | (go_at_call 12; refine (h4 _ HK3.out.drew.tabs.bruijn).mono ?_; rintro e wc ⟨rfl, hbc⟩; have hKc := HK3.out.drew.below hbc; have hQc : wc.cell? ⟨w.heap.size, 0, none⟩ = some (.int .i64 a.scheme) ∧ wc.cell? ⟨w.heap.size, 2, none⟩ = some (.string a.nonce) ∧ wc.cell? ⟨w.heap.size, 5, none⟩ = some (.string ⟨#[97, 117, 116, 104, 45, 105, 110, 116]⟩) ∧ Hid (PfK w (wc) a r) := PfK.heldI HQE (hKc))
    | (go_at_call 33; refine (h3 _ hKc.tabs _ rfl).mono ?_; rintro e wd ⟨rfl, hbd⟩; have hKd := hKc.below hbd; have hQd : wd.cell? ⟨w.heap.size, 0, none⟩ = some (.int .i64 a.scheme) ∧ wd.cell? ⟨w.heap.size, 2, none⟩ = some (.string a.nonce) ∧ wd.cell? ⟨w.heap.size, 5, none⟩ = some (.string ⟨#[97, 117, 116, 104, 45, 105, 110, 116]⟩) ∧ Hid (PfK w (wd) a r) := PfK.heldI HQE (hKd)))
  go_wp2
  go_ret
  exact ⟨rfl, hKd.bel⟩
end Go.Proofs.YtgajhmmildbkfaaGreatDoor

/- What proves a request, by the program: the walks. -/
namespace Go.Proofs.YtgajhmmildbkfaaGreatDoor
open Go.RowKit

set_option maxRecDepth 100000 in
set_option maxHeartbeats 4000000 in
theorem resp_int_sess (a : PfA) (r : PfR) (st : Bool) (dv : Value) (n : Nat) (hn : n < 9223372036854775808) (hf : Fits a r) (hs : a.sess = true) (hi : a.qop.data.toList = qInt) (w : World) (HT : Hid (Tabs w)) :
    Calls Tryz.prog 11 #[.agg #[.int .i64 a.scheme, .string a.realm, .string a.nonce, .string a.opq, .bool a.sess, .string a.qop, .bool st, dv], .agg #[.string r.user, .string r.pass], .string r.method, .string r.target, .string r.body, .string r.cnonce, .int .i64 (n : Int)] w fun e w' => e = .returned (.string (bs (respL a r n))) ∧ Below w.heap.size w w' := by
  have HK := pfK_start w a r st dv HT
  have HQE : Hid (a.qop = ⟨#[97, 117, 116, 104, 45, 105, 110, 116]⟩) := eq_int _ hi
  have HR : Hid (respL a r n = sumT a.scheme [sumT a.scheme [whoL a r, a.nonce.data.toList, r.cnonce.data.toList], a.nonce.data.toList, countL n, r.cnonce.data.toList, a.qop.data.toList, sumT a.scheme [r.method.data.toList, r.target.data.toList, sumT a.scheme [r.body.data.toList]]]) := by
    show _ = _
    unfold respL oneL twoL
    have h0 : ¬ qInt = [] := by decide
    rw [hi, if_neg h0, hs, if_pos rfl]
    rfl
  unfold Fits at hf
  obtain ⟨X, HX⟩ : ∃ X, Hid (bs (whoL a r) = X) := ⟨_, rfl⟩
  have hxz : X.size ≤ 64 := by rw [← HX.out, bs_size]; exact sumT_len _ _
  have h1 : ∀ W, Hid (Tabs W) → ∀ b, b = W.heap.size → Calls Tryz.prog 33 #[.int .i64 a.scheme, .slice (some ⟨b, 0, none⟩) 3 3] (W.alloc (.cells #[.string r.user, .string a.realm, .string r.pass] 9)) fun e w' => e = .returned (.string X) ∧ Below W.heap.size W w' := fun W HT b hb => by rw [← HX.out]; exact sum3 a.scheme r.user a.realm r.pass (by omega) W HT b hb
  obtain ⟨Z, HZ⟩ : ∃ Z, Hid (bs (sumT a.scheme [X.data.toList, a.nonce.data.toList, r.cnonce.data.toList]) = Z) := ⟨_, rfl⟩
  have hzz : Z.size ≤ 64 := by rw [← HZ.out, bs_size]; exact sumT_len _ _
  have hS : ∀ W, Hid (Tabs W) → ∀ b, b = W.heap.size → Calls Tryz.prog 33 #[.int .i64 a.scheme, .slice (some ⟨b, 0, none⟩) 3 3] (W.alloc (.cells #[.string X, .string a.nonce, .string r.cnonce] 9)) fun e w' => e = .returned (.string Z) ∧ Below W.heap.size W w' := fun W HT b hb => by rw [← HZ.out]; exact sum3 a.scheme X a.nonce r.cnonce (by omega) W HT b hb
  obtain ⟨Y, HY⟩ : ∃ Y, Hid (bs (sumT a.scheme [r.method.data.toList, r.target.data.toList]) = Y) := ⟨_, rfl⟩
  have hyz : Y.size ≤ 64 := by rw [← HY.out, bs_size]; exact sumT_len _ _
  have h2 : ∀ W, Hid (Tabs W) → ∀ b, b = W.heap.size → Calls Tryz.prog 33 #[.int .i64 a.scheme, .slice (some ⟨b, 0, none⟩) 2 2] (W.alloc (.cells #[.string r.method, .string r.target] 9)) fun e w' => e = .returned (.string Y) ∧ Below W.heap.size W w' := fun W HT b hb => by rw [← HY.out]; exact sum2 a.scheme r.method r.target (by omega) W HT b hb
  obtain ⟨B, HB⟩ : ∃ B, Hid (bs (sumT a.scheme [r.body.data.toList]) = B) := ⟨_, rfl⟩
  have hbz : B.size ≤ 64 := by rw [← HB.out, bs_size]; exact sumT_len _ _
  have h5 : ∀ W, Hid (Tabs W) → ∀ b, b = W.heap.size → Calls Tryz.prog 33 #[.int .i64 a.scheme, .slice (some ⟨b, 0, none⟩) 1 1] ((W.alloc (.cells #[.string r.body] 9)).drew) fun e w' => e = .returned (.string B) ∧ Below W.heap.size W w' := fun W HT b hb => by
    rw [← HB.out, drew_alloc]
    exact (sum1 a.scheme r.body (by omega) W.drew (HT.out.below (Below.refl _ _).drew) b hb).mono fun e w' ⟨he, hb⟩ => ⟨he, (Below.refl _ _).drew.trans hb⟩
  obtain ⟨V, HV⟩ : ∃ V, Hid (bs (sumT a.scheme [r.method.data.toList, r.target.data.toList, B.data.toList]) = V) := ⟨_, rfl⟩
  have hvz : V.size ≤ 64 := by rw [← HV.out, bs_size]; exact sumT_len _ _
  have h6 : ∀ W, Hid (Tabs W) → ∀ b, b = W.heap.size → Calls Tryz.prog 33 #[.int .i64 a.scheme, .slice (some ⟨b, 0, none⟩) 3 3] (W.alloc (.cells #[.string r.method, .string r.target, .string B] 9)) fun e w' => e = .returned (.string V) ∧ Below W.heap.size W w' := fun W HT b hb => by rw [← HV.out]; exact sum3 a.scheme r.method r.target B (by omega) W HT b hb
  obtain ⟨C, HC⟩ : ∃ C, Hid (bs (countL n) = C) := ⟨_, rfl⟩
  have hcz : C.size ≤ 16 := by rw [← HC.out, bs_size]; exact countL_len _
  have h4 : ∀ w, Hid (Bruijn w) → Calls Tryz.prog 12 #[.int .i64 (n : Int)] w fun e w' => e = .returned (.string C) ∧ Below w.heap.size w w' := fun w HD => by rw [← HC.out]; exact count_any n hn w HD
  have HE : Hid (bs (sumT a.scheme [Z.data.toList, a.nonce.data.toList, C.data.toList, r.cnonce.data.toList, a.qop.data.toList, V.data.toList]) = bs (respL a r n)) := by
    show _ = _
    rw [HR.out, ← HZ.out, bs_data, ← HX.out, bs_data, ← HV.out, bs_data, ← HB.out, bs_data, ← HC.out, bs_data]
  have h3 : ∀ W, Hid (Tabs W) → ∀ b, b = W.heap.size → Calls Tryz.prog 33 #[.int .i64 a.scheme, .slice (some ⟨b, 0, none⟩) 6 6] (W.alloc (.cells #[.string Z, .string a.nonce, .string C, .string r.cnonce, .string ⟨#[97, 117, 116, 104, 45, 105, 110, 116]⟩, .string V] 9)) fun e w' => e = .returned (.string (bs (respL a r n))) ∧ Below W.heap.size W w' := fun W HT b hb => by rw [← HE.out, ← HQE.out]; exact sum6 a.scheme Z a.nonce C r.cnonce a.qop V (by omega) W HT b hb
  have HK0 : Hid (PfK w _ a r) := HK
  clear HK hi
  rw [hs]
  rw [hs] at HK0
  obtain ⟨c0, c1, c2, c4, c5, d0, d1, _, _, _⟩ := HK0.out
  rw [HQE.out] at c5
  rw [hs] at c4
  go_enter Tryz.func11, Tryz.ntmps11
  go_wp2_with fail
  refine (h1 _ HK0.out.tabs _ (by simp)).mono ?_
  rintro e w1 ⟨rfl, hb1⟩
  have HK1 : Hid (PfK w w1 a r) := HK0.out.below hb1
  clear hb1 c0 c1 c2 c4 c5 d0 d1
  obtain ⟨c0, c1, c2, c4, c5, d0, d1, _, _, _⟩ := HK1.out
  rw [HQE.out] at c5
  rw [hs] at c4
  go_wp2_with fail
  refine (hS _ HK1.out.tabs _ (by simp)).mono ?_
  rintro e w2 ⟨rfl, hb2⟩
  have HK2 : Hid (PfK w w2 a r) := HK1.out.below hb2
  clear hb2 c0 c1 c2 c4 c5 d0 d1
  obtain ⟨c0, c1, c2, c4, c5, d0, d1, _, _, _⟩ := HK2.out
  rw [HQE.out] at c5
  rw [hs] at c4
  go_wp2_with fail
  refine (h2 _ HK2.out.tabs _ (by simp)).mono ?_
  rintro e w3 ⟨rfl, hb3⟩
  have HK3 : Hid (PfK w w3 a r) := HK2.out.below hb3
  clear hb3 c0 c1 c2 c4 c5 d0 d1
  obtain ⟨c0, c1, c2, c4, c5, d0, d1, _, _, _⟩ := HK3.out
  rw [HQE.out] at c5
  rw [hs] at c4
  have hQ : w3.drew.cell? ⟨w.heap.size, 0, none⟩ = some (.int .i64 a.scheme) ∧ w3.drew.cell? ⟨w.heap.size, 2, none⟩ = some (.string a.nonce) ∧ w3.drew.cell? ⟨w.heap.size, 5, none⟩ = some (.string ⟨#[97, 117, 116, 104, 45, 105, 110, 116]⟩) ∧ Hid (PfK w (w3.drew) a r) := PfK.heldI HQE (HK3.out.drew)
  have hQ0 : w3.cell? ⟨w.heap.size, 0, none⟩ = some (.int .i64 a.scheme) ∧ w3.cell? ⟨w.heap.size, 2, none⟩ = some (.string a.nonce) ∧ w3.cell? ⟨w.heap.size, 5, none⟩ = some (.string ⟨#[97, 117, 116, 104, 45, 105, 110, 116]⟩) ∧ Hid (PfK w (w3) a r) := PfK.heldI HQE (HK3.out)
  go_wp2
  go_region_held3 (fun W => W.cell? ⟨w.heap.size, 0, none⟩ = some (.int .i64 a.scheme) ∧ W.cell? ⟨w.heap.size, 2, none⟩ = some (.string a.nonce) ∧ W.cell? ⟨w.heap.size, 5, none⟩ = some (.string ⟨#[97, 117, 116, 104, 45, 105, 110, 116]⟩) ∧ Hid (PfK w W a r)) (first | (with_reducible assumption) | (refine heldI HQE ?_ _; with_reducible assumption) | (refine heldD HQE ?_ _; with_reducible assumption)) (first
    | (go_at_call 33; refine (h6 _ hKa.tabs _ rfl).mono ?_; rintro e wb ⟨rfl, hbb⟩; have hKb := hKa.below hbb; have hQb : wb.cell? ⟨w.heap.size, 0, none⟩ = some (.int .i64 a.scheme) ∧ wb.cell? ⟨w.heap.size, 2, none⟩ = some (.string a.nonce) ∧ wb.cell? ⟨w.heap.size, 5, none⟩ = some (.string ⟨#[97, 117, 116, 104, 45, 105, 110, 116]⟩) ∧ Hid (PfK w (wb) a r) := PfK.heldI HQE (hKb))
    | (go_at_call 33; refine (h5 w3 HK3.out.tabs _ rfl).mono ?_; rintro e wa ⟨rfl, hba⟩; have hKa := HK3.out.below hba; have hQa : wa.cell? ⟨w.heap.size, 0, none⟩ = some (.int .i64 a.scheme) ∧ wa.cell? ⟨w.heap.size, 2, none⟩ = some (.string a.nonce) ∧ wa.cell? ⟨w.heap.size, 5, none⟩ = some (.string ⟨#[97, 117, 116, 104, 45, 105, 110, 116]⟩) ∧ Hid (PfK w (wa) a r) := PfK.heldI HQE (hKa)))
  have HK4 : Hid (PfK w wb a r) := hKb
  clear hQ hQ0 hQa hQb hKa hKb hba hbb c0 c1 c2 c4 c5 d0 d1
  obtain ⟨c0, c1, c2, c4, c5, d0, d1, _, _, _⟩ := HK4.out
  rw [HQE.out] at c5
  rw [hs] at c4
  have hQ : wb.drew.cell? ⟨w.heap.size, 0, none⟩ = some (.int .i64 a.scheme) ∧ wb.drew.cell? ⟨w.heap.size, 2, none⟩ = some (.string a.nonce) ∧ wb.drew.cell? ⟨w.heap.size, 5, none⟩ = some (.string ⟨#[97, 117, 116, 104, 45, 105, 110, 116]⟩) ∧ Hid (PfK w (wb.drew) a r) := PfK.heldI HQE (HK4.out.drew)
  go_wp2
  go_region_held3 (fun W => W.cell? ⟨w.heap.size, 0, none⟩ = some (.int .i64 a.scheme) ∧ W.cell? ⟨w.heap.size, 2, none⟩ = some (.string a.nonce) ∧ W.cell? ⟨w.heap.size, 5, none⟩ = some (.string ⟨#[97, 117, 116, 104, 45, 105, 110, 116]⟩) ∧ Hid (PfK w W a r)) (first | (with_reducible assumption) | (refine heldI HQE ?_ _; with_reducible assumption) | (refine heldD HQE ?_ _; with_reducible assumption)) (first
    | (go_at_call 12; refine (h4 _ HK4.out.drew.tabs.bruijn).mono ?_; rintro e wc ⟨rfl, hbc⟩; have hKc := HK4.out.drew.below hbc; have hQc : wc.cell? ⟨w.heap.size, 0, none⟩ = some (.int .i64 a.scheme) ∧ wc.cell? ⟨w.heap.size, 2, none⟩ = some (.string a.nonce) ∧ wc.cell? ⟨w.heap.size, 5, none⟩ = some (.string ⟨#[97, 117, 116, 104, 45, 105, 110, 116]⟩) ∧ Hid (PfK w (wc) a r) := PfK.heldI HQE (hKc))
    | (go_at_call 33; refine (h3 _ hKc.tabs _ rfl).mono ?_; rintro e wd ⟨rfl, hbd⟩; have hKd := hKc.below hbd; have hQd : wd.cell? ⟨w.heap.size, 0, none⟩ = some (.int .i64 a.scheme) ∧ wd.cell? ⟨w.heap.size, 2, none⟩ = some (.string a.nonce) ∧ wd.cell? ⟨w.heap.size, 5, none⟩ = some (.string ⟨#[97, 117, 116, 104, 45, 105, 110, 116]⟩) ∧ Hid (PfK w (wd) a r) := PfK.heldI HQE (hKd)))
  go_wp2
  go_ret
  exact ⟨rfl, hKd.bel⟩
/-- What proves a request, by the program. -/
theorem resp_any (a : PfA) (r : PfR) (st : Bool) (dv : Value) (n : Nat) (hn : n < 9223372036854775808) (hf : Fits a r) (w : World) (HT : Hid (Tabs w)) :
    Calls Tryz.prog 11 #[.agg #[.int .i64 a.scheme, .string a.realm, .string a.nonce, .string a.opq, .bool a.sess, .string a.qop, .bool st, dv], .agg #[.string r.user, .string r.pass], .string r.method, .string r.target, .string r.body, .string r.cnonce, .int .i64 (n : Int)] w fun e w' => e = .returned (.string (bs (respL a r n))) ∧ Below w.heap.size w w' := by
  by_cases hq : a.qop.data.toList = []
  · cases hs : a.sess
    · have h := resp_plain_no a r st dv n hn hf hs hq w HT
      rw [hs] at h
      exact h
    · have h := resp_plain_sess a r st dv n hn hf hs hq w HT
      rw [hs] at h
      exact h
  · by_cases hi : a.qop.data.toList = qInt
    · cases hs : a.sess
      · have h := resp_int_no a r st dv n hn hf hs hi w HT
        rw [hs] at h
        exact h
      · have h := resp_int_sess a r st dv n hn hf hs hi w HT
        rw [hs] at h
        exact h
    · cases hs : a.sess
      · have h := resp_full_no a r st dv n hn hf hs hq hi w HT
        rw [hs] at h
        exact h
      · have h := resp_full_sess a r st dv n hn hf hs hq hi w HT
        rw [hs] at h
        exact h
end Go.Proofs.YtgajhmmildbkfaaGreatDoor

/- Whether a request can be proved, and the name of what sums it, by the program. -/
namespace Go.Proofs.YtgajhmmildbkfaaGreatDoor
open Go.RowKit

theorem eq_auth (q : ByteArray) (h : q.data.toList = qAuth) : q = ⟨#[97, 117, 116, 104]⟩ := by rw [← bs_self q, h]; rfl
theorem sch_no {s k : Int} (h : s ≠ k) : (s == k) = false := beq_eq_false_iff_ne.2 h
set_option maxRecDepth 100000 in
set_option maxHeartbeats 2000000 in
theorem alg_any (a : PfA) (st : Bool) (dv : Value) (w : World) :
    Calls Tryz.prog 28 #[.agg #[.int .i64 a.scheme, .string a.realm, .string a.nonce, .string a.opq, .bool a.sess, .string a.qop, .bool st, dv]] w fun e w' => e = .returned (.string (bs (algT a))) ∧ Below w.heap.size w w' := by
  have hA : Below w.heap.size w (w.alloc (.cells #[.int .i64 a.scheme, .string a.realm, .string a.nonce, .string a.opq, .bool a.sess, .string a.qop, .bool st, dv] 24)) := (Below.refl _ _).alloc (Nat.le_refl _) _
  by_cases h3 : a.scheme = 3
  · cases hs : a.sess
    · have HE : Hid (bs (algT a) = ⟨#[83, 72, 65, 45, 50, 53, 54]⟩) := by show _ = _; unfold algT; rw [if_pos h3, hs]; rfl
      rw [hs] at hA
      have hi : (a.scheme == 3) = true := by simp [h3]
      rw [HE.out]
      go_enter Tryz.func28, Tryz.ntmps28
      go_wp2
      go_ret
      exact ⟨rfl, by rw [h3] at hA; exact hA⟩
    · have HE : Hid (bs (algT a) = ⟨#[83, 72, 65, 45, 50, 53, 54]⟩ ++ ⟨#[45, 115, 101, 115, 115]⟩) := by show _ = _; unfold algT; rw [if_pos h3, hs]; rfl
      rw [hs] at hA
      have hi : (a.scheme == 3) = true := by simp [h3]
      rw [HE.out]
      go_enter Tryz.func28, Tryz.ntmps28
      go_wp2
      go_ret
      exact ⟨rfl, by rw [h3] at hA; exact hA⟩
  · have hi := sch_no h3
    cases hs : a.sess
    · have HE : Hid (bs (algT a) = ⟨#[77, 68, 53]⟩) := by show _ = _; unfold algT; rw [if_neg h3, hs]; rfl
      rw [hs] at hA
      rw [HE.out]
      go_enter Tryz.func28, Tryz.ntmps28
      go_wp2
      go_ret
      exact ⟨rfl, hA⟩
    · have HE : Hid (bs (algT a) = ⟨#[77, 68, 53]⟩ ++ ⟨#[45, 115, 101, 115, 115]⟩) := by show _ = _; unfold algT; rw [if_neg h3, hs]; rfl
      rw [hs] at hA
      rw [HE.out]
      go_enter Tryz.func28, Tryz.ntmps28
      go_wp2
      go_ret
      exact ⟨rfl, hA⟩
/-- What keeps a request from being proved: an error's number. -/
def prvO (a : PfA) (n : Int) : Option Nat :=
  if ¬ (a.scheme = 2 ∨ a.scheme = 3) ∨ ¬ (a.qop.data.toList = [] ∨ a.qop.data.toList = qAuth ∨ a.qop.data.toList = qInt) then some 1
  else if n < 1 ∨ 4294967295 < n then some 2 else none
/-- That error, or none. -/
def errOf : Option Nat → Value
  | none => .nilIface
  | some k => .iface 64 (.int .i64 (k : Int))
set_option maxRecDepth 100000 in
set_option maxHeartbeats 4000000 in
theorem prv_any (a : PfA) (st : Bool) (dv : Value) (n : Int) (w : World) :
    Calls Tryz.prog 25 #[.agg #[.int .i64 a.scheme, .string a.realm, .string a.nonce, .string a.opq, .bool a.sess, .string a.qop, .bool st, dv], .int .i64 n] w fun e w' => e = .returned (errOf (prvO a n)) ∧ Below w.heap.size w w' := by
  have hA : Below w.heap.size w (w.alloc (.cells #[.int .i64 a.scheme, .string a.realm, .string a.nonce, .string a.opq, .bool a.sess, .string a.qop, .bool st, dv] 24)) := (Below.refl _ _).alloc (Nat.le_refl _) _
  have HA : Hid (Below w.heap.size w (w.alloc (.cells #[.int .i64 a.scheme, .string a.realm, .string a.nonce, .string a.opq, .bool a.sess, .string a.qop, .bool st, dv] 24))) := hA
  clear hA
  have GO : ∀ (s2 s3 q0 q1 q2 : Bool), (a.scheme == 2) = s2 → (a.scheme == 3) = s3 → a.qop.toList.isEmpty = q0 → (a.qop.toList == [97, 117, 116, 104]) = q1 → (a.qop.toList == [97, 117, 116, 104, 45, 105, 110, 116]) = q2 →
      prvO a n = if (s2 || s3) && (q0 || q1 || q2) then (if n < 1 ∨ 4294967295 < n then some 2 else none) else some 1 := by
    intro s2 s3 q0 q1 q2 e1 e2 e3 e4 e5
    unfold prvO qAuth qInt
    rw [ByteArray.toList_eq] at e3 e4 e5
    subst e1 e2 e3 e4 e5
    generalize a.qop.data.toList = Q
    generalize a.scheme = S
    by_cases h2 : S = 2 <;> by_cases h3 : S = 3 <;> by_cases k0 : Q = [] <;> by_cases k1 : Q = [97, 117, 116, 104] <;> by_cases k2 : Q = [97, 117, 116, 104, 45, 105, 110, 116] <;> simp [h2, h3, k0, k1, k2]
  obtain ⟨s2, e1⟩ : ∃ b, (a.scheme == 2) = b := ⟨_, rfl⟩
  obtain ⟨s3, e2⟩ : ∃ b, (a.scheme == 3) = b := ⟨_, rfl⟩
  obtain ⟨q0, e3⟩ : ∃ b, a.qop.toList.isEmpty = b := ⟨_, rfl⟩
  obtain ⟨q1, e4⟩ : ∃ b, (a.qop.toList == [97, 117, 116, 104]) = b := ⟨_, rfl⟩
  obtain ⟨q2, e5⟩ : ∃ b, (a.qop.toList == [97, 117, 116, 104, 45, 105, 110, 116]) = b := ⟨_, rfl⟩
  have hE := GO s2 s3 q0 q1 q2 e1 e2 e3 e4 e5
  have HE : Hid (prvO a n = if (s2 || s3) && (q0 || q1 || q2) then (if n < 1 ∨ 4294967295 < n then some 2 else none) else some 1) := hE
  clear GO hE
  by_cases hn1 : n < 1
  · have HV : Hid (prvO a n = if (s2 || s3) && (q0 || q1 || q2) then some 2 else some 1) := by show _ = _; rw [HE.out, if_pos (Or.inl hn1)]
    cases s2 <;> cases s3 <;> cases q0 <;> cases q1 <;> cases q2 <;> (rw [HV.out]; go_enter Tryz.func25, Tryz.ntmps25; go_wp2; go_ret; exact ⟨rfl, HA.out⟩)
  · by_cases hn2 : 4294967295 < n
    · have HV : Hid (prvO a n = if (s2 || s3) && (q0 || q1 || q2) then some 2 else some 1) := by show _ = _; rw [HE.out, if_pos (Or.inr hn2)]
      cases s2 <;> cases s3 <;> cases q0 <;> cases q1 <;> cases q2 <;> (rw [HV.out]; go_enter Tryz.func25, Tryz.ntmps25; go_wp2; go_ret; exact ⟨rfl, HA.out⟩)
    · have HV : Hid (prvO a n = if (s2 || s3) && (q0 || q1 || q2) then none else some 1) := by
        show _ = _
        have hif : (if n < 1 ∨ 4294967295 < n then some 2 else none : Option Nat) = none := if_neg (by rintro (h | h); exact hn1 h; exact hn2 h)
        rw [HE.out, hif]
      cases s2 <;> cases s3 <;> cases q0 <;> cases q1 <;> cases q2 <;> (rw [HV.out]; go_enter Tryz.func25, Tryz.ntmps25; go_wp2; go_ret; exact ⟨rfl, HA.out⟩)
end Go.Proofs.YtgajhmmildbkfaaGreatDoor

/- What is answered, and a function value that is called. -/
namespace Go.Proofs.YtgajhmmildbkfaaGreatDoor
open Go.RowKit

theorem ret_bool {a b : Bool} (h : a = b) : Ending.returned (.bool a) = .returned (.bool b) := by rw [h]
theorem ret_i64 {a b : Int} (h : a = b) : Ending.returned (.int .i64 a) = .returned (.int .i64 b) := by rw [h]
theorem enters_at {K : Nat} {fn : Func} {c : Code} (hf : Tryz.prog.funcs[K]? = some fn) (hname : (fn.name == "runtime.NumGoroutine") = false) (hb : fn.body = some c) (args : Array Value) (w : World) :
    (callFunc K args).run Tryz.prog w = .ok (.enter K args) w := by
  have h1 : fn.name ≠ "runtime.NumGoroutine" := by simpa using hname
  simp [callFunc, hf, h1, hb]
end Go.Proofs.YtgajhmmildbkfaaGreatDoor

/- Functions that say whether a byte is of a kind. -/
namespace Go.Proofs.YtgajhmmildbkfaaGreatDoor
open Go.RowKit

/-- A function that says whether a byte is of a kind. -/
structure Kind (K : Nat) (f : UInt8 → Bool) : Prop where
  says : ∀ (c : UInt8) (w : World), Calls Tryz.prog K #[.int .u8 (c.toNat : Int)] w fun e w' => e = .returned (.bool (f c)) ∧ w' = w
  enters : ∀ (args : Array Value) (w : World), (callFunc K args).run Tryz.prog w = .ok (.enter K args) w
theorem all_snoc (f : UInt8 → Bool) (s : ByteArray) (k : Nat) (hk : k < s.size) (c : UInt8) (e : s[k] = c) (h : (s.data.toList.take k).all f = true) (hc : f c = true) : (s.data.toList.take (k + 1)).all f = true := by
  rw [take_snoc s k hk, List.all_append, h, e]
  simp [hc]
theorem run_full (f : UInt8 → Bool) (s : ByteArray) (k : Nat) (hk : s.size ≤ k) (h : (s.data.toList.take k).all f = true) : runL f s.data.toList = s.size := by
  rw [List.take_of_length_le (by simpa using hk)] at h
  have := (runL_all f s.data.toList).2 h
  simpa using this
theorem run_part (f : UInt8 → Bool) (s : ByteArray) (k : Nat) (hk : k < s.size) (c : UInt8) (e : s[k] = c) (h : (s.data.toList.take k).all f = true) (hc : f c = false) : runL f s.data.toList = k :=
  runL_stop f _ k (by simpa using hk) h (by rw [← hc, ← e]; rfl)

end Go.Proofs.YtgajhmmildbkfaaGreatDoor

/- How many bytes of a kind stand at a text's beginning, by the program. -/
namespace Go.Proofs.YtgajhmmildbkfaaGreatDoor
open Go.RowKit

set_option maxHeartbeats 1000000 in
theorem run_any (K : Nat) (f : UInt8 → Bool) (hK : Kind K f) (s : ByteArray) (hs : s.size ≤ 20000) (w : World) :
    Calls Tryz.prog 45 #[.string s, .func (.func K) #[] #[]] w fun e w' => e = .returned (.int .i64 (runL f s.data.toList : Int)) ∧ w' = w := by
  have HK0 : Hid (Kind K f) := hK
  have hen := hK.enters
  clear hK
  go_enter Tryz.func45, Tryz.ntmps45
  go_wp2
  go_loop [8] (fun i => ∃ (k : Nat), k ≤ s.size ∧ i = .int .i64 k ∧ Hid ((s.data.toList.take k).all f = true)) (fun i => s.size - (intOf i).toNat)
  case atStart => exact ⟨0, Nat.zero_le _, rfl, rfl⟩
  case round =>
    obtain ⟨k, hk, rfl, HK⟩ := hrel
    by_cases hlt : k < s.size
    · obtain ⟨c, hcd⟩ : ∃ c : UInt8, s[k] = c := ⟨_, rfl⟩
      have hcl : (c.toNat : Int) < 256 := by have := c.toNat_lt; omega
      have HC : Hid (s[k] = c) := hcd
      cases hf : f c
      · have HR : Hid (runL f s.data.toList = k) := run_part f s k hlt c hcd HK hf
        go_wp2_with fail
        refine (HK0.out.says c _).mono ?_
        rintro e w' ⟨rfl, rfl⟩
        rw [hf]
        go_wp2
        go_ret
        exact ⟨ret_i64 (by rw [HR.out]), rfl⟩
      · have HS : Hid ((s.data.toList.take (k + 1)).all f = true) := all_snoc f s k hlt c hcd HK hf
        go_wp2_with fail
        refine (HK0.out.says c _).mono ?_
        rintro e w' ⟨rfl, rfl⟩
        rw [hf]
        go_wp2
        go_round
        case rel => exact ⟨k + 1, by omega, by go_num, HS⟩
        case measure => simp [intOf]; omega
    · have HR : Hid (runL f s.data.toList = s.size) := run_full f s k (by omega) HK
      go_wp2
      go_ret
      exact ⟨ret_i64 (by rw [HR.out]), rfl⟩
end Go.Proofs.YtgajhmmildbkfaaGreatDoor

/- A byte by its number. -/
namespace Go.Proofs.YtgajhmmildbkfaaGreatDoor

theorem u8_is {c : UInt8} {n : Nat} (hn : n < 256) : (c.toNat : Int) = n ↔ c = UInt8.ofNat n := by
  constructor
  · intro h
    apply UInt8.toNat_inj.1
    simp only [UInt8.toNat_ofNat']
    omega
  · rintro rfl
    simp only [UInt8.toNat_ofNat']
    omega
end Go.Proofs.YtgajhmmildbkfaaGreatDoor

/- One element more at a row that a call owns. -/
namespace Go.Proofs.YtgajhmmildbkfaaGreatDoor
open Go.RowKit

theorem Own.lt {w : World} {B : Nat} {v : Value} {l : List UInt8} (h : Own w B v l) : ∀ k, v.ownBlock = some k → B ≤ k ∧ k < w.heap.size := World.ownsRow.lt h
theorem Own.keep {w w' : World} {B : Nat} {v : Value} {l : List UInt8} (h : Own w B v l) (hb : Below w.heap.size w w') : Own w' B v l := by
  refine World.ownsRow.kept (row := none) h ⟨hb.1, hb.2, hb.3, hb.size, fun k hk _ => hb.block k hk⟩ ?_
  rcases v.ownBlock with _ | k
  · exact .inl rfl
  · exact .inr (by simp)
/-- A byte more at a row of bytes. -/
theorem wp_app1 {ops : Array Oper} {rest : List Oper} {o : Oper} {a : Act} {Q : Exit → Act → World → Prop} (hgd : o.guard = none) (s x : Operand)
    (ho : o.op = .call { callee := .builtin .append, args := #[s, x], argTypes := #[83, 83] })
    (B : Nat) (w0 wr : World) (v : Value) (l : List UInt8) (n : Nat) (hs : a.eval s = v) (hown : Own wr B v l) (hn : l.length = n) (hl : n ≤ 100000) (hb : Below B w0 wr) (hB : B ≤ wr.heap.size)
    (d : UInt8) (dn : Int) (hd : dn = (d.toNat : Int)) (hx : a.eval x = .slice (some ⟨wr.heap.size, 0, none⟩) 1 1)
    (h : ∀ g cap w', Own w' B (.slice (some ⟨g, 0, none⟩) (n + 1) cap) (l ++ [d]) → Below B w0 w' → g < w'.heap.size → (wr.alloc (.cells #[.int .u8 dn] 5)).grownBy w' v.ownBlock → wpList Tryz.prog ops Q rest (a.put o.dst (.slice (some ⟨g, 0, none⟩) (n + 1) cap)) w') :
    wpList Tryz.prog ops Q (o :: rest) a (wr.alloc (.cells #[.int .u8 dn] 5)) := by
  subst hd
  obtain ⟨i0, hi0, hz0, hz1, hz2⟩ := info_parts info5
  refine wpList_append_lies _ hgd s x 83 ho B 5 i0 (.int .u8 0) 1 1 Tryz.underlying83 hi0 hz0 hz1 hz2 rfl (by omega) v n _ hs ((hown.rows hn).alloc _) ⟨wr.heap.size, 0, none⟩ 1 1 [.int .u8 (d.toNat : Int)] hx rfl
    (World.news_of_block (cs := #[.int .u8 (d.toNat : Int)]) (t := 5) (fr := (0, 0)) (heap_alloc_new wr _)) (by simp [Value.oneCell']) (by omega) (by unfold maxLen; omega) (by omega) (by simp; omega) _ rfl ?_
  intro g cap w' hown1 hgrow _ hlt
  refine h g cap w' (Own.more (ds := [d]) hown1 hn rfl) ?_ hlt hgrow
  refine (hb.alloc hB _).grown hgrow (by simp; omega) (fun k hk => (hown.lt k hk).1)
end Go.Proofs.YtgajhmmildbkfaaGreatDoor

/- A byte that may stand between marks, by the program. -/
namespace Go.Proofs.YtgajhmmildbkfaaGreatDoor
open Go.RowKit

theorem textB_9 (c : UInt8) (h : (c.toNat : Int) = 9) : textB c = true := by
  have : c = 9 := UInt8.toNat_inj.1 (by have : (9 : UInt8).toNat = 9 := rfl; omega)
  rw [this]
  decide
theorem textB_low (c : UInt8) (h : ¬ (c.toNat : Int) = 9) (h2 : ¬ (32 : Int) ≤ (c.toNat : Int)) : textB c = false := by
  have h3 : c ≠ 9 := by
    rintro rfl
    exact h rfl
  unfold textB
  rw [beq_eq_false_iff_ne.2 h3, decide_eq_false (by omega)]
  rfl
theorem textB_127 (c : UInt8) (h : (c.toNat : Int) = 127) : textB c = false := by
  have : c = 127 := UInt8.toNat_inj.1 (by have : (127 : UInt8).toNat = 127 := rfl; omega)
  rw [this]
  decide
theorem textB_yes (c : UInt8) (h2 : (32 : Int) ≤ (c.toNat : Int)) (h3 : ¬ (c.toNat : Int) = 127) : textB c = true := by
  have h4 : c ≠ 127 := by
    rintro rfl
    exact h3 rfl
  unfold textB
  rw [decide_eq_true (show 32 ≤ c.toNat by omega), bne_iff_ne.2 h4]
  simp
theorem text_any (c : UInt8) (w : World) : Calls Tryz.prog 46 #[.int .u8 (c.toNat : Int)] w fun e w' => e = .returned (.bool (textB c)) ∧ w' = w := by
  by_cases h : (c.toNat : Int) = 9
  · rw [textB_9 c h]
    go_enter Tryz.func46, Tryz.ntmps46
    go_wp2
    go_ret
    exact ⟨rfl, rfl⟩
  · by_cases h2 : (32 : Int) ≤ (c.toNat : Int)
    · by_cases h3 : (c.toNat : Int) = 127
      · rw [textB_127 c h3]
        go_enter Tryz.func46, Tryz.ntmps46
        go_wp2
        go_ret
        exact ⟨rfl, rfl⟩
      · rw [textB_yes c h2 h3]
        go_enter Tryz.func46, Tryz.ntmps46
        go_wp2
        go_ret
        exact ⟨ret_bool (by rw [bne_iff_ne.2 h3]; simp), rfl⟩
    · rw [textB_low c h h2]
      go_enter Tryz.func46, Tryz.ntmps46
      go_wp2
      go_ret
      exact ⟨ret_bool (beq_eq_false_iff_ne.2 h), rfl⟩
theorem kind_text : Kind 46 textB := ⟨text_any, enters_at Tryz.func46 (by kernel_rfl) rfl⟩
end Go.Proofs.YtgajhmmildbkfaaGreatDoor

/- A text between marks, by the program. -/
namespace Go.Proofs.YtgajhmmildbkfaaGreatDoor
open Go.RowKit

/-- What a text between marks is, by the program: nothing, and ErrForm, where a byte may not stand there. -/
theorem quoteO_no (s : ByteArray) (h : runL textB s.data.toList < s.size) : quoteO s.data.toList = none := by
  unfold quoteO
  have h2 := runL_all textB s.data.toList
  have h3 : s.data.toList.length = s.size := Array.length_toList
  rw [if_neg]
  intro h4
  have := h2.2 h4
  omega
theorem quoteO_yes (s : ByteArray) (h : ¬ runL textB s.data.toList < s.size) : quoteO s.data.toList = some (quoteL s.data.toList) := by
  unfold quoteO
  have h2 := runL_all textB s.data.toList
  have h3 : s.data.toList.length = s.size := Array.length_toList
  have h4 := runL_le textB s.data.toList
  rw [if_pos]
  exact h2.1 (by omega)
theorem quote_no (s : ByteArray) (hs : s.size ≤ 3000) (h : quoteO s.data.toList = none) (w : World) :
    Calls Tryz.prog 18 #[.string s] w fun e w' => e = .returned (.tuple #[.string ⟨#[]⟩, .iface 64 (.int .i64 3)]) ∧ w' = w := by
  have hlt : runL textB s.data.toList < s.size := by
    rcases Nat.lt_or_ge (runL textB s.data.toList) s.size with h1 | h1
    · exact h1
    · rw [quoteO_yes s (by omega)] at h
      cases h
  clear h
  obtain ⟨n, HN, hn⟩ : ∃ n : Nat, Hid (runL textB s.data.toList = n) ∧ n < s.size := ⟨_, rfl, hlt⟩
  clear hlt
  go_enter Tryz.func18, Tryz.ntmps18
  go_wp2_with (go_at_call 45; refine (run_any _ _ kind_text s (by omega) _).mono ?_; rintro e w' ⟨rfl, rfl⟩; rw [HN.out])
  go_ret2
  exact ⟨rfl, rfl⟩
theorem escL_two (l : List UInt8) (c : UInt8) (h : c = 34 ∨ c = 92) : escL (l ++ [c]) = escL l ++ [92] ++ [c] := by
  rw [escL_append, escL, if_pos h, escL, List.append_assoc]
  rfl
theorem escL_one (l : List UInt8) (c : UInt8) (h : ¬ (c = 34 ∨ c = 92)) : escL (l ++ [c]) = escL l ++ [c] := by
  rw [escL_append, escL, if_neg h, escL]
set_option maxRecDepth 100000 in
set_option maxHeartbeats 2000000 in
theorem quote_yes (s : ByteArray) (hs : s.size ≤ 3000) (h : quoteO s.data.toList = some (quoteL s.data.toList)) (w : World) :
    Calls Tryz.prog 18 #[.string s] w fun e w' => e = .returned (.tuple #[.string (bs (quoteL s.data.toList)), .nilIface]) ∧ Below w.heap.size w w' := by
  obtain ⟨i0, hi0, hz0, hz1, hz2⟩ := info_parts info5
  have hlt : runL textB s.data.toList = s.size := by
    have h2 := runL_le textB s.data.toList
    have h3 : s.data.toList.length = s.size := Array.length_toList
    rcases Nat.lt_or_ge (runL textB s.data.toList) s.size with h1 | h1
    · rw [quoteO_no s h1] at h
      cases h
    · omega
  clear h
  have HN : Hid (runL textB s.data.toList = s.size) := hlt
  clear hlt
  go_enter Tryz.func18, Tryz.ntmps18
  go_wp2_with (first | (go_at_call 45; refine (run_any _ _ kind_text s (by omega) _).mono ?_; rintro e w' ⟨rfl, hw⟩; obtain rfl := hw.symm; rw [HN.out]) | (at_make; refine wpList_make_own _ rfl _ _ 83 rfl w.heap.size 5 i0 (.int .u8 0) 1 Tryz.underlying83 hi0 hz0 hz1 .i64 .i64 _ (s.size + 2) rfl rfl (by omega) (by rw [hz2]; omega) (by unfold maxLen; omega) (Nat.le_refl _) ?_; intro w1 hown1 hgrow1; have hb1 : Below w.heap.size w w1 := (Below.refl _ _).grown hgrow1 (Nat.le_refl _) (by simp); have HO1 : Hid (Own w1 w.heap.size (.slice (some ⟨w.heap.size, 0, none⟩) 0 (s.size + 2)) []) := hown1; clear hown1 hgrow1) | (at_builtin; refine wp_app1 rfl _ _ rfl w.heap.size w w1 (.slice (some ⟨w.heap.size, 0, none⟩) 0 (s.size + 2)) [] 0 rfl HO1.out rfl (by omega) hb1 hb1.size 34 34 rfl rfl ?_; intro g0 cap0 w2 hown2 hb2 _ _; have HO2 : Hid (Own w2 w.heap.size (.slice (some ⟨g0, 0, none⟩) (0 + 1) cap0) ([] ++ [34])) := hown2; clear hown2))
  go_loopw [4, 21] (fun v i wr => ∃ (k g cap n : Nat), k ≤ s.size ∧ n ≤ 2 * k + 1 ∧ i = .int .i64 k ∧ v = .slice (some ⟨g, 0, none⟩) n cap ∧ Hid (Own wr w.heap.size v (34 :: escL (s.data.toList.take k)) ∧ (34 :: escL (s.data.toList.take k)).length = n) ∧ Below w.heap.size w wr) (fun _ i _ => s.size - (intOf i).toNat)
  case atStart => exact ⟨0, _, _, 1, Nat.zero_le _, by omega, rfl, rfl, ⟨HO2, rfl⟩, hb2⟩
  case round =>
    obtain ⟨k, g, cap, n, hk, hn, rfl, rfl, HO, hb⟩ := hrel
    clear HO1 HO2 hb1 hb2
    have hwz : w.heap.size ≤ wr.heap.size := hb.size
    by_cases hlt : k < s.size
    · obtain ⟨c, hcd⟩ : ∃ c : UInt8, s[k] = c := ⟨_, rfl⟩
      have hcl : (c.toNat : Int) < 256 := by have := c.toNat_lt; omega
      have HS : Hid (s.data.toList.take (k + 1) = s.data.toList.take k ++ [c]) := by rw [← hcd]; exact take_snoc s k hlt
      by_cases hq : c = 34 ∨ c = 92
      · have HE : Hid (34 :: escL (s.data.toList.take (k + 1)) = (34 :: escL (s.data.toList.take k)) ++ [92] ++ [c]) := by show _ = _; rw [HS.out, escL_two _ _ hq]; simp
        have hqi : (c.toNat : Int) = 34 ∨ (c.toNat : Int) = 92 := by
          rcases hq with rfl | rfl
          · exact .inl rfl
          · exact .inr rfl
        clear hq
        rcases hqi with hqi | hqi
        all_goals
          go_wp2_with (first | (at_builtin; refine wp_app1 rfl _ _ rfl w.heap.size w wr (.slice (some ⟨g, 0, none⟩) n cap) (34 :: escL (s.data.toList.take k)) n rfl HO.out.1 HO.out.2 (by omega) hb hwz 92 92 rfl rfl ?_; intro g3 cap3 w3 hown3 hb3 _ _; have HO3 : Hid (Own w3 w.heap.size (.slice (some ⟨g3, 0, none⟩) (n + 1) cap3) ((34 :: escL (s.data.toList.take k)) ++ [92])) := hown3; clear hown3) | (at_builtin; refine wp_app1 rfl _ _ rfl w.heap.size w w3 (.slice (some ⟨g3, 0, none⟩) (n + 1) cap3) ((34 :: escL (s.data.toList.take k)) ++ [92]) (n + 1) rfl HO3.out (by rw [List.length_append, HO.out.2]; rfl) (by omega) hb3 hb3.size c _ (by first | rfl | exact hqi.symm) rfl ?_; intro g4 cap4 w4 hown4 hb4 _ _; have HO4 : Hid (Own w4 w.heap.size (.slice (some ⟨g4, 0, none⟩) ((n + 1) + 1) cap4) (((34 :: escL (s.data.toList.take k)) ++ [92]) ++ [c])) := hown4; clear hown4))
          go_roundw
          case rel => exact ⟨k + 1, g4, cap4, n + 1 + 1, by omega, by omega, by go_num, rfl, ⟨by rw [HE.out]; exact HO4.out, by rw [HE.out, List.length_append, List.length_append, HO.out.2]; rfl⟩, hb4⟩
          case measure => simp [intOf]; omega
      · have HE : Hid (34 :: escL (s.data.toList.take (k + 1)) = (34 :: escL (s.data.toList.take k)) ++ [c]) := by show _ = _; rw [HS.out, escL_one _ _ hq]; simp
        have h34 : ((c.toNat : Int) == 34) = false := beq_eq_false_iff_ne.2 fun h => hq (.inl ((u8_is (n := 34) (by omega)).1 h))
        have h92 : ((c.toNat : Int) == 92) = false := beq_eq_false_iff_ne.2 fun h => hq (.inr ((u8_is (n := 92) (by omega)).1 h))
        clear hq
        go_wp2_with (at_builtin; refine wp_app1 rfl _ _ rfl w.heap.size w wr (.slice (some ⟨g, 0, none⟩) n cap) (34 :: escL (s.data.toList.take k)) n rfl HO.out.1 HO.out.2 (by omega) hb hwz c _ (by rfl) rfl ?_; intro g4 cap4 w4 hown4 hb4 _ _; have HO4 : Hid (Own w4 w.heap.size (.slice (some ⟨g4, 0, none⟩) (n + 1) cap4) ((34 :: escL (s.data.toList.take k)) ++ [c])) := hown4; clear hown4)
        go_roundw
        case rel => exact ⟨k + 1, g4, cap4, n + 1, by omega, by omega, by go_num, rfl, ⟨by rw [HE.out]; exact HO4.out, by rw [HE.out, List.length_append, HO.out.2]; rfl⟩, hb4⟩
        case measure => simp [intOf]; omega
    · have HE : Hid (quoteL s.data.toList = (34 :: escL (s.data.toList.take k)) ++ [34]) := by
        show _ = _
        rw [List.take_of_length_le (by simp; omega)]
        rfl
      go_wp2_with (at_builtin; refine wp_app1 rfl _ _ rfl w.heap.size w wr (.slice (some ⟨g, 0, none⟩) n cap) (34 :: escL (s.data.toList.take k)) n rfl HO.out.1 HO.out.2 (by omega) hb hwz 34 34 rfl rfl ?_; intro g4 cap4 w4 hown4 hb4 _ _; have HO4 : Hid (Own w4 w.heap.size (.slice (some ⟨g4, 0, none⟩) (n + 1) cap4) ((34 :: escL (s.data.toList.take k)) ++ [34])) := hown4; have hback := hown4.back (by rw [List.length_append, HO.out.2]; rfl); rw [← HE.out] at hback; clear hown4)
      go_ret2
      exact ⟨rfl, hb4⟩
theorem quoteO_cases (s : ByteArray) : quoteO s.data.toList = none ∨ quoteO s.data.toList = some (quoteL s.data.toList) := by
  unfold quoteO
  split
  · exact .inr rfl
  · exact .inl rfl
end Go.Proofs.YtgajhmmildbkfaaGreatDoor

/- One text more at a row of texts that a call owns. -/
namespace Go.Proofs.YtgajhmmildbkfaaGreatDoor
open Go.RowKit

theorem info9 : (Tryz.prog.info? 9).map (fun i => (i.zero, i.size, i.bytes)) = some (some (.string ⟨#[]⟩), 1, 16) := by kernel_rfl
/-- A value of type []string that owns these texts, among the blocks from B on. -/
def OwnS (w : World) (B : Nat) (v : Value) (xs : List ByteArray) : Prop := w.ownsRow B 9 1 v xs.length (xs.map Value.string)
theorem OwnS.lt {w : World} {B : Nat} {v : Value} {xs : List ByteArray} (h : OwnS w B v xs) : ∀ k, v.ownBlock = some k → B ≤ k ∧ k < w.heap.size := World.ownsRow.lt h
theorem OwnS.grown {w w' : World} {B b : Nat} {v : Value} {xs : List ByteArray} (h : OwnS w B v xs) (hg : w.grownBy w' (some b)) (hb : b < B) : OwnS w' B v xs := by
  refine World.ownsRow.kept h hg (.inr ?_)
  intro e
  have := (h.lt b e).1
  omega
theorem OwnS.below {w w' : World} {B : Nat} {v : Value} {xs : List ByteArray} (h : OwnS w B v xs) (hb : Below w.heap.size w w') : OwnS w' B v xs := by
  refine World.ownsRow.kept (row := none) h ⟨hb.os, hb.tape, hb.output, hb.size, fun i hi _ => hb.block i hi⟩ ?_
  rcases v.ownBlock with _ | k
  · exact .inl rfl
  · exact .inr (by simp)
theorem ownS_nil (w : World) (B : Nat) : OwnS w B (.slice none 0 0) [] := ⟨rfl, .inl ⟨rfl, rfl⟩⟩
theorem wp_apps {ops : Array Oper} {rest : List Oper} {o : Oper} {a : Act} {Q : Exit → Act → World → Prop} (hgd : o.guard = none) (s x : Operand)
    (ho : o.op = .call { callee := .builtin .append, args := #[s, x], argTypes := #[22, 22] })
    (B : Nat) (wr : World) (v : Value) (xs : List ByteArray) (n : Nat) (hs : a.eval s = v) (hown : OwnS wr B v xs) (hn : xs.length = n) (hl : n ≤ 100000) (hB : B ≤ wr.heap.size)
    (t : ByteArray) (hx : a.eval x = .slice (some ⟨wr.heap.size, 0, none⟩) 1 1)
    (h : ∀ g cap w', OwnS w' B (.slice (some ⟨g, 0, none⟩) (n + 1) cap) (xs ++ [t]) → (wr.alloc (.cells #[.string t] 9)).grownBy w' v.ownBlock → g < w'.heap.size → wpList Tryz.prog ops Q rest (a.put o.dst (.slice (some ⟨g, 0, none⟩) (n + 1) cap)) w') :
    wpList Tryz.prog ops Q (o :: rest) a (wr.alloc (.cells #[.string t] 9)) := by
  subst hn
  obtain ⟨i0, hi0, hz0, hz1, hz2⟩ := info_parts info9
  refine wpList_append_lies _ hgd s x 22 ho B 9 i0 (.string ⟨#[]⟩) 1 16 Tryz.underlying22 hi0 hz0 hz1 hz2 rfl (by omega) v xs.length _ hs (World.ownsRow.alloc hown _) ⟨wr.heap.size, 0, none⟩ 1 1 [.string t] hx rfl
    (World.news_of_block (cs := #[.string t]) (t := 9) (fr := (0, 0)) (heap_alloc_new wr _)) (by simp [Value.oneCell']) (by omega) (by unfold maxLen; omega) (by omega) (by simp; omega) _ rfl ?_
  intro g cap w' hown1 hgrow _ hlt
  refine h g cap w' ?_ hgrow hlt
  unfold OwnS
  rw [List.length_append, List.map_append]
  exact hown1
end Go.Proofs.YtgajhmmildbkfaaGreatDoor

/- Rows of elements of some cells each that a call owns, and how they are written into. -/
namespace Go.Proofs.YtgajhmmildbkfaaGreatDoor
open Go.RowKit

theorem heap_setCells (g : Nat) (t : TypeId) : ∀ (vs : List Value) (o : Nat) (w : World) (cur : Array Value), w.heap[g]? = some (.cells cur t (0, 0)) →
    ∃ cur', (w.setCells g o vs).heap[g]? = some (.cells cur' t (0, 0)) ∧ cur'.size = cur.size ∧ (o + vs.length ≤ cur.size → cur'.toList = cur.toList.take o ++ vs ++ cur.toList.drop (o + vs.length))
  | [], o, w, cur, h => ⟨cur, h, rfl, fun _ => by simp⟩
  | v :: r, o, w, cur, h => by
    obtain ⟨cur', h1, h2, h3⟩ := heap_setCells g t r (o + 1) (w.setCell ⟨g, o, none⟩ v) (cur.setIfInBounds o v) (heap_setCell_same w g o cur t v h)
    refine ⟨cur', h1, by rw [h2]; simp, fun hl => ?_⟩
    simp only [List.length_cons] at hl
    rw [h3 (by simp; omega), Array.toList_setIfInBounds]
    have ho : o < cur.toList.length := by rw [Array.length_toList]; omega
    have e1 : (cur.toList.set o v).take (o + 1) = cur.toList.take o ++ [v] := by
      apply List.ext_getElem?
      intro i
      simp only [List.getElem?_take, List.getElem?_set, List.getElem?_append, List.length_take]
      by_cases h1 : i < o
      · rw [if_pos (by omega), if_neg (by omega), if_pos (by omega), if_pos h1]
      · by_cases h2 : i = o
        · subst h2
          rw [if_pos (by omega), if_pos rfl, if_pos ho, if_neg (by omega)]
          rw [show i - min i cur.toList.length = 0 by omega]
          rfl
        · rw [if_neg (by omega), if_neg (by omega)]
          symm
          rw [List.getElem?_eq_none]
          simp
          omega
    have e2 : (cur.toList.set o v).drop (o + 1 + r.length) = cur.toList.drop (o + (v :: r).length) := by
      rw [List.drop_set_of_lt (by omega)]
      congr 1
      simp
      omega
    rw [e1, e2]
    simp
theorem grown_setCells (w : World) (g o : Nat) (vs : List Value) : w.grownBy (w.setCells g o vs) (some g) :=
  ⟨World.os_setCells w g o vs, by
    induction vs generalizing o w with
    | nil => rfl
    | cons v r ih => exact (ih (w.setCell ⟨g, o, none⟩ v) (o + 1)).trans rfl, World.output_setCells w g o vs, by
    induction vs generalizing o w with
    | nil => exact Nat.le_refl _
    | cons v r ih => exact Nat.le_trans (by simp [World.setCell]) (ih (w.setCell ⟨g, o, none⟩ v) (o + 1)), fun k hk hne => World.heap_setCells_other w g o vs hk (fun e => hne (by rw [e]))⟩

theorem gtrans {a b c : World} {row : Option Nat} (h : a.grownBy b row) (k : b.grownBy c row) : a.grownBy c row :=
  ⟨k.os.trans h.os, k.tape.trans h.tape, k.output.trans h.output, Nat.le_trans h.size k.size, fun i hi hne => (k.block i (Nat.lt_of_lt_of_le hi h.size) hne).trans (h.block i hi hne)⟩
theorem flat_len {k : Nat} : ∀ {xs : List (List Value)}, (∀ x ∈ xs, x.length = k) → xs.flatten.length = xs.length * k
  | [], _ => by simp
  | x :: r, h => by
    rw [List.flatten_cons, List.length_append, h x (by simp), flat_len (fun y hy => h y (by simp [hy])), List.length_cons, Nat.succ_mul, Nat.add_comm]
theorem flat_take {k : Nat} : ∀ {xs : List (List Value)} (_ : ∀ x ∈ xs, x.length = k) (i : Nat), xs.flatten.take (i * k) = (xs.take i).flatten
  | [], _, i => by simp
  | x :: r, h, 0 => by simp
  | x :: r, h, i + 1 => by
    have hx := h x (by simp)
    rw [List.flatten_cons, List.take_succ_cons, List.flatten_cons, ← flat_take (fun y hy => h y (by simp [hy])) i, Nat.succ_mul, Nat.add_comm, List.take_append]
    rw [hx, Nat.add_sub_cancel_left, List.take_of_length_le (by omega)]
theorem flat_drop {k : Nat} : ∀ {xs : List (List Value)} (_ : ∀ x ∈ xs, x.length = k) (i : Nat), xs.flatten.drop (i * k) = (xs.drop i).flatten
  | [], _, i => by simp
  | x :: r, h, 0 => by simp
  | x :: r, h, i + 1 => by
    have hx := h x (by simp)
    rw [List.flatten_cons, List.drop_succ_cons, ← flat_drop (fun y hy => h y (by simp [hy])) i, Nat.succ_mul, Nat.add_comm, List.drop_append]
    rw [hx, Nat.add_sub_cancel_left, List.drop_of_length_le (by omega), List.nil_append]
theorem flat_at {k : Nat} {xs : List (List Value)} (h : ∀ x ∈ xs, x.length = k) {j i : Nat} {x : List Value} {u : Value} (hj : xs[j]? = some x) (hi : x[i]? = some u) : xs.flatten[j * k + i]? = some u := by
  have e := flat_drop h j
  obtain ⟨hjl, hx⟩ := List.getElem?_eq_some_iff.1 hj
  rw [List.drop_eq_getElem_cons hjl, hx, List.flatten_cons] at e
  have e2 : (xs.flatten.drop (j * k))[i]? = some u := by
    rw [e, List.getElem?_append_left (List.getElem?_eq_some_iff.1 hi).1]
    exact hi
  rwa [List.getElem?_drop] at e2

/-- A value of slice type that owns these elements, of k cells each, among the blocks from B on. -/
structure OwnK (k : Nat) (t : TypeId) (w : World) (B : Nat) (v : Value) (xs : List (List Value)) : Prop where
  row : w.ownsRow B t k v xs.length xs.flatten
  len : ∀ x ∈ xs, x.length = k
  one : ∀ x ∈ xs, ∀ u ∈ x, u.oneCell' = true
theorem ownK_nil (k : Nat) (t : TypeId) (w : World) (B : Nat) : OwnK k t w B (.slice none 0 0) [] := ⟨⟨by simp, .inl ⟨rfl, rfl⟩⟩, fun x hx => (by cases hx), fun x hx => (by cases hx)⟩
section
variable {k n cap g B : Nat} {t : TypeId} {w : World} {v : Value} {xs : List (List Value)}
theorem OwnK.lt (h : OwnK k t w B v xs) : ∀ b, v.ownBlock = some b → B ≤ b ∧ b < w.heap.size := World.ownsRow.lt h.row
theorem OwnK.mono {B' : Nat} (h : OwnK k t w B v xs) (hb : B' ≤ B) : OwnK k t w B' v xs := ⟨World.ownsRow.mono h.row hb, h.len, h.one⟩
theorem OwnK.kept {w' : World} {row : Option Nat} (h : OwnK k t w B v xs) (hg : w.grownBy w' row) (hne : v.ownBlock = none ∨ v.ownBlock ≠ row) : OwnK k t w' B v xs := ⟨World.ownsRow.kept h.row hg hne, h.len, h.one⟩
theorem OwnK.below {w' : World} (h : OwnK k t w B v xs) (hb : Below w.heap.size w w') : OwnK k t w' B v xs := by
  refine h.kept (row := none) ⟨hb.os, hb.tape, hb.output, hb.size, fun i hi _ => hb.block i hi⟩ ?_
  rcases v.ownBlock with _ | k
  · exact .inl rfl
  · exact .inr (by simp)
theorem OwnK.drewN (h : OwnK k t w B v xs) (q : Nat) : OwnK k t (w.drewN q) B v xs := ⟨h.row, h.len, h.one⟩
/-- What it looks like. -/
theorem OwnK.forms (h : OwnK k t w B v xs) : (v = .slice none 0 0 ∧ xs = []) ∨ ∃ g cap, v = .slice (some ⟨g, 0, none⟩) xs.length cap ∧ B ≤ g ∧ g < w.heap.size ∧ xs.length ≤ cap ∧ cap ≤ maxLen := by
  rcases h.row.2 with ⟨e, h0⟩ | ⟨g, cap, cur, e, hB, hh, h1, h2, _⟩
  · exact .inl ⟨e, List.eq_nil_of_length_eq_zero h0⟩
  · exact .inr ⟨g, cap, e, hB, (Array.getElem?_eq_some_iff.1 hh).1, h1, h2⟩
theorem OwnK.cell (h : OwnK k t w B (.slice (some ⟨g, 0, none⟩) n cap) xs) {j i : Nat} {x : List Value} {u : Value} (hj : xs[j]? = some x) (hi : x[i]? = some u) : w.cell? ⟨g, j * k + i, none⟩ = some u := by
  have hc := World.ownsRow.cells h.row (g := g) rfl (j * k + i) u (flat_at h.len hj hi)
  rw [Addr.add_lit, Nat.zero_add] at hc
  exact hc
theorem OwnK.load (P : Program) (h : OwnK k t w B (.slice (some ⟨g, 0, none⟩) n cap) xs) {j : Nat} {x : List Value} (hj : xs[j]? = some x) : Sem.run P (loadCellsFrom ⟨g, j * k, none⟩ 0 k #[]) w = .ok x.toArray w :=
  run_loadCellsFrom_list P w _ x k (h.len x (List.mem_of_getElem? hj)) (fun i u hi => by rw [Addr.add_lit]; exact h.cell hj hi)
theorem OwnK.frozen (h : OwnK k t w B (.slice (some ⟨g, 0, none⟩) n cap) xs) (j : Nat) : w.frozen? ⟨g, j, none⟩ = false := by
  rcases h.row.2 with ⟨e, _⟩ | ⟨g', cap', cur, e, _, hh, _⟩
  · cases e
  · injection e with e1 _ _
    injection e1 with e1
    injection e1 with e1
    subst e1
    simp [World.frozen?, hh]
theorem OwnK.there (h : OwnK k t w B (.slice (some ⟨g, 0, none⟩) n cap) xs) (j : Nat) (hj : j < cap * k) : (w.cell? ⟨g, j, none⟩).isSome = true := by
  rcases h.row.2 with ⟨e, _⟩ | ⟨g', cap', cur, e, _, hh, _, _, hs, _⟩
  · cases e
  · injection e with e1 e2 e3
    injection e1 with e1
    injection e1 with e1
    subst e1 e3
    rw [cell_of_row w g j cur t (0, 0) hh, Array.getElem?_eq_getElem (by omega)]
    rfl
/-- Elements are written at a place. -/
theorem OwnK.put (h : OwnK k t w B (.slice (some ⟨g, 0, none⟩) n cap) xs) (i : Nat) (ys : List (List Value)) (hy : ∀ y ∈ ys, y.length = k) (hy1 : ∀ y ∈ ys, ∀ u ∈ y, u.oneCell' = true) (hi : i ≤ xs.length) (hc : i + ys.length ≤ cap) :
    OwnK k t (w.setCells g (i * k) ys.flatten) B (.slice (some ⟨g, 0, none⟩) (xs.take i ++ ys ++ xs.drop (i + ys.length)).length cap) (xs.take i ++ ys ++ xs.drop (i + ys.length)) := by
  have hall : ∀ x ∈ xs.take i ++ ys ++ xs.drop (i + ys.length), x ∈ xs ∨ x ∈ ys := fun x hx => by
    rcases List.mem_append.1 hx with hx | hx
    · rcases List.mem_append.1 hx with hx | hx
      · exact .inl (List.mem_of_mem_take hx)
      · exact .inr hx
    · exact .inl (List.mem_of_mem_drop hx)
  have hlen : ∀ x ∈ xs.take i ++ ys ++ xs.drop (i + ys.length), x.length = k := fun x hx => (hall x hx).elim (h.len x) (hy x)
  refine ⟨⟨flat_len hlen, ?_⟩, hlen, fun x hx => (hall x hx).elim (h.one x) (hy1 x)⟩
  rcases h.row.2 with ⟨e, _⟩ | ⟨g', cap', cur, e, hB, hh, hn, hm, hs, ht⟩
  · cases e
  · injection e with e1 e2 e3
    injection e1 with e1
    injection e1 with e1
    subst e1 e3
    obtain ⟨cur', h1, h2, h3⟩ := heap_setCells g t ys.flatten (i * k) w cur hh
    have hyl := flat_len hy
    have hck : i * k + ys.flatten.length ≤ cur.size := by
      rw [hyl, hs, ← Nat.add_mul]
      exact Nat.mul_le_mul_right _ hc
    have h3 := h3 hck
    have hLl : (xs.take i ++ ys ++ xs.drop (i + ys.length)).length ≤ cap := by simp; omega
    refine .inr ⟨g, cap, cur', rfl, hB, h1, hLl, hm, by rw [h2, hs], ?_⟩
    rw [h3]
    have hd : (xs.drop (i + ys.length)).flatten = (cur.toList.drop (i * k + ys.flatten.length)).take ((xs.length - (i + ys.length)) * k) := by
      rw [← flat_drop h.len, ← ht, hyl, ← Nat.add_mul, List.drop_take, Nat.sub_mul]
    have htk : (xs.take i).flatten = cur.toList.take (i * k) := by
      rw [← flat_take h.len, ← ht, List.take_take, Nat.min_eq_left (Nat.mul_le_mul_right _ hi)]
    have hl1 : (cur.toList.take (i * k)).length = i * k := by rw [List.length_take, Array.length_toList]; omega
    rw [List.flatten_append, List.flatten_append, hd, htk]
    have hT : (xs.take i ++ ys ++ xs.drop (i + ys.length)).length = i + ys.length + (xs.length - (i + ys.length)) := by simp; omega
    rw [hT, Nat.add_mul, Nat.add_mul, ← hyl, List.take_append, List.length_append, hl1]
    rw [List.take_of_length_le (by rw [List.length_append, hl1]; omega)]
    congr 2
    omega
theorem OwnK.set (h : OwnK k t w B (.slice (some ⟨g, 0, none⟩) n cap) xs) (i : Nat) (x : List Value) (hx : x.length = k) (hx1 : ∀ u ∈ x, u.oneCell' = true) (hi : i < xs.length) :
    OwnK k t (w.setCells g (i * k) x) B (.slice (some ⟨g, 0, none⟩) n cap) (xs.set i x) := by
  have hn : n = xs.length ∧ xs.length ≤ cap := by
    rcases h.forms with ⟨e, _⟩ | ⟨g', cap', e, _, _, h1, _⟩
    · cases e
    · injection e with e1 e2 e3
      subst e2 e3
      exact ⟨rfl, h1⟩
  have h2 := h.put i [x] (fun y hy => by rw [List.mem_singleton.1 hy]; exact hx) (fun y hy => by rw [List.mem_singleton.1 hy]; exact hx1) (by omega) (by simp; omega)
  have e1 : xs.take i ++ [x] ++ xs.drop (i + [x].length) = xs.set i x := by rw [List.set_eq_take_append_cons_drop, if_pos hi]; simp
  have e2 : [x].flatten = x := by simp
  rw [e1, e2, List.length_set, ← hn.1] at h2
  exact h2
theorem OwnK.cut (h : OwnK k t w B (.slice (some ⟨g, 0, none⟩) n cap) xs) (i : Nat) (hi : i ≤ xs.length) : OwnK k t w B (.slice (some ⟨g, 0, none⟩) i cap) (xs.take i) := by
  have hlen : ∀ x ∈ xs.take i, x.length = k := fun x hx => h.len x (List.mem_of_mem_take hx)
  have hl : (xs.take i).length = i := by rw [List.length_take]; omega
  refine ⟨⟨flat_len hlen, ?_⟩, hlen, fun x hx => h.one x (List.mem_of_mem_take hx)⟩
  rcases h.row.2 with ⟨e, _⟩ | ⟨g', cap', cur, e, hB, hh, hn, hm, hs, ht⟩
  · cases e
  · injection e with e1 e2 e3
    injection e1 with e1
    injection e1 with e1
    subst e1 e3
    refine .inr ⟨g, cap, cur, by rw [hl], hB, hh, by omega, hm, hs, ?_⟩
    rw [← flat_take h.len, ← ht, List.take_take, hl, Nat.min_eq_left (Nat.mul_le_mul_right _ hi)]
/-- What stands behind a place is written over, and cut off. -/
theorem OwnK.wipe (h : OwnK k t w B (.slice (some ⟨g, 0, none⟩) n cap) xs) (i : Nat) (hi : i ≤ xs.length) (vs : List Value) (hv : i * k + vs.length ≤ cap * k) : OwnK k t (w.setCells g (i * k) vs) B (.slice (some ⟨g, 0, none⟩) i cap) (xs.take i) := by
  have hc := h.cut i hi
  refine ⟨⟨hc.row.1, ?_⟩, hc.len, hc.one⟩
  rcases hc.row.2 with ⟨e, _⟩ | ⟨g', cap', cur, e, hB, hh, hn, hm, hs, ht⟩
  · cases e
  · injection e with e1 e2 e3
    injection e1 with e1
    injection e1 with e1
    subst e1 e3
    obtain ⟨cur', h1, h2, h3⟩ := heap_setCells g t vs (i * k) w cur hh
    have hl : (xs.take i).length = i := by rw [List.length_take]; omega
    refine .inr ⟨g, cap, cur', by rw [hl], hB, h1, hn, hm, by rw [h2, hs], ?_⟩
    rw [h3 (by rw [hs]; exact hv), ← ht, hl, List.take_append, List.take_append, List.take_take]
    rw [List.length_take, Array.length_toList]
    have hik : i * k ≤ cur.size := by omega
    rw [show i * k - min (i * k) cur.size = 0 by omega, Nat.min_self, List.length_append, List.length_take, Array.length_toList]
    rw [show i * k - (min (i * k) cur.size + vs.length) = 0 by omega]
    simp
end
end Go.Proofs.YtgajhmmildbkfaaGreatDoor

/- Cells that are set, one by one. -/
namespace Go.Proofs.YtgajhmmildbkfaaGreatDoor
open Go.RowKit Go.Shelf

/-- A cell is told again what it holds: the world is as it was. -/
theorem setCell_same {w : World} {g i : Nat} {cs : Array Value} {t : TypeId} (h : w.heap[g]? = some (.cells cs t (0, 0))) {v : Value} (hv : cs[i]? = some v) : w.setCell ⟨g, i, none⟩ v = w := by
  have e : (w.setCell ⟨g, i, none⟩ v).heap = w.heap := by
    apply Array.ext_getElem?
    intro j
    by_cases hj : j = g
    · subst hj
      rw [heap_setCell_same w j i cs t v h, h]
      congr 2
      apply Array.ext_getElem?
      intro m
      rw [Array.getElem?_setIfInBounds]
      by_cases hm : i = m
      · subst hm
        rw [if_pos rfl, hv, if_pos (Array.getElem?_eq_some_iff.1 hv).1]
      · rw [if_neg hm]
    · exact Below.heap_setCell w ⟨g, i, none⟩ v j hj
  show { w with heap := _ } = w
  have : (w.setCell ⟨g, i, none⟩ v).heap = w.heap := e
  cases w
  simp only [World.setCell] at this ⊢
  congr
/-- All cells of a block anew. -/
theorem heap_setAll (g : Nat) (t : TypeId) (vs : List Value) (w : World) (cur : Array Value) (h : w.heap[g]? = some (.cells cur t (0, 0))) (hs : cur.size = vs.length) : (w.setCells g 0 vs).heap[g]? = some (.cells vs.toArray t (0, 0)) := by
  obtain ⟨cur', h1, h2, h3⟩ := heap_setCells g t vs 0 w cur h
  have e := h3 (by omega)
  rw [List.take_zero, List.nil_append, Nat.zero_add, List.drop_of_length_le (by rw [Array.length_toList]; omega), List.append_nil] at e
  have : cur' = vs.toArray := by rw [← e]
  rw [h1, this]
theorem cell_of {w : World} {g i : Nat} {cs : Array Value} {t : TypeId} (h : w.heap[g]? = some (.cells cs t (0, 0))) : w.cell? ⟨g, i, none⟩ = cs[i]? := cell_of_row w g i cs t (0, 0) h
theorem free_of {w : World} {g : Nat} {cs : Array Value} {t : TypeId} (h : w.heap[g]? = some (.cells cs t (0, 0))) (i : Nat) : w.frozen? ⟨g, i, none⟩ = false := frozen_of_row w g i cs t h
end Go.Proofs.YtgajhmmildbkfaaGreatDoor

/- A parameter more, of a header that proves a request: both closures of proof.Digest. -/
namespace Go.Proofs.YtgajhmmildbkfaaGreatDoor
open Go.RowKit
set_option linter.unusedVariables false

/-- Where the parameters lie, and what was wrong. -/
structure DgW (w : World) (B : Nat) (xs : List ByteArray) (bad : Bool) : Prop where
  wr : w.heap[B + 1]? = some (.cells #[errOf (if bad then some 3 else none)] 30 (0, 0))
  add : w.heap[B + 2]? = some (.cells #[.func (.func 26) #[] #[.pointer (some ⟨B, 0, none⟩)]] 61 (0, 0))
  row : ∃ v, w.heap[B]? = some (.cells #[v] 22 (0, 0)) ∧ OwnS w (B + 3) v xs
theorem DgW.lt {w : World} {B : Nat} {xs : List ByteArray} {bad : Bool} (h : DgW w B xs bad) : B + 2 < w.heap.size := (Array.getElem?_eq_some_iff.1 h.add).1
theorem DgW.below {w w' : World} {B : Nat} {xs : List ByteArray} {bad : Bool} (h : DgW w B xs bad) (hb : Below w.heap.size w w') : DgW w' B xs bad := by
  obtain ⟨v, h1, h2⟩ := h.row
  exact ⟨(hb.block _ (Array.getElem?_eq_some_iff.1 h.wr).1).trans h.wr, (hb.block _ (Array.getElem?_eq_some_iff.1 h.add).1).trans h.add, v, (hb.block _ (Array.getElem?_eq_some_iff.1 h1).1).trans h1, h2.below hb⟩
theorem DgW.setWrong {w : World} {B : Nat} {xs : List ByteArray} {bad : Bool} (h : DgW w B xs bad) : DgW (w.setCell ⟨B + 1, 0, none⟩ (errOf (some 3))) B xs true := by
  obtain ⟨v, h1, h2⟩ := h.row
  have hg : w.grownBy (w.setCell ⟨B + 1, 0, none⟩ (errOf (some 3))) (some (B + 1)) := grown_setCells w (B + 1) 0 [errOf (some 3)]
  have hlt := h.lt
  refine ⟨?_, ?_, v, ?_, h2.grown hg (by omega)⟩
  · have := heap_setCell_same w (B + 1) 0 _ _ (errOf (some 3)) h.wr
    simpa using this
  · rw [hg.block _ hlt (by intro e; injection e with e; omega)]
    exact h.add
  · rw [hg.block _ (by omega) (by intro e; injection e with e; omega)]
    exact h1
theorem DgW.setRow {w : World} {B : Nat} {bad : Bool} {v v' : Value} {xs' : List ByteArray} (hw : w.heap[B + 1]? = some (.cells #[errOf (if bad then some 3 else none)] 30 (0, 0))) (ha : w.heap[B + 2]? = some (.cells #[.func (.func 26) #[] #[.pointer (some ⟨B, 0, none⟩)]] 61 (0, 0))) (hp : w.heap[B]? = some (.cells #[v] 22 (0, 0))) (ho : OwnS w (B + 3) v' xs') :
    DgW (w.setCell ⟨B, 0, none⟩ v') B xs' bad := by
  have hg : w.grownBy (w.setCell ⟨B, 0, none⟩ v') (some B) := grown_setCells w B 0 [v']
  have hlt := (Array.getElem?_eq_some_iff.1 ha).1
  refine ⟨?_, ?_, v', ?_, ho.grown hg (by omega)⟩
  · rw [hg.block _ (by omega) (by intro e; injection e with e; omega)]
    exact hw
  · rw [hg.block _ hlt (by intro e; injection e with e; omega)]
    exact ha
  · have := heap_setCell_same w B 0 _ _ v' hp
    simpa using this
def okT (s : ByteArray) : Bool := s.data.toList.all textB
def qT (s : ByteArray) : ByteArray := if okT s then bs (quoteL s.data.toList) else ⟨#[]⟩
def eqT (n t : ByteArray) : ByteArray := n ++ ⟨#[61]⟩ ++ t
set_option maxRecDepth 100000 in
set_option maxHeartbeats 2000000 in
theorem add_any {B : Nat} {xs : List ByteArray} {bad : Bool} (name text : ByteArray) (hnz : name.size ≤ 3000) (htz : text.size ≤ 10000) (hl : xs.length ≤ 1000) (w : World) (h : DgW w B xs bad) :
    Calls Tryz.prog 26 #[.string name, .string text, .pointer (some ⟨B, 0, none⟩)] w fun e w' => e = .returned (.tuple #[]) ∧ DgW w' B (xs ++ [eqT name text]) bad ∧ Below B w w' := by
  have hlt := h.lt
  have HD : Hid (DgW w B xs bad) := h
  obtain ⟨v, hp, hown⟩ := h.row
  clear h
  obtain ⟨n, hn⟩ : ∃ n, xs.length = n := ⟨_, rfl⟩
  have hc : w.cell? ⟨B, 0, none⟩ = some v := cell_of hp
  have HP : Hid (w.heap[B]? = some (.cells #[v] 22 (0, 0)) ∧ OwnS w (B + 3) v xs) := ⟨hp, hown⟩
  clear hp hown
  go_enter Tryz.func26, Tryz.ntmps26
  go_wp2_with (at_builtin; refine wp_apps rfl _ _ rfl (B + 3) w v xs n rfl HP.out.2 hn (by omega) (by omega) (eqT name text) rfl ?_; intro g cap w4 hown hg hl4; have hA : Below w.heap.size w (w.alloc (.cells #[.string (eqT name text)] 9)) := (Below.refl w.heap.size w).alloc (Nat.le_refl _) _; have hob : ∀ k, k < B + 3 → some k ≠ v.ownBlock := fun k hk e => (by have := (HP.out.2.lt k e.symm).1; omega); have hk4 : ∀ k, k < B + 3 → w4.heap[k]? = w.heap[k]? := fun k hk => (by rw [hg.block k (by simp; omega) (hob k hk), hA.block k (by omega)]); have hp4 : w4.heap[B]? = some (.cells #[v] 22 (0, 0)) := (hk4 B (by omega)).trans HP.out.1; have H4 : Hid (OwnS w4 (B + 3) (.slice (some ⟨g, 0, none⟩) (n + 1) cap) (xs ++ [eqT name text]) ∧ w4.heap[B]? = some (.cells #[v] 22 (0, 0)) ∧ w4.heap[B + 1]? = some (.cells #[errOf (if bad then some 3 else none)] 30 (0, 0)) ∧ w4.heap[B + 2]? = some (.cells #[.func (.func 26) #[] #[.pointer (some ⟨B, 0, none⟩)]] 61 (0, 0)) ∧ Below B w w4) := ⟨hown, hp4, (hk4 _ (by omega)).trans HD.out.wr, (hk4 _ (by omega)).trans HD.out.add, (hA.mono (by omega)).grown hg (by simp; omega) (fun i hi => by have := (HP.out.2.lt i hi).1; omega)⟩; have hc4 : w4.cell? ⟨B, 0, none⟩ = some v := cell_of hp4; have hf4 := free_of hp4; clear hown hg hl4 hA hob hk4 hp4)
  have HF : Hid (DgW (w4.setCell ⟨B, 0, none⟩ (.slice (some ⟨g, 0, none⟩) (n + 1) cap)) B (xs ++ [eqT name text]) bad ∧ Below B w (w4.setCell ⟨B, 0, none⟩ (.slice (some ⟨g, 0, none⟩) (n + 1) cap))) := ⟨DgW.setRow H4.out.2.2.1 H4.out.2.2.2.1 H4.out.2.1 H4.out.1, H4.out.2.2.2.2.setCell (Nat.le_refl _) _⟩
  go_wp2
  go_end0
  exact ⟨rfl, HF.out.1, HF.out.2⟩
set_option maxRecDepth 100000 in
set_option maxHeartbeats 2000000 in
theorem quote_any {B : Nat} {xs : List ByteArray} {bad : Bool} (name text : ByteArray) (hnz : name.size ≤ 3000) (ht : text.size ≤ 3000) (hl : xs.length ≤ 1000) (w : World) (h : DgW w B xs bad) :
    Calls Tryz.prog 27 #[.string name, .string text, .pointer (some ⟨B + 1, 0, none⟩), .pointer (some ⟨B + 2, 0, none⟩)] w fun e w' => e = .returned (.tuple #[]) ∧ DgW w' B (xs ++ [eqT name (qT text)]) (bad || !okT text) ∧ Below B w w' := by
  have hlt := h.lt
  have HD : Hid (DgW w B xs bad) := h
  clear h
  have hen := enters_at Tryz.func26 (by kernel_rfl) rfl
  cases hok : okT text
  · have hq : quoteO text.data.toList = none := by unfold quoteO; rw [if_neg]; intro h; have : okT text = true := h; rw [hok] at this; cases this
    have hqt : qT text = ⟨#[]⟩ := by unfold qT; rw [if_neg]; rw [hok]; decide
    have hw1 := cell_of (i := 0) HD.out.wr
    have hf1 := free_of HD.out.wr
    simp only [List.getElem?_toArray, List.getElem?_cons_zero] at hw1
    have HS : Hid (DgW (w.setCell ⟨B + 1, 0, none⟩ (errOf (some 3))) B xs true ∧ Below B w (w.setCell ⟨B + 1, 0, none⟩ (errOf (some 3)))) := ⟨HD.out.setWrong, (Below.refl _ _).setCell (show B ≤ B + 1 by omega) _⟩
    have hc2 : (w.setCell ⟨B + 1, 0, none⟩ (.iface 64 (.int .i64 3))).cell? ⟨B + 2, 0, none⟩ = some (.func (.func 26) #[] #[.pointer (some ⟨B, 0, none⟩)]) := cell_of HS.out.1.add
    rw [hqt, Bool.not_false, Bool.or_true]
    go_enter Tryz.func27, Tryz.ntmps27
    go_wp2_with (go_at_call 18; refine (quote_no text ht hq _).mono ?_; rintro e w' ⟨rfl, hw⟩; obtain rfl := hw.symm)
    go_wp2_with fail
    refine (add_any name ⟨#[]⟩ hnz (by decide) hl _ HS.out.1).mono ?_
    rintro e w2 ⟨rfl, h2, hb2⟩
    have HF : Hid (DgW w2 B (xs ++ [eqT name ⟨#[]⟩]) true ∧ Below B w w2) := ⟨h2, HS.out.2.trans hb2⟩
    clear h2 hb2
    go_wp2
    go_end0
    exact ⟨rfl, HF.out.1, HF.out.2⟩
  · have hq : quoteO text.data.toList = some (quoteL text.data.toList) := by unfold quoteO; rw [if_pos]; exact hok
    have hqt : qT text = bs (quoteL text.data.toList) := by unfold qT; rw [if_pos hok]
    have hqz : (bs (quoteL text.data.toList)).size ≤ 10000 := by
      rw [bs_size]
      have h1 := escL_length text.data.toList
      have h2 : text.data.toList.length = text.size := Array.length_toList
      unfold quoteL
      simp
      omega
    rw [hqt, Bool.not_true, Bool.or_false]
    go_enter Tryz.func27, Tryz.ntmps27
    go_wp2_with (go_at_call 18; refine (quote_yes text ht hq _).mono ?_; rintro e w1 ⟨rfl, hb1⟩; have HD1 : Hid (DgW w1 B xs bad ∧ Below B w w1) := ⟨HD.out.below hb1, hb1.mono (by omega)⟩; clear hb1; have hc2 : w1.cell? ⟨B + 2, 0, none⟩ = some (.func (.func 26) #[] #[.pointer (some ⟨B, 0, none⟩)]) := cell_of HD1.out.1.add)
    refine (add_any name _ hnz hqz hl _ HD1.out.1).mono ?_
    rintro e w2 ⟨rfl, h2, hb2⟩
    have HF : Hid (DgW w2 B (xs ++ [eqT name (bs (quoteL text.data.toList))]) bad ∧ Below B w w2) := ⟨h2, HD1.out.2.trans hb2⟩
    clear h2 hb2
    go_wp2
    go_end0
    exact ⟨rfl, HF.out.1, HF.out.2⟩
end Go.Proofs.YtgajhmmildbkfaaGreatDoor
