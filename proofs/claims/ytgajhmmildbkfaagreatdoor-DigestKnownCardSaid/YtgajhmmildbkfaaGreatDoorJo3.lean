/- Texts of one claim, joined: each begins with what it proves. -/
import Derived.Test.YtgajhmmildbkfaaGreatDoorJo2
import Derived.Test.YtgajhmmildbkfaaGreatDoorJo1
import Derived.Deep.RegionHeld3
import Derived.Lib.Strings
import Derived.Lib.Slices
import Derived.Lib.Walk
import Derived.Lib.Bytealg
import Derived.Shelf.LaysM
import Derived.Shelf.Strconv.Clone
import Derived.Deep.Cut
/- What proves a request, by the program: the walks. -/
namespace Go.Proofs.YtgajhmmildbkfaaGreatDoor
open Go.RowKit

set_option maxRecDepth 100000 in
set_option maxHeartbeats 4000000 in
theorem resp_int_no (a : PfA) (r : PfR) (st : Bool) (dv : Value) (n : Nat) (hn : n < 9223372036854775808) (hf : Fits a r) (hs : a.sess = false) (hi : a.qop.data.toList = qInt) (w : World) (HT : Hid (Tabs w)) :
    Calls Tryz.prog 11 #[.agg #[.int .i64 a.scheme, .string a.realm, .string a.nonce, .string a.opq, .bool a.sess, .string a.qop, .bool st, dv], .agg #[.string r.user, .string r.pass], .string r.method, .string r.target, .string r.body, .string r.cnonce, .int .i64 (n : Int)] w fun e w' => e = .returned (.string (bs (respL a r n))) ∧ Below w.heap.size w w' := by
  have HK := pfK_start w a r st dv HT
  have HQE : Hid (a.qop = ⟨#[97, 117, 116, 104, 45, 105, 110, 116]⟩) := eq_int _ hi
  have HR : Hid (respL a r n = sumT a.scheme [whoL a r, a.nonce.data.toList, countL n, r.cnonce.data.toList, a.qop.data.toList, sumT a.scheme [r.method.data.toList, r.target.data.toList, sumT a.scheme [r.body.data.toList]]]) := by
    show _ = _
    unfold respL oneL twoL
    have h0 : ¬ qInt = [] := by decide
    rw [hi, if_neg h0, hs, if_pos rfl]
    rfl
  unfold Fits at hf
  obtain ⟨X, HX⟩ : ∃ X, Hid (bs (whoL a r) = X) := ⟨_, rfl⟩
  have hxz : X.size ≤ 64 := by rw [← HX.out, bs_size]; exact sumT_len _ _
  have h1 : ∀ W, Hid (Tabs W) → ∀ b, b = W.heap.size → Calls Tryz.prog 33 #[.int .i64 a.scheme, .slice (some ⟨b, 0, none⟩) 3 3] (W.alloc (.cells #[.string r.user, .string a.realm, .string r.pass] 9)) fun e w' => e = .returned (.string X) ∧ Below W.heap.size W w' := fun W HT b hb => by rw [← HX.out]; exact sum3 a.scheme r.user a.realm r.pass (by omega) W HT b hb
  obtain ⟨Y, HY⟩ : ∃ Y, Hid (bs (sumT a.scheme [r.method.data.toList, r.target.data.toList]) = Y) := ⟨_, rfl⟩
  have hyz : Y.size ≤ 64 := by rw [← HY.out, bs_size]; exact sumT_len _ _
  have h2 : ∀ W, Hid (Tabs W) → ∀ b, b = W.heap.size → Calls Tryz.prog 33 #[.int .i64 a.scheme, .slice (some ⟨b, 0, none⟩) 2 2] (W.alloc (.cells #[.string r.method, .string r.target] 9)) fun e w' => e = .returned (.string Y) ∧ Below W.heap.size W w' := fun W HT b hb => by rw [← HY.out]; exact sum2 a.scheme r.method r.target (by omega) W HT b hb
  obtain ⟨B, HB⟩ : ∃ B, Hid (bs (sumT a.scheme [r.body.data.toList]) = B) := ⟨_, rfl⟩
  have hbz : B.size ≤ 64 := by rw [← HB.out, bs_size]; exact sumT_len _ _
  have h5 : ∀ W, Hid (Tabs W) → ∀ b, b = W.heap.size → Calls Tryz.prog 33 #[.int .i64 a.scheme, .slice (some ⟨b, 0, none⟩) 1 1] ((W.alloc (.cells #[.string r.body] 9)).drew) fun e w' => e = .returned (.string B) ∧ Below W.heap.size W w' := fun W HT b hb => by
    rw [← HB.out, drew_alloc]
    exact (sum1 a.scheme r.body (by omega) W.drew (HT.out.below (Below.refl _ _).drew) b hb).mono fun e w' ⟨he, hb⟩ => ⟨he, (Below.refl _ _).drew.trans hb⟩
  obtain ⟨V, HV⟩ : ∃ V, Hid (bs (sumT a.scheme [r.method.data.toList, r.target.data.toList, B.data.toList]) = V) := ⟨_, rfl⟩
  have hvz : V.size ≤ 64 := by rw [← HV.out, bs_size]; exact sumT_len _ _
  have h6 : ∀ W, Hid (Tabs W) → ∀ b, b = W.heap.size → Calls Tryz.prog 33 #[.int .i64 a.scheme, .slice (some ⟨b, 0, none⟩) 3 3] (W.alloc (.cells #[.string r.method, .string r.target, .string B] 9)) fun e w' => e = .returned (.string V) ∧ Below W.heap.size W w' := fun W HT b hb => by rw [← HV.out]; exact sum3 a.scheme r.method r.target B (by omega) W HT b hb
  obtain ⟨C, HC⟩ : ∃ C, Hid (bs (countL n) = C) := ⟨_, rfl⟩
  have hcz : C.size ≤ 16 := by rw [← HC.out, bs_size]; exact countL_len _
  have h4 : ∀ w, Hid (Bruijn w) → Calls Tryz.prog 12 #[.int .i64 (n : Int)] w fun e w' => e = .returned (.string C) ∧ Below w.heap.size w w' := fun w HD => by rw [← HC.out]; exact count_any n hn w HD
  have HE : Hid (bs (sumT a.scheme [X.data.toList, a.nonce.data.toList, C.data.toList, r.cnonce.data.toList, a.qop.data.toList, V.data.toList]) = bs (respL a r n)) := by
    show _ = _
    rw [HR.out, ← HX.out, bs_data, ← HV.out, bs_data, ← HB.out, bs_data, ← HC.out, bs_data]
  have h3 : ∀ W, Hid (Tabs W) → ∀ b, b = W.heap.size → Calls Tryz.prog 33 #[.int .i64 a.scheme, .slice (some ⟨b, 0, none⟩) 6 6] (W.alloc (.cells #[.string X, .string a.nonce, .string C, .string r.cnonce, .string ⟨#[97, 117, 116, 104, 45, 105, 110, 116]⟩, .string V] 9)) fun e w' => e = .returned (.string (bs (respL a r n))) ∧ Below W.heap.size W w' := fun W HT b hb => by rw [← HE.out, ← HQE.out]; exact sum6 a.scheme X a.nonce C r.cnonce a.qop V (by omega) W HT b hb
  have HK0 : Hid (PfK w _ a r) := HK
  clear HK hi
  rw [hs]
  rw [hs] at HK0
  obtain ⟨c0, c1, c2, c4, c5, d0, d1, _, _, _⟩ := HK0.out
  rw [HQE.out] at c5
  rw [hs] at c4
  go_enter Tryz.func11, Tryz.ntmps11
  go_wp2_with fail
  refine (h1 _ HK0.out.tabs _ (by simp)).mono ?_
  rintro e w1 ⟨rfl, hb1⟩
  have HK1 : Hid (PfK w w1 a r) := HK0.out.below hb1
  clear hb1 c0 c1 c2 c4 c5 d0 d1
  obtain ⟨c0, c1, c2, c4, c5, d0, d1, _, _, _⟩ := HK1.out
  rw [HQE.out] at c5
  rw [hs] at c4
  go_wp2_with fail
  refine (h2 _ HK1.out.tabs _ (by simp)).mono ?_
  rintro e w2 ⟨rfl, hb2⟩
  have HK2 : Hid (PfK w w2 a r) := HK1.out.below hb2
  clear hb2 c0 c1 c2 c4 c5 d0 d1
  obtain ⟨c0, c1, c2, c4, c5, d0, d1, _, _, _⟩ := HK2.out
  rw [HQE.out] at c5
  rw [hs] at c4
  have hQ : w2.drew.cell? ⟨w.heap.size, 0, none⟩ = some (.int .i64 a.scheme) ∧ w2.drew.cell? ⟨w.heap.size, 2, none⟩ = some (.string a.nonce) ∧ w2.drew.cell? ⟨w.heap.size, 5, none⟩ = some (.string ⟨#[97, 117, 116, 104, 45, 105, 110, 116]⟩) ∧ Hid (PfK w (w2.drew) a r) := PfK.heldI HQE (HK2.out.drew)
  have hQ0 : w2.cell? ⟨w.heap.size, 0, none⟩ = some (.int .i64 a.scheme) ∧ w2.cell? ⟨w.heap.size, 2, none⟩ = some (.string a.nonce) ∧ w2.cell? ⟨w.heap.size, 5, none⟩ = some (.string ⟨#[97, 117, 116, 104, 45, 105, 110, 116]⟩) ∧ Hid (PfK w (w2) a r) := PfK.heldI HQE (HK2.out)
  go_wp2
  go_region_held3 (fun W => W.cell? ⟨w.heap.size, 0, none⟩ = some (.int .i64 a.scheme) ∧ W.cell? ⟨w.heap.size, 2, none⟩ = some (.string a.nonce) ∧ W.cell? ⟨w.heap.size, 5, none⟩ = some (.string ⟨#[97, 117, 116, 104, 45, 105, 110, 116]⟩) ∧ Hid (PfK w W a r)) (first | (with_reducible assumption) | (refine heldI HQE ?_ _; with_reducible assumption) | (refine heldD HQE ?_ _; with_reducible assumption)) (first
    | (go_at_call 33; refine (h6 _ hKa.tabs _ rfl).mono ?_; rintro e wb ⟨rfl, hbb⟩; have hKb := hKa.below hbb; have hQb : wb.cell? ⟨w.heap.size, 0, none⟩ = some (.int .i64 a.scheme) ∧ wb.cell? ⟨w.heap.size, 2, none⟩ = some (.string a.nonce) ∧ wb.cell? ⟨w.heap.size, 5, none⟩ = some (.string ⟨#[97, 117, 116, 104, 45, 105, 110, 116]⟩) ∧ Hid (PfK w (wb) a r) := PfK.heldI HQE (hKb))
    | (go_at_call 33; refine (h5 w2 HK2.out.tabs _ rfl).mono ?_; rintro e wa ⟨rfl, hba⟩; have hKa := HK2.out.below hba; have hQa : wa.cell? ⟨w.heap.size, 0, none⟩ = some (.int .i64 a.scheme) ∧ wa.cell? ⟨w.heap.size, 2, none⟩ = some (.string a.nonce) ∧ wa.cell? ⟨w.heap.size, 5, none⟩ = some (.string ⟨#[97, 117, 116, 104, 45, 105, 110, 116]⟩) ∧ Hid (PfK w (wa) a r) := PfK.heldI HQE (hKa)))
  have HK3 : Hid (PfK w wb a r) := hKb
  clear hQ hQ0 hQa hQb hKa hKb hba hbb c0 c1 c2 c4 c5 d0 d1
  obtain ⟨c0, c1, c2, c4, c5, d0, d1, _, _, _⟩ := HK3.out
  rw [HQE.out] at c5
  rw [hs] at c4
  have hQ : wb.drew.cell? ⟨w.heap.size, 0, none⟩ = some (.int .i64 a.scheme) ∧ wb.drew.cell? ⟨w.heap.size, 2, none⟩ = some (.string a.nonce) ∧ wb.drew.cell? ⟨w.heap.size, 5, none⟩ = some (.string ⟨#[97, 117, 116, 104, 45, 105, 110, 116]⟩) ∧ Hid (PfK w (wb.drew) a r) := PfK.heldI HQE (HK3.out.drew)
  go_wp2
  go_region_held3 (fun W => W.cell? ⟨w.heap.size, 0, none⟩ = some (.int .i64 a.scheme) ∧ W.cell? ⟨w.heap.size, 2, none⟩ = some (.string a.nonce) ∧ W.cell? ⟨w.heap.size, 5, none⟩ = some (.string ⟨#[97, 117, 116, 104, 45, 105, 110, 116]⟩) ∧ Hid (PfK w W a r)) (first | (with_reducible assumption) | (refine heldI HQE ?_ _; with_reducible assumption) | (refine heldD HQE ?_ _; with_reducible assumption)) (first
    | (go_at_call 12; refine (h4 _ HK3.out.drew.tabs.bruijn).mono ?_; rintro e wc ⟨rfl, hbc⟩; have hKc := HK3.out.drew.below hbc; have hQc : wc.cell? ⟨w.heap.size, 0, none⟩ = some (.int .i64 a.scheme) ∧ wc.cell? ⟨w.heap.size, 2, none⟩ = some (.string a.nonce) ∧ wc.cell? ⟨w.heap.size, 5, none⟩ = some (.string ⟨#[97, 117, 116, 104, 45, 105, 110, 116]⟩) ∧ Hid (PfK w (wc) a r) := PfK.heldI HQE (hKc))
    | (go_at_call 33; refine (h3 _ hKc.tabs _ rfl).mono ?_; rintro e wd ⟨rfl, hbd⟩; have hKd := hKc.below hbd; have hQd : wd.cell? ⟨w.heap.size, 0, none⟩ = some (.int .i64 a.scheme) ∧ wd.cell? ⟨w.heap.size, 2, none⟩ = some (.string a.nonce) ∧ wd.cell? ⟨w.heap.size, 5, none⟩ = some (.string ⟨#[97, 117, 116, 104, 45, 105, 110, 116]⟩) ∧ Hid (PfK w (wd) a r) := PfK.heldI HQE (hKd)))
  go_wp2
  go_ret
  exact ⟨rfl, hKd.bel⟩
end Go.Proofs.YtgajhmmildbkfaaGreatDoor

/- What proves a request, by the program: the walks. -/
namespace Go.Proofs.YtgajhmmildbkfaaGreatDoor
open Go.RowKit

set_option maxRecDepth 100000 in
set_option maxHeartbeats 4000000 in
theorem resp_int_sess (a : PfA) (r : PfR) (st : Bool) (dv : Value) (n : Nat) (hn : n < 9223372036854775808) (hf : Fits a r) (hs : a.sess = true) (hi : a.qop.data.toList = qInt) (w : World) (HT : Hid (Tabs w)) :
    Calls Tryz.prog 11 #[.agg #[.int .i64 a.scheme, .string a.realm, .string a.nonce, .string a.opq, .bool a.sess, .string a.qop, .bool st, dv], .agg #[.string r.user, .string r.pass], .string r.method, .string r.target, .string r.body, .string r.cnonce, .int .i64 (n : Int)] w fun e w' => e = .returned (.string (bs (respL a r n))) ∧ Below w.heap.size w w' := by
  have HK := pfK_start w a r st dv HT
  have HQE : Hid (a.qop = ⟨#[97, 117, 116, 104, 45, 105, 110, 116]⟩) := eq_int _ hi
  have HR : Hid (respL a r n = sumT a.scheme [sumT a.scheme [whoL a r, a.nonce.data.toList, r.cnonce.data.toList], a.nonce.data.toList, countL n, r.cnonce.data.toList, a.qop.data.toList, sumT a.scheme [r.method.data.toList, r.target.data.toList, sumT a.scheme [r.body.data.toList]]]) := by
    show _ = _
    unfold respL oneL twoL
    have h0 : ¬ qInt = [] := by decide
    rw [hi, if_neg h0, hs, if_pos rfl]
    rfl
  unfold Fits at hf
  obtain ⟨X, HX⟩ : ∃ X, Hid (bs (whoL a r) = X) := ⟨_, rfl⟩
  have hxz : X.size ≤ 64 := by rw [← HX.out, bs_size]; exact sumT_len _ _
  have h1 : ∀ W, Hid (Tabs W) → ∀ b, b = W.heap.size → Calls Tryz.prog 33 #[.int .i64 a.scheme, .slice (some ⟨b, 0, none⟩) 3 3] (W.alloc (.cells #[.string r.user, .string a.realm, .string r.pass] 9)) fun e w' => e = .returned (.string X) ∧ Below W.heap.size W w' := fun W HT b hb => by rw [← HX.out]; exact sum3 a.scheme r.user a.realm r.pass (by omega) W HT b hb
  obtain ⟨Z, HZ⟩ : ∃ Z, Hid (bs (sumT a.scheme [X.data.toList, a.nonce.data.toList, r.cnonce.data.toList]) = Z) := ⟨_, rfl⟩
  have hzz : Z.size ≤ 64 := by rw [← HZ.out, bs_size]; exact sumT_len _ _
  have hS : ∀ W, Hid (Tabs W) → ∀ b, b = W.heap.size → Calls Tryz.prog 33 #[.int .i64 a.scheme, .slice (some ⟨b, 0, none⟩) 3 3] (W.alloc (.cells #[.string X, .string a.nonce, .string r.cnonce] 9)) fun e w' => e = .returned (.string Z) ∧ Below W.heap.size W w' := fun W HT b hb => by rw [← HZ.out]; exact sum3 a.scheme X a.nonce r.cnonce (by omega) W HT b hb
  obtain ⟨Y, HY⟩ : ∃ Y, Hid (bs (sumT a.scheme [r.method.data.toList, r.target.data.toList]) = Y) := ⟨_, rfl⟩
  have hyz : Y.size ≤ 64 := by rw [← HY.out, bs_size]; exact sumT_len _ _
  have h2 : ∀ W, Hid (Tabs W) → ∀ b, b = W.heap.size → Calls Tryz.prog 33 #[.int .i64 a.scheme, .slice (some ⟨b, 0, none⟩) 2 2] (W.alloc (.cells #[.string r.method, .string r.target] 9)) fun e w' => e = .returned (.string Y) ∧ Below W.heap.size W w' := fun W HT b hb => by rw [← HY.out]; exact sum2 a.scheme r.method r.target (by omega) W HT b hb
  obtain ⟨B, HB⟩ : ∃ B, Hid (bs (sumT a.scheme [r.body.data.toList]) = B) := ⟨_, rfl⟩
  have hbz : B.size ≤ 64 := by rw [← HB.out, bs_size]; exact sumT_len _ _
  have h5 : ∀ W, Hid (Tabs W) → ∀ b, b = W.heap.size → Calls Tryz.prog 33 #[.int .i64 a.scheme, .slice (some ⟨b, 0, none⟩) 1 1] ((W.alloc (.cells #[.string r.body] 9)).drew) fun e w' => e = .returned (.string B) ∧ Below W.heap.size W w' := fun W HT b hb => by
    rw [← HB.out, drew_alloc]
    exact (sum1 a.scheme r.body (by omega) W.drew (HT.out.below (Below.refl _ _).drew) b hb).mono fun e w' ⟨he, hb⟩ => ⟨he, (Below.refl _ _).drew.trans hb⟩
  obtain ⟨V, HV⟩ : ∃ V, Hid (bs (sumT a.scheme [r.method.data.toList, r.target.data.toList, B.data.toList]) = V) := ⟨_, rfl⟩
  have hvz : V.size ≤ 64 := by rw [← HV.out, bs_size]; exact sumT_len _ _
  have h6 : ∀ W, Hid (Tabs W) → ∀ b, b = W.heap.size → Calls Tryz.prog 33 #[.int .i64 a.scheme, .slice (some ⟨b, 0, none⟩) 3 3] (W.alloc (.cells #[.string r.method, .string r.target, .string B] 9)) fun e w' => e = .returned (.string V) ∧ Below W.heap.size W w' := fun W HT b hb => by rw [← HV.out]; exact sum3 a.scheme r.method r.target B (by omega) W HT b hb
  obtain ⟨C, HC⟩ : ∃ C, Hid (bs (countL n) = C) := ⟨_, rfl⟩
  have hcz : C.size ≤ 16 := by rw [← HC.out, bs_size]; exact countL_len _
  have h4 : ∀ w, Hid (Bruijn w) → Calls Tryz.prog 12 #[.int .i64 (n : Int)] w fun e w' => e = .returned (.string C) ∧ Below w.heap.size w w' := fun w HD => by rw [← HC.out]; exact count_any n hn w HD
  have HE : Hid (bs (sumT a.scheme [Z.data.toList, a.nonce.data.toList, C.data.toList, r.cnonce.data.toList, a.qop.data.toList, V.data.toList]) = bs (respL a r n)) := by
    show _ = _
    rw [HR.out, ← HZ.out, bs_data, ← HX.out, bs_data, ← HV.out, bs_data, ← HB.out, bs_data, ← HC.out, bs_data]
  have h3 : ∀ W, Hid (Tabs W) → ∀ b, b = W.heap.size → Calls Tryz.prog 33 #[.int .i64 a.scheme, .slice (some ⟨b, 0, none⟩) 6 6] (W.alloc (.cells #[.string Z, .string a.nonce, .string C, .string r.cnonce, .string ⟨#[97, 117, 116, 104, 45, 105, 110, 116]⟩, .string V] 9)) fun e w' => e = .returned (.string (bs (respL a r n))) ∧ Below W.heap.size W w' := fun W HT b hb => by rw [← HE.out, ← HQE.out]; exact sum6 a.scheme Z a.nonce C r.cnonce a.qop V (by omega) W HT b hb
  have HK0 : Hid (PfK w _ a r) := HK
  clear HK hi
  rw [hs]
  rw [hs] at HK0
  obtain ⟨c0, c1, c2, c4, c5, d0, d1, _, _, _⟩ := HK0.out
  rw [HQE.out] at c5
  rw [hs] at c4
  go_enter Tryz.func11, Tryz.ntmps11
  go_wp2_with fail
  refine (h1 _ HK0.out.tabs _ (by simp)).mono ?_
  rintro e w1 ⟨rfl, hb1⟩
  have HK1 : Hid (PfK w w1 a r) := HK0.out.below hb1
  clear hb1 c0 c1 c2 c4 c5 d0 d1
  obtain ⟨c0, c1, c2, c4, c5, d0, d1, _, _, _⟩ := HK1.out
  rw [HQE.out] at c5
  rw [hs] at c4
  go_wp2_with fail
  refine (hS _ HK1.out.tabs _ (by simp)).mono ?_
  rintro e w2 ⟨rfl, hb2⟩
  have HK2 : Hid (PfK w w2 a r) := HK1.out.below hb2
  clear hb2 c0 c1 c2 c4 c5 d0 d1
  obtain ⟨c0, c1, c2, c4, c5, d0, d1, _, _, _⟩ := HK2.out
  rw [HQE.out] at c5
  rw [hs] at c4
  go_wp2_with fail
  refine (h2 _ HK2.out.tabs _ (by simp)).mono ?_
  rintro e w3 ⟨rfl, hb3⟩
  have HK3 : Hid (PfK w w3 a r) := HK2.out.below hb3
  clear hb3 c0 c1 c2 c4 c5 d0 d1
  obtain ⟨c0, c1, c2, c4, c5, d0, d1, _, _, _⟩ := HK3.out
  rw [HQE.out] at c5
  rw [hs] at c4
  have hQ : w3.drew.cell? ⟨w.heap.size, 0, none⟩ = some (.int .i64 a.scheme) ∧ w3.drew.cell? ⟨w.heap.size, 2, none⟩ = some (.string a.nonce) ∧ w3.drew.cell? ⟨w.heap.size, 5, none⟩ = some (.string ⟨#[97, 117, 116, 104, 45, 105, 110, 116]⟩) ∧ Hid (PfK w (w3.drew) a r) := PfK.heldI HQE (HK3.out.drew)
  have hQ0 : w3.cell? ⟨w.heap.size, 0, none⟩ = some (.int .i64 a.scheme) ∧ w3.cell? ⟨w.heap.size, 2, none⟩ = some (.string a.nonce) ∧ w3.cell? ⟨w.heap.size, 5, none⟩ = some (.string ⟨#[97, 117, 116, 104, 45, 105, 110, 116]⟩) ∧ Hid (PfK w (w3) a r) := PfK.heldI HQE (HK3.out)
  go_wp2
  go_region_held3 (fun W => W.cell? ⟨w.heap.size, 0, none⟩ = some (.int .i64 a.scheme) ∧ W.cell? ⟨w.heap.size, 2, none⟩ = some (.string a.nonce) ∧ W.cell? ⟨w.heap.size, 5, none⟩ = some (.string ⟨#[97, 117, 116, 104, 45, 105, 110, 116]⟩) ∧ Hid (PfK w W a r)) (first | (with_reducible assumption) | (refine heldI HQE ?_ _; with_reducible assumption) | (refine heldD HQE ?_ _; with_reducible assumption)) (first
    | (go_at_call 33; refine (h6 _ hKa.tabs _ rfl).mono ?_; rintro e wb ⟨rfl, hbb⟩; have hKb := hKa.below hbb; have hQb : wb.cell? ⟨w.heap.size, 0, none⟩ = some (.int .i64 a.scheme) ∧ wb.cell? ⟨w.heap.size, 2, none⟩ = some (.string a.nonce) ∧ wb.cell? ⟨w.heap.size, 5, none⟩ = some (.string ⟨#[97, 117, 116, 104, 45, 105, 110, 116]⟩) ∧ Hid (PfK w (wb) a r) := PfK.heldI HQE (hKb))
    | (go_at_call 33; refine (h5 w3 HK3.out.tabs _ rfl).mono ?_; rintro e wa ⟨rfl, hba⟩; have hKa := HK3.out.below hba; have hQa : wa.cell? ⟨w.heap.size, 0, none⟩ = some (.int .i64 a.scheme) ∧ wa.cell? ⟨w.heap.size, 2, none⟩ = some (.string a.nonce) ∧ wa.cell? ⟨w.heap.size, 5, none⟩ = some (.string ⟨#[97, 117, 116, 104, 45, 105, 110, 116]⟩) ∧ Hid (PfK w (wa) a r) := PfK.heldI HQE (hKa)))
  have HK4 : Hid (PfK w wb a r) := hKb
  clear hQ hQ0 hQa hQb hKa hKb hba hbb c0 c1 c2 c4 c5 d0 d1
  obtain ⟨c0, c1, c2, c4, c5, d0, d1, _, _, _⟩ := HK4.out
  rw [HQE.out] at c5
  rw [hs] at c4
  have hQ : wb.drew.cell? ⟨w.heap.size, 0, none⟩ = some (.int .i64 a.scheme) ∧ wb.drew.cell? ⟨w.heap.size, 2, none⟩ = some (.string a.nonce) ∧ wb.drew.cell? ⟨w.heap.size, 5, none⟩ = some (.string ⟨#[97, 117, 116, 104, 45, 105, 110, 116]⟩) ∧ Hid (PfK w (wb.drew) a r) := PfK.heldI HQE (HK4.out.drew)
  go_wp2
  go_region_held3 (fun W => W.cell? ⟨w.heap.size, 0, none⟩ = some (.int .i64 a.scheme) ∧ W.cell? ⟨w.heap.size, 2, none⟩ = some (.string a.nonce) ∧ W.cell? ⟨w.heap.size, 5, none⟩ = some (.string ⟨#[97, 117, 116, 104, 45, 105, 110, 116]⟩) ∧ Hid (PfK w W a r)) (first | (with_reducible assumption) | (refine heldI HQE ?_ _; with_reducible assumption) | (refine heldD HQE ?_ _; with_reducible assumption)) (first
    | (go_at_call 12; refine (h4 _ HK4.out.drew.tabs.bruijn).mono ?_; rintro e wc ⟨rfl, hbc⟩; have hKc := HK4.out.drew.below hbc; have hQc : wc.cell? ⟨w.heap.size, 0, none⟩ = some (.int .i64 a.scheme) ∧ wc.cell? ⟨w.heap.size, 2, none⟩ = some (.string a.nonce) ∧ wc.cell? ⟨w.heap.size, 5, none⟩ = some (.string ⟨#[97, 117, 116, 104, 45, 105, 110, 116]⟩) ∧ Hid (PfK w (wc) a r) := PfK.heldI HQE (hKc))
    | (go_at_call 33; refine (h3 _ hKc.tabs _ rfl).mono ?_; rintro e wd ⟨rfl, hbd⟩; have hKd := hKc.below hbd; have hQd : wd.cell? ⟨w.heap.size, 0, none⟩ = some (.int .i64 a.scheme) ∧ wd.cell? ⟨w.heap.size, 2, none⟩ = some (.string a.nonce) ∧ wd.cell? ⟨w.heap.size, 5, none⟩ = some (.string ⟨#[97, 117, 116, 104, 45, 105, 110, 116]⟩) ∧ Hid (PfK w (wd) a r) := PfK.heldI HQE (hKd)))
  go_wp2
  go_ret
  exact ⟨rfl, hKd.bel⟩
/-- What proves a request, by the program. -/
theorem resp_any (a : PfA) (r : PfR) (st : Bool) (dv : Value) (n : Nat) (hn : n < 9223372036854775808) (hf : Fits a r) (w : World) (HT : Hid (Tabs w)) :
    Calls Tryz.prog 11 #[.agg #[.int .i64 a.scheme, .string a.realm, .string a.nonce, .string a.opq, .bool a.sess, .string a.qop, .bool st, dv], .agg #[.string r.user, .string r.pass], .string r.method, .string r.target, .string r.body, .string r.cnonce, .int .i64 (n : Int)] w fun e w' => e = .returned (.string (bs (respL a r n))) ∧ Below w.heap.size w w' := by
  by_cases hq : a.qop.data.toList = []
  · cases hs : a.sess
    · have h := resp_plain_no a r st dv n hn hf hs hq w HT
      rw [hs] at h
      exact h
    · have h := resp_plain_sess a r st dv n hn hf hs hq w HT
      rw [hs] at h
      exact h
  · by_cases hi : a.qop.data.toList = qInt
    · cases hs : a.sess
      · have h := resp_int_no a r st dv n hn hf hs hi w HT
        rw [hs] at h
        exact h
      · have h := resp_int_sess a r st dv n hn hf hs hi w HT
        rw [hs] at h
        exact h
    · cases hs : a.sess
      · have h := resp_full_no a r st dv n hn hf hs hq hi w HT
        rw [hs] at h
        exact h
      · have h := resp_full_sess a r st dv n hn hf hs hq hi w HT
        rw [hs] at h
        exact h
end Go.Proofs.YtgajhmmildbkfaaGreatDoor

/- Whether a request can be proved, and the name of what sums it, by the program. -/
namespace Go.Proofs.YtgajhmmildbkfaaGreatDoor
open Go.RowKit

theorem eq_auth (q : ByteArray) (h : q.data.toList = qAuth) : q = ⟨#[97, 117, 116, 104]⟩ := by rw [← bs_self q, h]; rfl
theorem sch_no {s k : Int} (h : s ≠ k) : (s == k) = false := beq_eq_false_iff_ne.2 h
set_option maxRecDepth 100000 in
set_option maxHeartbeats 2000000 in
theorem alg_any (a : PfA) (st : Bool) (dv : Value) (w : World) :
    Calls Tryz.prog 28 #[.agg #[.int .i64 a.scheme, .string a.realm, .string a.nonce, .string a.opq, .bool a.sess, .string a.qop, .bool st, dv]] w fun e w' => e = .returned (.string (bs (algT a))) ∧ Below w.heap.size w w' := by
  have hA : Below w.heap.size w (w.alloc (.cells #[.int .i64 a.scheme, .string a.realm, .string a.nonce, .string a.opq, .bool a.sess, .string a.qop, .bool st, dv] 24)) := (Below.refl _ _).alloc (Nat.le_refl _) _
  by_cases h3 : a.scheme = 3
  · cases hs : a.sess
    · have HE : Hid (bs (algT a) = ⟨#[83, 72, 65, 45, 50, 53, 54]⟩) := by show _ = _; unfold algT; rw [if_pos h3, hs]; rfl
      rw [hs] at hA
      have hi : (a.scheme == 3) = true := by simp [h3]
      rw [HE.out]
      go_enter Tryz.func28, Tryz.ntmps28
      go_wp2
      go_ret
      exact ⟨rfl, by rw [h3] at hA; exact hA⟩
    · have HE : Hid (bs (algT a) = ⟨#[83, 72, 65, 45, 50, 53, 54]⟩ ++ ⟨#[45, 115, 101, 115, 115]⟩) := by show _ = _; unfold algT; rw [if_pos h3, hs]; rfl
      rw [hs] at hA
      have hi : (a.scheme == 3) = true := by simp [h3]
      rw [HE.out]
      go_enter Tryz.func28, Tryz.ntmps28
      go_wp2
      go_ret
      exact ⟨rfl, by rw [h3] at hA; exact hA⟩
  · have hi := sch_no h3
    cases hs : a.sess
    · have HE : Hid (bs (algT a) = ⟨#[77, 68, 53]⟩) := by show _ = _; unfold algT; rw [if_neg h3, hs]; rfl
      rw [hs] at hA
      rw [HE.out]
      go_enter Tryz.func28, Tryz.ntmps28
      go_wp2
      go_ret
      exact ⟨rfl, hA⟩
    · have HE : Hid (bs (algT a) = ⟨#[77, 68, 53]⟩ ++ ⟨#[45, 115, 101, 115, 115]⟩) := by show _ = _; unfold algT; rw [if_neg h3, hs]; rfl
      rw [hs] at hA
      rw [HE.out]
      go_enter Tryz.func28, Tryz.ntmps28
      go_wp2
      go_ret
      exact ⟨rfl, hA⟩
/-- What keeps a request from being proved: an error's number. -/
def prvO (a : PfA) (n : Int) : Option Nat :=
  if ¬ (a.scheme = 2 ∨ a.scheme = 3) ∨ ¬ (a.qop.data.toList = [] ∨ a.qop.data.toList = qAuth ∨ a.qop.data.toList = qInt) then some 1
  else if n < 1 ∨ 4294967295 < n then some 2 else none
/-- That error, or none. -/
def errOf : Option Nat → Value
  | none => .nilIface
  | some k => .iface 64 (.int .i64 (k : Int))
set_option maxRecDepth 100000 in
set_option maxHeartbeats 4000000 in
theorem prv_any (a : PfA) (st : Bool) (dv : Value) (n : Int) (w : World) :
    Calls Tryz.prog 25 #[.agg #[.int .i64 a.scheme, .string a.realm, .string a.nonce, .string a.opq, .bool a.sess, .string a.qop, .bool st, dv], .int .i64 n] w fun e w' => e = .returned (errOf (prvO a n)) ∧ Below w.heap.size w w' := by
  have hA : Below w.heap.size w (w.alloc (.cells #[.int .i64 a.scheme, .string a.realm, .string a.nonce, .string a.opq, .bool a.sess, .string a.qop, .bool st, dv] 24)) := (Below.refl _ _).alloc (Nat.le_refl _) _
  have HA : Hid (Below w.heap.size w (w.alloc (.cells #[.int .i64 a.scheme, .string a.realm, .string a.nonce, .string a.opq, .bool a.sess, .string a.qop, .bool st, dv] 24))) := hA
  clear hA
  have GO : ∀ (s2 s3 q0 q1 q2 : Bool), (a.scheme == 2) = s2 → (a.scheme == 3) = s3 → a.qop.toList.isEmpty = q0 → (a.qop.toList == [97, 117, 116, 104]) = q1 → (a.qop.toList == [97, 117, 116, 104, 45, 105, 110, 116]) = q2 →
      prvO a n = if (s2 || s3) && (q0 || q1 || q2) then (if n < 1 ∨ 4294967295 < n then some 2 else none) else some 1 := by
    intro s2 s3 q0 q1 q2 e1 e2 e3 e4 e5
    unfold prvO qAuth qInt
    rw [ByteArray.toList_eq] at e3 e4 e5
    subst e1 e2 e3 e4 e5
    generalize a.qop.data.toList = Q
    generalize a.scheme = S
    by_cases h2 : S = 2 <;> by_cases h3 : S = 3 <;> by_cases k0 : Q = [] <;> by_cases k1 : Q = [97, 117, 116, 104] <;> by_cases k2 : Q = [97, 117, 116, 104, 45, 105, 110, 116] <;> simp [h2, h3, k0, k1, k2]
  obtain ⟨s2, e1⟩ : ∃ b, (a.scheme == 2) = b := ⟨_, rfl⟩
  obtain ⟨s3, e2⟩ : ∃ b, (a.scheme == 3) = b := ⟨_, rfl⟩
  obtain ⟨q0, e3⟩ : ∃ b, a.qop.toList.isEmpty = b := ⟨_, rfl⟩
  obtain ⟨q1, e4⟩ : ∃ b, (a.qop.toList == [97, 117, 116, 104]) = b := ⟨_, rfl⟩
  obtain ⟨q2, e5⟩ : ∃ b, (a.qop.toList == [97, 117, 116, 104, 45, 105, 110, 116]) = b := ⟨_, rfl⟩
  have hE := GO s2 s3 q0 q1 q2 e1 e2 e3 e4 e5
  have HE : Hid (prvO a n = if (s2 || s3) && (q0 || q1 || q2) then (if n < 1 ∨ 4294967295 < n then some 2 else none) else some 1) := hE
  clear GO hE
  by_cases hn1 : n < 1
  · have HV : Hid (prvO a n = if (s2 || s3) && (q0 || q1 || q2) then some 2 else some 1) := by show _ = _; rw [HE.out, if_pos (Or.inl hn1)]
    cases s2 <;> cases s3 <;> cases q0 <;> cases q1 <;> cases q2 <;> (rw [HV.out]; go_enter Tryz.func25, Tryz.ntmps25; go_wp2; go_ret; exact ⟨rfl, HA.out⟩)
  · by_cases hn2 : 4294967295 < n
    · have HV : Hid (prvO a n = if (s2 || s3) && (q0 || q1 || q2) then some 2 else some 1) := by show _ = _; rw [HE.out, if_pos (Or.inr hn2)]
      cases s2 <;> cases s3 <;> cases q0 <;> cases q1 <;> cases q2 <;> (rw [HV.out]; go_enter Tryz.func25, Tryz.ntmps25; go_wp2; go_ret; exact ⟨rfl, HA.out⟩)
    · have HV : Hid (prvO a n = if (s2 || s3) && (q0 || q1 || q2) then none else some 1) := by
        show _ = _
        have hif : (if n < 1 ∨ 4294967295 < n then some 2 else none : Option Nat) = none := if_neg (by rintro (h | h); exact hn1 h; exact hn2 h)
        rw [HE.out, hif]
      cases s2 <;> cases s3 <;> cases q0 <;> cases q1 <;> cases q2 <;> (rw [HV.out]; go_enter Tryz.func25, Tryz.ntmps25; go_wp2; go_ret; exact ⟨rfl, HA.out⟩)
end Go.Proofs.YtgajhmmildbkfaaGreatDoor

/- What is answered, and a function value that is called. -/
namespace Go.Proofs.YtgajhmmildbkfaaGreatDoor
open Go.RowKit

theorem ret_bool {a b : Bool} (h : a = b) : Ending.returned (.bool a) = .returned (.bool b) := by rw [h]
theorem ret_i64 {a b : Int} (h : a = b) : Ending.returned (.int .i64 a) = .returned (.int .i64 b) := by rw [h]
theorem enters_at {K : Nat} {fn : Func} {c : Code} (hf : Tryz.prog.funcs[K]? = some fn) (hname : (fn.name == "runtime.NumGoroutine") = false) (hb : fn.body = some c) (args : Array Value) (w : World) :
    (callFunc K args).run Tryz.prog w = .ok (.enter K args) w := by
  have h1 : fn.name ≠ "runtime.NumGoroutine" := by simpa using hname
  simp [callFunc, hf, h1, hb]
end Go.Proofs.YtgajhmmildbkfaaGreatDoor

/- Functions that say whether a byte is of a kind. -/
namespace Go.Proofs.YtgajhmmildbkfaaGreatDoor
open Go.RowKit

/-- A function that says whether a byte is of a kind. -/
structure Kind (K : Nat) (f : UInt8 → Bool) : Prop where
  says : ∀ (c : UInt8) (w : World), Calls Tryz.prog K #[.int .u8 (c.toNat : Int)] w fun e w' => e = .returned (.bool (f c)) ∧ w' = w
  enters : ∀ (args : Array Value) (w : World), (callFunc K args).run Tryz.prog w = .ok (.enter K args) w
theorem all_snoc (f : UInt8 → Bool) (s : ByteArray) (k : Nat) (hk : k < s.size) (c : UInt8) (e : s[k] = c) (h : (s.data.toList.take k).all f = true) (hc : f c = true) : (s.data.toList.take (k + 1)).all f = true := by
  rw [take_snoc s k hk, List.all_append, h, e]
  simp [hc]
theorem run_full (f : UInt8 → Bool) (s : ByteArray) (k : Nat) (hk : s.size ≤ k) (h : (s.data.toList.take k).all f = true) : runL f s.data.toList = s.size := by
  rw [List.take_of_length_le (by simpa using hk)] at h
  have := (runL_all f s.data.toList).2 h
  simpa using this
theorem run_part (f : UInt8 → Bool) (s : ByteArray) (k : Nat) (hk : k < s.size) (c : UInt8) (e : s[k] = c) (h : (s.data.toList.take k).all f = true) (hc : f c = false) : runL f s.data.toList = k :=
  runL_stop f _ k (by simpa using hk) h (by rw [← hc, ← e]; rfl)

end Go.Proofs.YtgajhmmildbkfaaGreatDoor

/- How many bytes of a kind stand at a text's beginning, by the program; digits. -/
namespace Go.Proofs.YtgajhmmildbkfaaGreatDoor
open Go.RowKit

theorem digB_yes (c : UInt8) (h1 : 48 ≤ (c.toNat : Int)) (h2 : (c.toNat : Int) ≤ 57) : digB c = true := decide_eq_true ⟨by omega, by omega⟩
theorem digB_no (c : UInt8) (h : ¬ (48 ≤ (c.toNat : Int) ∧ (c.toNat : Int) ≤ 57)) : digB c = false := decide_eq_false (by omega)
theorem tdigit_any (c : UInt8) (w : World) : Calls Tryz.prog 73 #[.int .u8 (c.toNat : Int)] w fun e w' => e = .returned (.bool (digB c)) ∧ w' = w := by
  by_cases h : 48 ≤ (c.toNat : Int)
  · by_cases h2 : (c.toNat : Int) ≤ 57
    · rw [digB_yes c h h2]
      go_enter Tryz.func73, Tryz.ntmps73
      go_wp2
      go_ret
      exact ⟨rfl, rfl⟩
    · rw [digB_no c (by omega)]
      go_enter Tryz.func73, Tryz.ntmps73
      go_wp2
      go_ret
      exact ⟨rfl, rfl⟩
  · rw [digB_no c (by omega)]
    go_enter Tryz.func73, Tryz.ntmps73
    go_wp2
    go_ret
    exact ⟨rfl, rfl⟩

theorem kind_digit : Kind 73 digB := ⟨tdigit_any, enters_at Tryz.func73 (by kernel_rfl) rfl⟩
set_option maxHeartbeats 1000000 in
theorem run_any (K : Nat) (f : UInt8 → Bool) (hK : Kind K f) (s : ByteArray) (hs : s.size ≤ 20000) (w : World) :
    Calls Tryz.prog 45 #[.string s, .func (.func K) #[] #[]] w fun e w' => e = .returned (.int .i64 (runL f s.data.toList : Int)) ∧ w' = w := by
  have HK0 : Hid (Kind K f) := hK
  have hen := hK.enters
  clear hK
  go_enter Tryz.func45, Tryz.ntmps45
  go_wp2
  go_loop [8] (fun i => ∃ (k : Nat), k ≤ s.size ∧ i = .int .i64 k ∧ Hid ((s.data.toList.take k).all f = true)) (fun i => s.size - (intOf i).toNat)
  case atStart => exact ⟨0, Nat.zero_le _, rfl, rfl⟩
  case round =>
    obtain ⟨k, hk, rfl, HK⟩ := hrel
    by_cases hlt : k < s.size
    · obtain ⟨c, hcd⟩ : ∃ c : UInt8, s[k] = c := ⟨_, rfl⟩
      have hcl : (c.toNat : Int) < 256 := by have := c.toNat_lt; omega
      have HC : Hid (s[k] = c) := hcd
      cases hf : f c
      · have HR : Hid (runL f s.data.toList = k) := run_part f s k hlt c hcd HK hf
        go_wp2_with fail
        refine (HK0.out.says c _).mono ?_
        rintro e w' ⟨rfl, rfl⟩
        rw [hf]
        go_wp2
        go_ret
        exact ⟨ret_i64 (by rw [HR.out]), rfl⟩
      · have HS : Hid ((s.data.toList.take (k + 1)).all f = true) := all_snoc f s k hlt c hcd HK hf
        go_wp2_with fail
        refine (HK0.out.says c _).mono ?_
        rintro e w' ⟨rfl, rfl⟩
        rw [hf]
        go_wp2
        go_round
        case rel => exact ⟨k + 1, by omega, by go_num, HS⟩
        case measure => simp [intOf]; omega
    · have HR : Hid (runL f s.data.toList = s.size) := run_full f s k (by omega) HK
      go_wp2
      go_ret
      exact ⟨ret_i64 (by rw [HR.out]), rfl⟩
end Go.Proofs.YtgajhmmildbkfaaGreatDoor

/- Where a byte stands in a list. -/
namespace Go.Proofs.YtgajhmmildbkfaaGreatDoor
open Go.RowKit

/-- Where a byte stands in a list; below 0: nowhere. -/
def ixOf (l : List UInt8) (c : UInt8) : Int := Lib.indexByte l c
theorem ixOf_cases (l : List UInt8) (c : UInt8) : (ixOf l c = -1 ∧ c ∉ l) ∨ ∃ n : Nat, n < l.length ∧ ixOf l c = n ∧ l.getD n 0 = c := by
  unfold ixOf
  induction l with
  | nil => exact .inl ⟨rfl, by simp⟩
  | cons b r ih =>
    unfold Lib.indexByte
    by_cases hb : b = c
    · subst hb
      exact .inr ⟨0, by simp, by simp, rfl⟩
    · rw [if_neg (by simpa using hb)]
      rcases ih with ⟨h1, h2⟩ | ⟨n, h1, h2, h3⟩
      · exact .inl ⟨by rw [h1]; rfl, by simp [h2, Ne.symm hb]⟩
      · refine .inr ⟨n + 1, by simpa using h1, ?_, by simpa using h3⟩
        rw [h2, if_neg (by simp)]
        simp

end Go.Proofs.YtgajhmmildbkfaaGreatDoor

/- Whether a byte stands in a list. -/
namespace Go.Proofs.YtgajhmmildbkfaaGreatDoor
open Go.RowKit

theorem ixOf_in (l : List UInt8) (c : UInt8) : (ixOf l c = -1 ∧ l.contains c = false) ∨ ∃ n : Nat, n < l.length ∧ ixOf l c = n ∧ l.contains c = true := by
  rcases ixOf_cases l c with ⟨h1, h2⟩ | ⟨n, h1, h2, h3⟩
  · exact .inl ⟨h1, by simpa using h2⟩
  · refine .inr ⟨n, h1, h2, ?_⟩
    rw [List.contains_iff_mem, ← h3]
    simp [h1]
end Go.Proofs.YtgajhmmildbkfaaGreatDoor

/- Where a byte stands in a text, by the library's own functions. -/
namespace Go.Proofs.YtgajhmmildbkfaaGreatDoor
open Go.RowKit

set_option maxHeartbeats 1000000 in
set_option maxRecDepth 100000 in
theorem slite_ix (s : ByteArray) (c : Int) (w : World) :
    Calls Tryz.prog 101 #[.string s, .int .u8 c] w fun e w' => e = .returned (.int .i64 (Lib.indexByte s.data.toList c.toNat.toUInt8)) ∧ w' = w := by
  go_enter Tryz.func101, Tryz.ntmps101
  go_wp2
  rw [run_callFunc_extern Tryz.func128 (by kernel_rfl) (by kernel_rfl) (by kernel_rfl) (e := Extern.BytealgIndexByte.indexByte) (by kernel_rfl), Lib.run_indexByteString]
  simp only [Result.andThen]
  rw [Oper.upon_value]
  go_wp2
  go_ret
  exact ⟨rfl, rfl⟩

set_option maxHeartbeats 1000000 in
theorem ix_any (s : ByteArray) (c : Int) (w : World) :
    Calls Tryz.prog 74 #[.string s, .int .u8 c] w fun e w' => e = .returned (.int .i64 (Lib.indexByte s.data.toList c.toNat.toUInt8)) ∧ w' = w := by
  go_enter Tryz.func74, Tryz.ntmps74
  go_wp2_with (go_at_call 101; refine (slite_ix _ _ _).mono ?_; rintro e w' ⟨rfl, rfl⟩)
  go_ret
  exact ⟨rfl, rfl⟩

theorem ix_of (s : ByteArray) (c : UInt8) (n : Int) (hn : n = c.toNat) (w : World) :
    Calls Tryz.prog 74 #[.string s, .int .u8 n] w fun e w' => e = .returned (.int .i64 (ixOf s.data.toList c)) ∧ w' = w := by
  subst hn
  refine (ix_any s _ w).mono ?_
  rintro e w' ⟨rfl, rfl⟩
  refine ⟨?_, rfl⟩
  unfold ixOf
  congr 3
  simp

end Go.Proofs.YtgajhmmildbkfaaGreatDoor

/- Whether a byte may be one of a word, and a text is a word, by the program. -/
namespace Go.Proofs.YtgajhmmildbkfaaGreatDoor
open Go.RowKit

theorem tokB_small (c : UInt8) (h : 97 ≤ (c.toNat : Int) ∧ (c.toNat : Int) ≤ 122) : tokB c = true := by
  unfold tokB
  rw [decide_eq_true (show 97 ≤ c.toNat ∧ c.toNat ≤ 122 by omega)]
  rfl
theorem tokB_great (c : UInt8) (h : 65 ≤ (c.toNat : Int) ∧ (c.toNat : Int) ≤ 90) : tokB c = true := by
  unfold tokB
  rw [decide_eq_true (show 65 ≤ c.toNat ∧ c.toNat ≤ 90 by omega)]
  simp
theorem tokB_digit (c : UInt8) (h : digB c = true) : tokB c = true := by
  unfold tokB
  unfold digB at h
  rw [h]
  simp
theorem tokB_rest (c : UInt8) (h1 : ¬ (97 ≤ (c.toNat : Int) ∧ (c.toNat : Int) ≤ 122)) (h2 : ¬ (65 ≤ (c.toNat : Int) ∧ (c.toNat : Int) ≤ 90)) (h3 : digB c = false) : tokB c = tsigns.contains c := by
  unfold tokB
  unfold digB at h3
  rw [decide_eq_false (show ¬ (97 ≤ c.toNat ∧ c.toNat ≤ 122) by omega), decide_eq_false (show ¬ (65 ≤ c.toNat ∧ c.toNat ≤ 90) by omega), h3]
  rfl
def ixT (c : UInt8) : Int := ixOf tsigns c
theorem ix_tsigns (c : UInt8) (w : World) :
    Calls Tryz.prog 74 #[.string { data := #[33, 35, 36, 37, 38, 39, 42, 43, 45, 46, 94, 95, 124, 126, 96] }, .int .u8 (c.toNat : Int)] w fun e w' => e = .returned (.int .i64 (ixT c)) ∧ w' = w := ix_of _ c _ rfl w
set_option maxHeartbeats 1000000 in
theorem byte_any (c : UInt8) (w : World) : Calls Tryz.prog 49 #[.int .u8 (c.toNat : Int)] w fun e w' => e = .returned (.bool (tokB c)) ∧ w' = w := by
  by_cases h1 : 97 ≤ (c.toNat : Int) ∧ (c.toNat : Int) ≤ 122
  · rw [tokB_small c h1]
    obtain ⟨h1, h2⟩ := h1
    go_enter Tryz.func49, Tryz.ntmps49
    go_wp2
    go_ret
    exact ⟨rfl, rfl⟩
  by_cases h2 : 65 ≤ (c.toNat : Int) ∧ (c.toNat : Int) ≤ 90
  · rw [tokB_great c h2]
    obtain ⟨h2, h3⟩ := h2
    have h4 : ¬ 97 ≤ (c.toNat : Int) := by omega
    clear h1
    go_enter Tryz.func49, Tryz.ntmps49
    go_wp2
    go_ret
    exact ⟨rfl, rfl⟩
  have key : (∃ x : Bool, digB c = true ∧ tokB c = true) ∨ (digB c = false ∧ tokB c = tsigns.contains c) := by
    cases h3 : digB c
    · exact .inr ⟨rfl, tokB_rest c h1 h2 h3⟩
    · exact .inl ⟨true, rfl, tokB_digit c h3⟩
  rcases key with ⟨_, hd, ht⟩ | ⟨hd, ht⟩
  · rw [ht]
    clear ht
    by_cases a1 : 97 ≤ (c.toNat : Int)
    · have a2 : ¬ (c.toNat : Int) ≤ 122 := by omega
      have a3 : 65 ≤ (c.toNat : Int) := by omega
      have a4 : ¬ (c.toNat : Int) ≤ 90 := by omega
      clear h1 h2
      go_enter Tryz.func49, Tryz.ntmps49
      go_wp2_with (go_at_call 73; refine (tdigit_any c _).mono ?_; rintro e w' ⟨rfl, rfl⟩; rw [hd])
      go_ret
      exact ⟨rfl, rfl⟩
    · by_cases a3 : 65 ≤ (c.toNat : Int)
      · have a4 : ¬ (c.toNat : Int) ≤ 90 := by omega
        clear h1 h2
        go_enter Tryz.func49, Tryz.ntmps49
        go_wp2_with (go_at_call 73; refine (tdigit_any c _).mono ?_; rintro e w' ⟨rfl, rfl⟩; rw [hd])
        go_ret
        exact ⟨rfl, rfl⟩
      · clear h1 h2
        go_enter Tryz.func49, Tryz.ntmps49
        go_wp2_with (go_at_call 73; refine (tdigit_any c _).mono ?_; rintro e w' ⟨rfl, rfl⟩; rw [hd])
        go_ret
        exact ⟨rfl, rfl⟩
  · obtain ⟨x, hx, hx2⟩ : ∃ x : Int, ixT c = x ∧ Hid (tokB c = decide (0 ≤ x)) := by
      refine ⟨_, rfl, ?_⟩
      show _ = _
      rw [ht]
      unfold ixT
      rcases ixOf_in tsigns c with ⟨e1, e2⟩ | ⟨n, _, e1, e2⟩
      · rw [e1, e2]; rfl
      · rw [e1, e2]; simp
    clear ht
    rw [hx2.out]
    by_cases a1 : 97 ≤ (c.toNat : Int)
    · have a2 : ¬ (c.toNat : Int) ≤ 122 := by omega
      have a3 : 65 ≤ (c.toNat : Int) := by omega
      have a4 : ¬ (c.toNat : Int) ≤ 90 := by omega
      clear h1 h2
      go_enter Tryz.func49, Tryz.ntmps49
      go_wp2_with (first | (go_at_call 73; refine (tdigit_any c _).mono ?_; rintro e w' ⟨rfl, rfl⟩; rw [hd]) | (go_at_call 74; refine (ix_tsigns c _).mono ?_; rintro e w' ⟨rfl, rfl⟩; rw [hx]))
      go_ret
      exact ⟨rfl, rfl⟩
    · by_cases a3 : 65 ≤ (c.toNat : Int)
      · have a4 : ¬ (c.toNat : Int) ≤ 90 := by omega
        clear h1 h2
        go_enter Tryz.func49, Tryz.ntmps49
        go_wp2_with (first | (go_at_call 73; refine (tdigit_any c _).mono ?_; rintro e w' ⟨rfl, rfl⟩; rw [hd]) | (go_at_call 74; refine (ix_tsigns c _).mono ?_; rintro e w' ⟨rfl, rfl⟩; rw [hx]))
        go_ret
        exact ⟨rfl, rfl⟩
      · clear h1 h2
        go_enter Tryz.func49, Tryz.ntmps49
        go_wp2_with (first | (go_at_call 73; refine (tdigit_any c _).mono ?_; rintro e w' ⟨rfl, rfl⟩; rw [hd]) | (go_at_call 74; refine (ix_tsigns c _).mono ?_; rintro e w' ⟨rfl, rfl⟩; rw [hx]))
        go_ret
        exact ⟨rfl, rfl⟩
theorem kind_byte : Kind 49 tokB := ⟨byte_any, enters_at Tryz.func49 (by kernel_rfl) rfl⟩
theorem isL_empty (s : ByteArray) (h : s.size = 0) : isL s.data.toList = false := by
  have : s.data.toList = [] := by
    apply List.eq_nil_of_length_eq_zero
    simpa using h
  rw [this]
  rfl
theorem isL_run (s : ByteArray) (h : 0 < s.size) : isL s.data.toList = decide ((runL tokB s.data.toList : Int) = (s.size : Int)) := by
  unfold isL
  have h1 : s.data.toList.isEmpty = false := by
    cases e : s.data.toList with
    | nil =>
      have h5 : s.data.toList.length = s.size := Array.length_toList
      rw [e] at h5
      simp only [List.length_nil] at h5
      omega
    | cons c t => rfl
  have h2 := runL_all tokB s.data.toList
  have h3 : s.data.toList.length = s.size := Array.length_toList
  rw [h1, Bool.eq_iff_iff]
  simp only [Bool.not_false, Bool.true_and, decide_eq_true_eq]
  rw [← h2, h3]
  omega
theorem u8_is {c : UInt8} {n : Nat} (hn : n < 256) : (c.toNat : Int) = n ↔ c = UInt8.ofNat n := by
  constructor
  · intro h
    apply UInt8.toNat_inj.1
    simp only [UInt8.toNat_ofNat']
    omega
  · rintro rfl
    simp only [UInt8.toNat_ofNat']
    omega

end Go.Proofs.YtgajhmmildbkfaaGreatDoor

/- One element more at a row that a call owns. -/
namespace Go.Proofs.YtgajhmmildbkfaaGreatDoor
open Go.RowKit

theorem Own.lt {w : World} {B : Nat} {v : Value} {l : List UInt8} (h : Own w B v l) : ∀ k, v.ownBlock = some k → B ≤ k ∧ k < w.heap.size := World.ownsRow.lt h
theorem Own.keep {w w' : World} {B : Nat} {v : Value} {l : List UInt8} (h : Own w B v l) (hb : Below w.heap.size w w') : Own w' B v l := by
  refine World.ownsRow.kept (row := none) h ⟨hb.1, hb.2, hb.3, hb.size, fun k hk _ => hb.block k hk⟩ ?_
  rcases v.ownBlock with _ | k
  · exact .inl rfl
  · exact .inr (by simp)
/-- A byte more at a row of bytes. -/
theorem wp_app1 {ops : Array Oper} {rest : List Oper} {o : Oper} {a : Act} {Q : Exit → Act → World → Prop} (hgd : o.guard = none) (s x : Operand)
    (ho : o.op = .call { callee := .builtin .append, args := #[s, x], argTypes := #[83, 83] })
    (B : Nat) (w0 wr : World) (v : Value) (l : List UInt8) (n : Nat) (hs : a.eval s = v) (hown : Own wr B v l) (hn : l.length = n) (hl : n ≤ 100000) (hb : Below B w0 wr) (hB : B ≤ wr.heap.size)
    (d : UInt8) (dn : Int) (hd : dn = (d.toNat : Int)) (hx : a.eval x = .slice (some ⟨wr.heap.size, 0, none⟩) 1 1)
    (h : ∀ g cap w', Own w' B (.slice (some ⟨g, 0, none⟩) (n + 1) cap) (l ++ [d]) → Below B w0 w' → g < w'.heap.size → (wr.alloc (.cells #[.int .u8 dn] 5)).grownBy w' v.ownBlock → wpList Tryz.prog ops Q rest (a.put o.dst (.slice (some ⟨g, 0, none⟩) (n + 1) cap)) w') :
    wpList Tryz.prog ops Q (o :: rest) a (wr.alloc (.cells #[.int .u8 dn] 5)) := by
  subst hd
  obtain ⟨i0, hi0, hz0, hz1, hz2⟩ := info_parts info5
  refine wpList_append_lies _ hgd s x 83 ho B 5 i0 (.int .u8 0) 1 1 Tryz.underlying83 hi0 hz0 hz1 hz2 rfl (by omega) v n _ hs ((hown.rows hn).alloc _) ⟨wr.heap.size, 0, none⟩ 1 1 [.int .u8 (d.toNat : Int)] hx rfl
    (World.news_of_block (cs := #[.int .u8 (d.toNat : Int)]) (t := 5) (fr := (0, 0)) (heap_alloc_new wr _)) (by simp [Value.oneCell']) (by omega) (by unfold maxLen; omega) (by omega) (by simp; omega) _ rfl ?_
  intro g cap w' hown1 hgrow _ hlt
  refine h g cap w' (Own.more (ds := [d]) hown1 hn rfl) ?_ hlt hgrow
  refine (hb.alloc hB _).grown hgrow (by simp; omega) (fun k hk => (hown.lt k hk).1)
end Go.Proofs.YtgajhmmildbkfaaGreatDoor

/- The library's contracts that are leant on, laid at this program's numbers. -/
namespace Go.Proofs.YtgajhmmildbkfaaGreatDoor
open Go.Shelf Go.RowKit
def laysM316_ren : Go.Shelf.Ren := ⟨fun | 316 => 65 | n => n, fun | 9 => 9 | 3 => 3 | 4 => 4 | 37 => 83 | 0 => 0 | 127 => 110 | 5 => 5 | n => n, fun | n => n⟩
theorem laysM316 : Go.Proofs.LaysM.n316 Tryz.prog laysM316_ren := {
  mixed := by kernel_rfl
  f316 := Tryz.func65.trans (congrArg some (by kernel_rfl))
  t0 := Tryz.underlying0
  a0 := Tryz.isAgg0
  z0 := Tryz.sizeOf0
  v0 := Tryz.zeroValue0
  t3 := Tryz.underlying3
  a3 := Tryz.isAgg3
  z3 := Tryz.sizeOf3
  v3 := Tryz.zeroValue3
  t4 := Tryz.underlying4
  a4 := Tryz.isAgg4
  z4 := Tryz.sizeOf4
  v4 := Tryz.zeroValue4
  t9 := Tryz.underlying9
  a9 := Tryz.isAgg9
  z9 := Tryz.sizeOf9
  v9 := Tryz.zeroValue9
  t37 := Tryz.underlying83
  a37 := Tryz.isAgg83
  z37 := Tryz.sizeOf83
  v37 := Tryz.zeroValue83
  t127 := Tryz.underlying110
  a127 := Tryz.isAgg110
  z127 := Tryz.sizeOf110
  v127 := Tryz.zeroValue110
  t5 := Tryz.underlying5
  a5 := Tryz.isAgg5
  z5 := Tryz.sizeOf5
  v5 := Tryz.zeroValue5
  i0 := by kernel_rfl
  i3 := by kernel_rfl
  i4 := by kernel_rfl
  i5 := by kernel_rfl
  i9 := by kernel_rfl
  i37 := by kernel_rfl
  i127 := by kernel_rfl }
end Go.Proofs.YtgajhmmildbkfaaGreatDoor

/- A text once more, by the library. -/
namespace Go.Proofs.YtgajhmmildbkfaaGreatDoor
open Go.RowKit Go.Shelf

theorem clone_any (s : ByteArray) (hs : s.size ≤ 20000) (w : World) :
    Calls Tryz.prog 37 #[.string s] w fun e w' => e = .returned (.string s) ∧ Below w.heap.size w w' := by
  have hc : ∀ w, Calls Tryz.prog 65 #[.string s] w fun e w' => e = .returned (.string s) ∧ Below w.heap.size w w' := fun w => Any.stringslite_Clone laysM316 s w (by omega)
  go_enter Tryz.func37, Tryz.ntmps37
  go_wp2_with (go_at_call 65; refine (hc _).mono ?_; rintro e w' ⟨rfl, hb⟩)
  go_ret
  exact ⟨rfl, hb⟩
end Go.Proofs.YtgajhmmildbkfaaGreatDoor

/- A byte that may stand between marks, by the program. -/
namespace Go.Proofs.YtgajhmmildbkfaaGreatDoor
open Go.RowKit Go.Shelf

theorem textB_9 (c : UInt8) (h : (c.toNat : Int) = 9) : textB c = true := by
  have : c = 9 := UInt8.toNat_inj.1 (by have : (9 : UInt8).toNat = 9 := rfl; omega)
  rw [this]
  decide
theorem textB_low (c : UInt8) (h : ¬ (c.toNat : Int) = 9) (h2 : ¬ (32 : Int) ≤ (c.toNat : Int)) : textB c = false := by
  have h3 : c ≠ 9 := by
    rintro rfl
    exact h rfl
  unfold textB
  rw [beq_eq_false_iff_ne.2 h3, decide_eq_false (by omega)]
  rfl
theorem textB_127 (c : UInt8) (h : (c.toNat : Int) = 127) : textB c = false := by
  have : c = 127 := UInt8.toNat_inj.1 (by have : (127 : UInt8).toNat = 127 := rfl; omega)
  rw [this]
  decide
theorem textB_yes (c : UInt8) (h2 : (32 : Int) ≤ (c.toNat : Int)) (h3 : ¬ (c.toNat : Int) = 127) : textB c = true := by
  have h4 : c ≠ 127 := by
    rintro rfl
    exact h3 rfl
  unfold textB
  rw [decide_eq_true (show 32 ≤ c.toNat by omega), bne_iff_ne.2 h4]
  simp
theorem text_any (c : UInt8) (w : World) : Calls Tryz.prog 46 #[.int .u8 (c.toNat : Int)] w fun e w' => e = .returned (.bool (textB c)) ∧ w' = w := by
  by_cases h : (c.toNat : Int) = 9
  · rw [textB_9 c h]
    go_enter Tryz.func46, Tryz.ntmps46
    go_wp2
    go_ret
    exact ⟨rfl, rfl⟩
  · by_cases h2 : (32 : Int) ≤ (c.toNat : Int)
    · by_cases h3 : (c.toNat : Int) = 127
      · rw [textB_127 c h3]
        go_enter Tryz.func46, Tryz.ntmps46
        go_wp2
        go_ret
        exact ⟨rfl, rfl⟩
      · rw [textB_yes c h2 h3]
        go_enter Tryz.func46, Tryz.ntmps46
        go_wp2
        go_ret
        exact ⟨ret_bool (by rw [bne_iff_ne.2 h3]; simp), rfl⟩
    · rw [textB_low c h h2]
      go_enter Tryz.func46, Tryz.ntmps46
      go_wp2
      go_ret
      exact ⟨ret_bool (beq_eq_false_iff_ne.2 h), rfl⟩
theorem kind_text : Kind 46 textB := ⟨text_any, enters_at Tryz.func46 (by kernel_rfl) rfl⟩
end Go.Proofs.YtgajhmmildbkfaaGreatDoor
