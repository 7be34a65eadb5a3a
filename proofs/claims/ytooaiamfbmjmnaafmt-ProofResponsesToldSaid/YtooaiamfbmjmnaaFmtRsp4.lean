/- What proves a request, by the program: the walks. -/
import Derived.Test.YtooaiamfbmjmnaaFmtRsp3
import Derived.Deep.RegionHeld3
namespace Go.Proofs.YtooaiamfbmjmnaaFmt
open Go.RowKit

set_option maxRecDepth 100000 in
set_option maxHeartbeats 4000000 in
theorem resp_int_no (a : PfA) (r : PfR) (st : Bool) (dv : Value) (n : Nat) (hn : n < 9223372036854775808) (hf : Fits a r) (hs : a.sess = false) (hi : a.qop.data.toList = qInt) (w : World) (HT : Hid (Tabs w)) :
    Calls Tryf.prog 5 #[.agg #[.int .i64 a.scheme, .string a.realm, .string a.nonce, .string a.opq, .bool a.sess, .string a.qop, .bool st, dv], .agg #[.string r.user, .string r.pass], .string r.method, .string r.target, .string r.body, .string r.cnonce, .int .i64 (n : Int)] w fun e w' => e = .returned (.string (bs (respL a r n))) ∧ Below w.heap.size w w' := by
  have HK := pfK_start w a r st dv HT
  have HQE : Hid (a.qop = ⟨#[97, 117, 116, 104, 45, 105, 110, 116]⟩) := eq_int _ hi
  have HR : Hid (respL a r n = sumT a.scheme [whoL a r, a.nonce.data.toList, countL n, r.cnonce.data.toList, a.qop.data.toList, sumT a.scheme [r.method.data.toList, r.target.data.toList, sumT a.scheme [r.body.data.toList]]]) := by
    show _ = _
    unfold respL oneL twoL
    have h0 : ¬ qInt = [] := by decide
    rw [hi, if_neg h0, hs, if_pos rfl]
    rfl
  unfold Fits at hf
  obtain ⟨X, HX⟩ : ∃ X, Hid (bs (whoL a r) = X) := ⟨_, rfl⟩
  have hxz : X.size ≤ 64 := by rw [← HX.out, bs_size]; exact sumT_len _ _
  have h1 : ∀ W, Hid (Tabs W) → ∀ b, b = W.heap.size → Calls Tryf.prog 7 #[.int .i64 a.scheme, .slice (some ⟨b, 0, none⟩) 3 3] (W.alloc (.cells #[.string r.user, .string a.realm, .string r.pass] 9)) fun e w' => e = .returned (.string X) ∧ Below W.heap.size W w' := fun W HT b hb => by rw [← HX.out]; exact sum3 a.scheme r.user a.realm r.pass (by omega) W HT b hb
  obtain ⟨Y, HY⟩ : ∃ Y, Hid (bs (sumT a.scheme [r.method.data.toList, r.target.data.toList]) = Y) := ⟨_, rfl⟩
  have hyz : Y.size ≤ 64 := by rw [← HY.out, bs_size]; exact sumT_len _ _
  have h2 : ∀ W, Hid (Tabs W) → ∀ b, b = W.heap.size → Calls Tryf.prog 7 #[.int .i64 a.scheme, .slice (some ⟨b, 0, none⟩) 2 2] (W.alloc (.cells #[.string r.method, .string r.target] 9)) fun e w' => e = .returned (.string Y) ∧ Below W.heap.size W w' := fun W HT b hb => by rw [← HY.out]; exact sum2 a.scheme r.method r.target (by omega) W HT b hb
  obtain ⟨B, HB⟩ : ∃ B, Hid (bs (sumT a.scheme [r.body.data.toList]) = B) := ⟨_, rfl⟩
  have hbz : B.size ≤ 64 := by rw [← HB.out, bs_size]; exact sumT_len _ _
  have h5 : ∀ W, Hid (Tabs W) → ∀ b, b = W.heap.size → Calls Tryf.prog 7 #[.int .i64 a.scheme, .slice (some ⟨b, 0, none⟩) 1 1] ((W.alloc (.cells #[.string r.body] 9)).drew) fun e w' => e = .returned (.string B) ∧ Below W.heap.size W w' := fun W HT b hb => by
    rw [← HB.out, drew_alloc]
    exact (sum1 a.scheme r.body (by omega) W.drew (HT.out.below (Below.refl _ _).drew) b hb).mono fun e w' ⟨he, hb⟩ => ⟨he, (Below.refl _ _).drew.trans hb⟩
  obtain ⟨V, HV⟩ : ∃ V, Hid (bs (sumT a.scheme [r.method.data.toList, r.target.data.toList, B.data.toList]) = V) := ⟨_, rfl⟩
  have hvz : V.size ≤ 64 := by rw [← HV.out, bs_size]; exact sumT_len _ _
  have h6 : ∀ W, Hid (Tabs W) → ∀ b, b = W.heap.size → Calls Tryf.prog 7 #[.int .i64 a.scheme, .slice (some ⟨b, 0, none⟩) 3 3] (W.alloc (.cells #[.string r.method, .string r.target, .string B] 9)) fun e w' => e = .returned (.string V) ∧ Below W.heap.size W w' := fun W HT b hb => by rw [← HV.out]; exact sum3 a.scheme r.method r.target B (by omega) W HT b hb
  obtain ⟨C, HC⟩ : ∃ C, Hid (bs (countL n) = C) := ⟨_, rfl⟩
  have hcz : C.size ≤ 16 := by rw [← HC.out, bs_size]; exact countL_len _
  have h4 : ∀ w, Hid (Bruijn w) → Calls Tryf.prog 8 #[.int .i64 (n : Int)] w fun e w' => e = .returned (.string C) ∧ Below w.heap.size w w' := fun w HD => by rw [← HC.out]; exact count_any n hn w HD
  have HE : Hid (bs (sumT a.scheme [X.data.toList, a.nonce.data.toList, C.data.toList, r.cnonce.data.toList, a.qop.data.toList, V.data.toList]) = bs (respL a r n)) := by
    show _ = _
    rw [HR.out, ← HX.out, bs_data, ← HV.out, bs_data, ← HB.out, bs_data, ← HC.out, bs_data]
  have h3 : ∀ W, Hid (Tabs W) → ∀ b, b = W.heap.size → Calls Tryf.prog 7 #[.int .i64 a.scheme, .slice (some ⟨b, 0, none⟩) 6 6] (W.alloc (.cells #[.string X, .string a.nonce, .string C, .string r.cnonce, .string ⟨#[97, 117, 116, 104, 45, 105, 110, 116]⟩, .string V] 9)) fun e w' => e = .returned (.string (bs (respL a r n))) ∧ Below W.heap.size W w' := fun W HT b hb => by rw [← HE.out, ← HQE.out]; exact sum6 a.scheme X a.nonce C r.cnonce a.qop V (by omega) W HT b hb
  have HK0 : Hid (PfK w _ a r) := HK
  clear HK hi
  rw [hs]
  rw [hs] at HK0
  obtain ⟨c0, c1, c2, c4, c5, d0, d1, _, _, _⟩ := HK0.out
  rw [HQE.out] at c5
  rw [hs] at c4
  go_enter Tryf.func5, Tryf.ntmps5
  go_wp2_with fail
  refine (h1 _ HK0.out.tabs _ (by simp)).mono ?_
  rintro e w1 ⟨rfl, hb1⟩
  have HK1 : Hid (PfK w w1 a r) := HK0.out.below hb1
  clear hb1 c0 c1 c2 c4 c5 d0 d1
  obtain ⟨c0, c1, c2, c4, c5, d0, d1, _, _, _⟩ := HK1.out
  rw [HQE.out] at c5
  rw [hs] at c4
  go_wp2_with fail
  refine (h2 _ HK1.out.tabs _ (by simp)).mono ?_
  rintro e w2 ⟨rfl, hb2⟩
  have HK2 : Hid (PfK w w2 a r) := HK1.out.below hb2
  clear hb2 c0 c1 c2 c4 c5 d0 d1
  obtain ⟨c0, c1, c2, c4, c5, d0, d1, _, _, _⟩ := HK2.out
  rw [HQE.out] at c5
  rw [hs] at c4
  have hQ : w2.drew.cell? ⟨w.heap.size, 0, none⟩ = some (.int .i64 a.scheme) ∧ w2.drew.cell? ⟨w.heap.size, 2, none⟩ = some (.string a.nonce) ∧ w2.drew.cell? ⟨w.heap.size, 5, none⟩ = some (.string ⟨#[97, 117, 116, 104, 45, 105, 110, 116]⟩) ∧ Hid (PfK w (w2.drew) a r) := PfK.heldI HQE (HK2.out.drew)
  have hQ0 : w2.cell? ⟨w.heap.size, 0, none⟩ = some (.int .i64 a.scheme) ∧ w2.cell? ⟨w.heap.size, 2, none⟩ = some (.string a.nonce) ∧ w2.cell? ⟨w.heap.size, 5, none⟩ = some (.string ⟨#[97, 117, 116, 104, 45, 105, 110, 116]⟩) ∧ Hid (PfK w (w2) a r) := PfK.heldI HQE (HK2.out)
  go_wp2
  go_region_held3 (fun W => W.cell? ⟨w.heap.size, 0, none⟩ = some (.int .i64 a.scheme) ∧ W.cell? ⟨w.heap.size, 2, none⟩ = some (.string a.nonce) ∧ W.cell? ⟨w.heap.size, 5, none⟩ = some (.string ⟨#[97, 117, 116, 104, 45, 105, 110, 116]⟩) ∧ Hid (PfK w W a r)) (first | (with_reducible assumption) | (refine heldI HQE ?_ _; with_reducible assumption) | (refine heldD HQE ?_ _; with_reducible assumption)) (first
    | (go_at_call 7; refine (h6 _ hKa.tabs _ rfl).mono ?_; rintro e wb ⟨rfl, hbb⟩; have hKb := hKa.below hbb; have hQb : wb.cell? ⟨w.heap.size, 0, none⟩ = some (.int .i64 a.scheme) ∧ wb.cell? ⟨w.heap.size, 2, none⟩ = some (.string a.nonce) ∧ wb.cell? ⟨w.heap.size, 5, none⟩ = some (.string ⟨#[97, 117, 116, 104, 45, 105, 110, 116]⟩) ∧ Hid (PfK w (wb) a r) := PfK.heldI HQE (hKb))
    | (go_at_call 7; refine (h5 w2 HK2.out.tabs _ rfl).mono ?_; rintro e wa ⟨rfl, hba⟩; have hKa := HK2.out.below hba; have hQa : wa.cell? ⟨w.heap.size, 0, none⟩ = some (.int .i64 a.scheme) ∧ wa.cell? ⟨w.heap.size, 2, none⟩ = some (.string a.nonce) ∧ wa.cell? ⟨w.heap.size, 5, none⟩ = some (.string ⟨#[97, 117, 116, 104, 45, 105, 110, 116]⟩) ∧ Hid (PfK w (wa) a r) := PfK.heldI HQE (hKa)))
  have HK3 : Hid (PfK w wb a r) := hKb
  clear hQ hQ0 hQa hQb hKa hKb hba hbb c0 c1 c2 c4 c5 d0 d1
  obtain ⟨c0, c1, c2, c4, c5, d0, d1, _, _, _⟩ := HK3.out
  rw [HQE.out] at c5
  rw [hs] at c4
  have hQ : wb.drew.cell? ⟨w.heap.size, 0, none⟩ = some (.int .i64 a.scheme) ∧ wb.drew.cell? ⟨w.heap.size, 2, none⟩ = some (.string a.nonce) ∧ wb.drew.cell? ⟨w.heap.size, 5, none⟩ = some (.string ⟨#[97, 117, 116, 104, 45, 105, 110, 116]⟩) ∧ Hid (PfK w (wb.drew) a r) := PfK.heldI HQE (HK3.out.drew)
  go_wp2
  go_region_held3 (fun W => W.cell? ⟨w.heap.size, 0, none⟩ = some (.int .i64 a.scheme) ∧ W.cell? ⟨w.heap.size, 2, none⟩ = some (.string a.nonce) ∧ W.cell? ⟨w.heap.size, 5, none⟩ = some (.string ⟨#[97, 117, 116, 104, 45, 105, 110, 116]⟩) ∧ Hid (PfK w W a r)) (first | (with_reducible assumption) | (refine heldI HQE ?_ _; with_reducible assumption) | (refine heldD HQE ?_ _; with_reducible assumption)) (first
    | (go_at_call 8; refine (h4 _ HK3.out.drew.tabs.bruijn).mono ?_; rintro e wc ⟨rfl, hbc⟩; have hKc := HK3.out.drew.below hbc; have hQc : wc.cell? ⟨w.heap.size, 0, none⟩ = some (.int .i64 a.scheme) ∧ wc.cell? ⟨w.heap.size, 2, none⟩ = some (.string a.nonce) ∧ wc.cell? ⟨w.heap.size, 5, none⟩ = some (.string ⟨#[97, 117, 116, 104, 45, 105, 110, 116]⟩) ∧ Hid (PfK w (wc) a r) := PfK.heldI HQE (hKc))
    | (go_at_call 7; refine (h3 _ hKc.tabs _ rfl).mono ?_; rintro e wd ⟨rfl, hbd⟩; have hKd := hKc.below hbd; have hQd : wd.cell? ⟨w.heap.size, 0, none⟩ = some (.int .i64 a.scheme) ∧ wd.cell? ⟨w.heap.size, 2, none⟩ = some (.string a.nonce) ∧ wd.cell? ⟨w.heap.size, 5, none⟩ = some (.string ⟨#[97, 117, 116, 104, 45, 105, 110, 116]⟩) ∧ Hid (PfK w (wd) a r) := PfK.heldI HQE (hKd)))
  go_wp2
  go_ret
  exact ⟨rfl, hKd.bel⟩
end Go.Proofs.YtooaiamfbmjmnaaFmt
