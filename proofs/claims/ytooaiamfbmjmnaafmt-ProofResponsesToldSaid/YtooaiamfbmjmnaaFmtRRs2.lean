/- What proves a request, by the document: the walks. -/
import Derived.Test.YtooaiamfbmjmnaaFmtRRs
import Derived.Deep.RegionHeld3
namespace Go.Proofs.YtooaiamfbmjmnaaFmt
open Go.RowKit
open Go.Extern.Stop Go.Stop Go.Extern

set_option maxRecDepth 100000 in
set_option maxHeartbeats 4000000 in
theorem rresp_full_no (F : Interp) (a : PfA) (r : PfR) (st : Bool) (dv : Value) (n : Nat) (hn : n < 9223372036854775808) (hf : Fits a r) (hs : a.sess = false) (hq : a.qop.data.toList ≠ []) (hi : a.qop.data.toList ≠ qInt) (w : World) (hF : F.told.answers w.tape) (HT : Hid (Tabs w)) :
    Calls Tryf.prog 6 #[.agg #[.int .i64 a.scheme, .string a.realm, .string a.nonce, .string a.opq, .bool a.sess, .string a.qop, .bool st, dv], .agg #[.string r.user, .string r.pass], .string r.method, .string r.target, .string r.body, .string r.cnonce, .int .i64 (n : Int)] w fun e w' => e = .returned (.string (bs (respL a r n))) ∧ Below w.heap.size w w' := by
  have HK := pfK_start w a r st dv HT
  have HFT : Hid (F.told.answers w.tape) := hF
  clear hF
  have hq1 := not_list a.qop _ hi
  have hq2 := not_empty a.qop hq
  unfold qInt at hq1
  have HR : Hid (respL a r n = sumT a.scheme [whoL a r, a.nonce.data.toList, countL n, r.cnonce.data.toList, a.qop.data.toList, sumT a.scheme [r.method.data.toList, r.target.data.toList]]) := by
    show _ = _
    unfold respL oneL twoL
    rw [if_neg hq, hs, if_neg hi]
    rfl
  unfold Fits at hf
  obtain ⟨X, HX⟩ : ∃ X, Hid (bs (whoL a r) = X) := ⟨_, rfl⟩
  have hxz : X.size ≤ 64 := by rw [← HX.out, bs_size]; exact sumT_len _ _
  have h1 : ∀ w, F.told.answers w.tape → Hid (Tabs w) → Calls Tryf.prog 9 #[.int .i64 a.scheme, .string (r.user ++ ⟨#[58]⟩ ++ a.realm ++ ⟨#[58]⟩ ++ r.pass)] w fun e w' => e = .returned (.string X) ∧ Below w.heap.size w w' := fun w hF HT => refH_of F a.scheme _ X [r.user.data.toList, a.realm.data.toList, r.pass.data.toList] (by simp only [ByteArray.size_append]; show _ ≤ _; simp only [one58]; omega) (by simp [join_cons, join_one]) HX.out w hF HT
  obtain ⟨Y, HY⟩ : ∃ Y, Hid (bs (sumT a.scheme [r.method.data.toList, r.target.data.toList]) = Y) := ⟨_, rfl⟩
  have hyz : Y.size ≤ 64 := by rw [← HY.out, bs_size]; exact sumT_len _ _
  have h2 : ∀ w, F.told.answers w.tape → Hid (Tabs w) → Calls Tryf.prog 9 #[.int .i64 a.scheme, .string (r.method ++ ⟨#[58]⟩ ++ r.target)] w fun e w' => e = .returned (.string Y) ∧ Below w.heap.size w w' := fun w hF HT => refH_of F a.scheme _ Y [r.method.data.toList, r.target.data.toList] (by simp only [ByteArray.size_append]; show _ ≤ _; simp only [one58]; omega) (by simp [join_cons, join_one]) HY.out w hF HT
  obtain ⟨K, HKK⟩ : ∃ K, Hid (bs (countL n) = K) := ⟨_, rfl⟩
  have hcz : K.size ≤ 16 := by rw [← HKK.out, bs_size]; exact countL_len _
  have h4 : ∀ w, Hid (Bruijn w) → Calls Tryf.prog 10 #[.int .i64 (n : Int)] w fun e w' => e = .returned (.string K) ∧ Below w.heap.size w w' := fun w HD => by rw [← HKK.out]; exact refCount_any n hn w HD
  obtain ⟨V, HV⟩ : ∃ V, Hid (bs (respL a r n) = V) := ⟨_, rfl⟩
  have HE : Hid (bs (sumT a.scheme [X.data.toList, a.nonce.data.toList, K.data.toList, r.cnonce.data.toList, a.qop.data.toList, Y.data.toList]) = V) := by
    show _ = _
    rw [← HV.out, HR.out, ← HX.out, bs_data, ← HY.out, bs_data, ← HKK.out, bs_data]
  have h3 : ∀ w, F.told.answers w.tape → Hid (Tabs w) → Calls Tryf.prog 9 #[.int .i64 a.scheme, .string (X ++ ⟨#[58]⟩ ++ (a.nonce ++ (⟨#[58]⟩ ++ K ++ ⟨#[58]⟩ ++ r.cnonce ++ ⟨#[58]⟩ ++ a.qop)) ++ ⟨#[58]⟩ ++ Y)] w fun e w' => e = .returned (.string V) ∧ Below w.heap.size w w' := fun w hF HT => refH_of F a.scheme _ V [X.data.toList, a.nonce.data.toList, K.data.toList, r.cnonce.data.toList, (a.qop : ByteArray).data.toList, Y.data.toList] (by simp only [ByteArray.size_append]; show _ ≤ _; simp only [one58]; omega) (by simp [join_cons, join_one]) HE.out w hF HT
  rw [HV.out]
  have s0 := fun W => run_string_add_sum (P := Tryf.prog) W (⟨#[58]⟩) (K) (by have h58 := one58; omega)
  have s1 := fun W => run_string_add_sum (P := Tryf.prog) W (⟨#[58]⟩ ++ K) (⟨#[58]⟩) (by have h58 := one58; simp only [ByteArray.size_append]; omega)
  have s2 := fun W => run_string_add_sum (P := Tryf.prog) W (⟨#[58]⟩ ++ K ++ ⟨#[58]⟩) (r.cnonce) (by have h58 := one58; simp only [ByteArray.size_append]; omega)
  have s3 := fun W => run_string_add_sum (P := Tryf.prog) W (⟨#[58]⟩ ++ K ++ ⟨#[58]⟩ ++ r.cnonce) (⟨#[58]⟩) (by have h58 := one58; simp only [ByteArray.size_append]; omega)
  have s4 := fun W => run_string_add_sum (P := Tryf.prog) W (⟨#[58]⟩ ++ K ++ ⟨#[58]⟩ ++ r.cnonce ++ ⟨#[58]⟩) (a.qop) (by have h58 := one58; simp only [ByteArray.size_append]; omega)
  have s5 := fun W => run_string_add_sum (P := Tryf.prog) W (a.nonce) (⟨#[58]⟩ ++ K ++ ⟨#[58]⟩ ++ r.cnonce ++ ⟨#[58]⟩ ++ a.qop) (by have h58 := one58; simp only [ByteArray.size_append]; omega)
  have s6 := fun W => run_string_add_sum (P := Tryf.prog) W (X) (⟨#[58]⟩) (by have h58 := one58; omega)
  have s7 := fun W => run_string_add_sum (P := Tryf.prog) W (X ++ ⟨#[58]⟩) ((a.nonce ++ (⟨#[58]⟩ ++ K ++ ⟨#[58]⟩ ++ r.cnonce ++ ⟨#[58]⟩ ++ a.qop))) (by have h58 := one58; simp only [ByteArray.size_append]; omega)
  have s8 := fun W => run_string_add_sum (P := Tryf.prog) W (X ++ ⟨#[58]⟩ ++ (a.nonce ++ (⟨#[58]⟩ ++ K ++ ⟨#[58]⟩ ++ r.cnonce ++ ⟨#[58]⟩ ++ a.qop))) (⟨#[58]⟩) (by have h58 := one58; simp only [ByteArray.size_append]; omega)
  have s9 := fun W => run_string_add_sum (P := Tryf.prog) W (X ++ ⟨#[58]⟩ ++ (a.nonce ++ (⟨#[58]⟩ ++ K ++ ⟨#[58]⟩ ++ r.cnonce ++ ⟨#[58]⟩ ++ a.qop)) ++ ⟨#[58]⟩) (Y) (by have h58 := one58; simp only [ByteArray.size_append]; omega)
  have HK0 : Hid (PfK w _ a r) := HK
  clear HK hq hi
  rw [hs]
  rw [hs] at HK0
  obtain ⟨c0, c1, c2, c4, c5, d0, d1, _, _, _⟩ := HK0.out
  rw [hs] at c4
  go_enter Tryf.func6, Tryf.ntmps6
  go_wp2_with fail
  refine (h1 _ (by rw [HK0.out.bel.tape]; exact HFT.out) HK0.out.tabs).mono ?_
  rintro e w1 ⟨rfl, hb1⟩
  have HK1 : Hid (PfK w w1 a r) := HK0.out.below hb1
  clear hb1 c0 c1 c2 c4 c5 d0 d1
  obtain ⟨c0, c1, c2, c4, c5, d0, d1, _, _, _⟩ := HK1.out
  rw [hs] at c4
  have hQ : w1.drew.cell? ⟨w.heap.size, 0, none⟩ = some (.int .i64 a.scheme) ∧ w1.drew.cell? ⟨w.heap.size, 5, none⟩ = some (.string a.qop) ∧ Hid (PfK w (w1.drew) a r) := PfK.heldR (HK1.out.drew)
  go_wp2
  go_region_held3 (fun W => W.cell? ⟨w.heap.size, 0, none⟩ = some (.int .i64 a.scheme) ∧ W.cell? ⟨w.heap.size, 5, none⟩ = some (.string a.qop) ∧ Hid (PfK w W a r)) (with_reducible assumption) (
    (go_at_call 10; refine (h4 _ HK1.out.drew.tabs.bruijn).mono ?_; rintro e wc ⟨rfl, hbc⟩; have hKc := HK1.out.drew.below hbc; have hQc : wc.cell? ⟨w.heap.size, 0, none⟩ = some (.int .i64 a.scheme) ∧ wc.cell? ⟨w.heap.size, 5, none⟩ = some (.string a.qop) ∧ Hid (PfK w (wc) a r) := PfK.heldR (hKc)))
  have HK2 : Hid (PfK w wc a r) := hKc
  clear hQ hQc hKc hbc c0 c1 c2 c4 c5 d0 d1
  obtain ⟨c0, c1, c2, c4, c5, d0, d1, _, _, _⟩ := HK2.out
  rw [hs] at c4
  have hQ : wc.drew.cell? ⟨w.heap.size, 0, none⟩ = some (.int .i64 a.scheme) ∧ wc.drew.cell? ⟨w.heap.size, 5, none⟩ = some (.string a.qop) ∧ Hid (PfK w (wc.drew) a r) := PfK.heldR (HK2.out.drew)
  go_wp2
  go_region_held3 (fun W => W.cell? ⟨w.heap.size, 0, none⟩ = some (.int .i64 a.scheme) ∧ W.cell? ⟨w.heap.size, 5, none⟩ = some (.string a.qop) ∧ Hid (PfK w W a r)) (with_reducible assumption) (first
    | (go_at_call 9; refine (h3 _ (by rw [hKd.bel.tape]; exact HFT.out) hKd.tabs).mono ?_; rintro e we ⟨rfl, hbe⟩; have hKe := hKd.below hbe; have hQe : we.cell? ⟨w.heap.size, 0, none⟩ = some (.int .i64 a.scheme) ∧ we.cell? ⟨w.heap.size, 5, none⟩ = some (.string a.qop) ∧ Hid (PfK w (we) a r) := PfK.heldR (hKe))
    | (go_at_call 9; refine (h2 _ (by rw [HK2.out.drew.bel.tape]; exact HFT.out) HK2.out.drew.tabs).mono ?_; rintro e wd ⟨rfl, hbd⟩; have hKd := HK2.out.drew.below hbd; have hQd : wd.cell? ⟨w.heap.size, 0, none⟩ = some (.int .i64 a.scheme) ∧ wd.cell? ⟨w.heap.size, 5, none⟩ = some (.string a.qop) ∧ Hid (PfK w (wd) a r) := PfK.heldR (hKd)))
  go_wp2
  go_ret
  exact ⟨rfl, hKe.bel⟩
set_option maxRecDepth 100000 in
set_option maxHeartbeats 4000000 in
theorem rresp_int_no (F : Interp) (a : PfA) (r : PfR) (st : Bool) (dv : Value) (n : Nat) (hn : n < 9223372036854775808) (hf : Fits a r) (hs : a.sess = false) (hi : a.qop.data.toList = qInt) (w : World) (hF : F.told.answers w.tape) (HT : Hid (Tabs w)) :
    Calls Tryf.prog 6 #[.agg #[.int .i64 a.scheme, .string a.realm, .string a.nonce, .string a.opq, .bool a.sess, .string a.qop, .bool st, dv], .agg #[.string r.user, .string r.pass], .string r.method, .string r.target, .string r.body, .string r.cnonce, .int .i64 (n : Int)] w fun e w' => e = .returned (.string (bs (respL a r n))) ∧ Below w.heap.size w w' := by
  have HK := pfK_start w a r st dv HT
  have HFT : Hid (F.told.answers w.tape) := hF
  clear hF
  have HQE : Hid (a.qop = ⟨#[97, 117, 116, 104, 45, 105, 110, 116]⟩) := eq_int _ hi
  have HR : Hid (respL a r n = sumT a.scheme [whoL a r, a.nonce.data.toList, countL n, r.cnonce.data.toList, a.qop.data.toList, sumT a.scheme [r.method.data.toList, r.target.data.toList, sumT a.scheme [r.body.data.toList]]]) := by
    show _ = _
    unfold respL oneL twoL
    have h0 : ¬ qInt = [] := by decide
    rw [hi, if_neg h0, hs, if_pos rfl]
    rfl
  unfold Fits at hf
  obtain ⟨X, HX⟩ : ∃ X, Hid (bs (whoL a r) = X) := ⟨_, rfl⟩
  have hxz : X.size ≤ 64 := by rw [← HX.out, bs_size]; exact sumT_len _ _
  have h1 : ∀ w, F.told.answers w.tape → Hid (Tabs w) → Calls Tryf.prog 9 #[.int .i64 a.scheme, .string (r.user ++ ⟨#[58]⟩ ++ a.realm ++ ⟨#[58]⟩ ++ r.pass)] w fun e w' => e = .returned (.string X) ∧ Below w.heap.size w w' := fun w hF HT => refH_of F a.scheme _ X [r.user.data.toList, a.realm.data.toList, r.pass.data.toList] (by simp only [ByteArray.size_append]; show _ ≤ _; simp only [one58]; omega) (by simp [join_cons, join_one]) HX.out w hF HT
  obtain ⟨B, HB⟩ : ∃ B, Hid (bs (sumT a.scheme [r.body.data.toList]) = B) := ⟨_, rfl⟩
  have hbz : B.size ≤ 64 := by rw [← HB.out, bs_size]; exact sumT_len _ _
  have h5 : ∀ w, F.told.answers w.tape → Hid (Tabs w) → Calls Tryf.prog 9 #[.int .i64 a.scheme, .string (r.body)] w fun e w' => e = .returned (.string B) ∧ Below w.heap.size w w' := fun w hF HT => refH_of F a.scheme _ B [r.body.data.toList] (by omega) (by simp [join_one]) HB.out w hF HT
  obtain ⟨Y, HY⟩ : ∃ Y, Hid (bs (sumT a.scheme [r.method.data.toList, r.target.data.toList, B.data.toList]) = Y) := ⟨_, rfl⟩
  have hyz : Y.size ≤ 64 := by rw [← HY.out, bs_size]; exact sumT_len _ _
  have h2 : ∀ w, F.told.answers w.tape → Hid (Tabs w) → Calls Tryf.prog 9 #[.int .i64 a.scheme, .string (r.method ++ ⟨#[58]⟩ ++ r.target ++ (⟨#[58]⟩ ++ B))] w fun e w' => e = .returned (.string Y) ∧ Below w.heap.size w w' := fun w hF HT => refH_of F a.scheme _ Y [r.method.data.toList, r.target.data.toList, B.data.toList] (by simp only [ByteArray.size_append]; show _ ≤ _; simp only [one58]; omega) (by simp [join_cons, join_one]) HY.out w hF HT
  obtain ⟨K, HKK⟩ : ∃ K, Hid (bs (countL n) = K) := ⟨_, rfl⟩
  have hcz : K.size ≤ 16 := by rw [← HKK.out, bs_size]; exact countL_len _
  have h4 : ∀ w, Hid (Bruijn w) → Calls Tryf.prog 10 #[.int .i64 (n : Int)] w fun e w' => e = .returned (.string K) ∧ Below w.heap.size w w' := fun w HD => by rw [← HKK.out]; exact refCount_any n hn w HD
  obtain ⟨V, HV⟩ : ∃ V, Hid (bs (respL a r n) = V) := ⟨_, rfl⟩
  have HE : Hid (bs (sumT a.scheme [X.data.toList, a.nonce.data.toList, K.data.toList, r.cnonce.data.toList, a.qop.data.toList, Y.data.toList]) = V) := by
    show _ = _
    rw [← HV.out, HR.out, ← HX.out, bs_data, ← HY.out, bs_data, ← HB.out, bs_data, ← HKK.out, bs_data]
  have hqz : (⟨#[97, 117, 116, 104, 45, 105, 110, 116]⟩ : ByteArray).size = 8 := rfl
  have h3 : ∀ w, F.told.answers w.tape → Hid (Tabs w) → Calls Tryf.prog 9 #[.int .i64 a.scheme, .string (X ++ ⟨#[58]⟩ ++ (a.nonce ++ (⟨#[58]⟩ ++ K ++ ⟨#[58]⟩ ++ r.cnonce ++ ⟨#[58]⟩ ++ ⟨#[97, 117, 116, 104, 45, 105, 110, 116]⟩)) ++ ⟨#[58]⟩ ++ Y)] w fun e w' => e = .returned (.string V) ∧ Below w.heap.size w w' := fun w hF HT => refH_of F a.scheme _ V [X.data.toList, a.nonce.data.toList, K.data.toList, r.cnonce.data.toList, (⟨#[97, 117, 116, 104, 45, 105, 110, 116]⟩ : ByteArray).data.toList, Y.data.toList] (by simp only [ByteArray.size_append]; show _ ≤ _; simp only [one58, hqz]; omega) (by simp [join_cons, join_one]) (by rw [← HE.out, HQE.out]) w hF HT
  rw [HV.out]
  have s0 := fun W => run_string_add_sum (P := Tryf.prog) W (⟨#[58]⟩) (K) (by have h58 := one58; omega)
  have s1 := fun W => run_string_add_sum (P := Tryf.prog) W (⟨#[58]⟩ ++ K) (⟨#[58]⟩) (by have h58 := one58; simp only [ByteArray.size_append]; omega)
  have s2 := fun W => run_string_add_sum (P := Tryf.prog) W (⟨#[58]⟩ ++ K ++ ⟨#[58]⟩) (r.cnonce) (by have h58 := one58; simp only [ByteArray.size_append]; omega)
  have s3 := fun W => run_string_add_sum (P := Tryf.prog) W (⟨#[58]⟩ ++ K ++ ⟨#[58]⟩ ++ r.cnonce) (⟨#[58]⟩) (by have h58 := one58; simp only [ByteArray.size_append]; omega)
  have s4 := fun W => run_string_add_sum (P := Tryf.prog) W (⟨#[58]⟩ ++ K ++ ⟨#[58]⟩ ++ r.cnonce ++ ⟨#[58]⟩) (⟨#[97, 117, 116, 104, 45, 105, 110, 116]⟩) (by have h58 := one58; simp only [ByteArray.size_append]; omega)
  have s5 := fun W => run_string_add_sum (P := Tryf.prog) W (a.nonce) (⟨#[58]⟩ ++ K ++ ⟨#[58]⟩ ++ r.cnonce ++ ⟨#[58]⟩ ++ ⟨#[97, 117, 116, 104, 45, 105, 110, 116]⟩) (by have h58 := one58; simp only [ByteArray.size_append]; omega)
  have s6 := fun W => run_string_add_sum (P := Tryf.prog) W (X) (⟨#[58]⟩) (by have h58 := one58; omega)
  have s7 := fun W => run_string_add_sum (P := Tryf.prog) W (X ++ ⟨#[58]⟩) ((a.nonce ++ (⟨#[58]⟩ ++ K ++ ⟨#[58]⟩ ++ r.cnonce ++ ⟨#[58]⟩ ++ ⟨#[97, 117, 116, 104, 45, 105, 110, 116]⟩))) (by have h58 := one58; simp only [ByteArray.size_append]; omega)
  have s8 := fun W => run_string_add_sum (P := Tryf.prog) W (X ++ ⟨#[58]⟩ ++ (a.nonce ++ (⟨#[58]⟩ ++ K ++ ⟨#[58]⟩ ++ r.cnonce ++ ⟨#[58]⟩ ++ ⟨#[97, 117, 116, 104, 45, 105, 110, 116]⟩))) (⟨#[58]⟩) (by have h58 := one58; simp only [ByteArray.size_append]; omega)
  have s9 := fun W => run_string_add_sum (P := Tryf.prog) W (X ++ ⟨#[58]⟩ ++ (a.nonce ++ (⟨#[58]⟩ ++ K ++ ⟨#[58]⟩ ++ r.cnonce ++ ⟨#[58]⟩ ++ ⟨#[97, 117, 116, 104, 45, 105, 110, 116]⟩)) ++ ⟨#[58]⟩) (Y) (by have h58 := one58; simp only [ByteArray.size_append]; omega)
  have HK0 : Hid (PfK w _ a r) := HK
  clear HK hi
  rw [hs]
  rw [hs] at HK0
  obtain ⟨c0, c1, c2, c4, c5, d0, d1, _, _, _⟩ := HK0.out
  rw [HQE.out] at c5
  rw [hs] at c4
  go_enter Tryf.func6, Tryf.ntmps6
  go_wp2_with fail
  refine (h1 _ (by rw [HK0.out.bel.tape]; exact HFT.out) HK0.out.tabs).mono ?_
  rintro e w1 ⟨rfl, hb1⟩
  have HK1 : Hid (PfK w w1 a r) := HK0.out.below hb1
  clear hb1 c0 c1 c2 c4 c5 d0 d1
  obtain ⟨c0, c1, c2, c4, c5, d0, d1, _, _, _⟩ := HK1.out
  rw [HQE.out] at c5
  rw [hs] at c4
  go_wp2_with fail
  refine (h5 _ (by rw [HK1.out.bel.tape]; exact HFT.out) HK1.out.tabs).mono ?_
  rintro e w2 ⟨rfl, hb2⟩
  have HK2 : Hid (PfK w w2 a r) := HK1.out.below hb2
  clear hb2 c0 c1 c2 c4 c5 d0 d1
  obtain ⟨c0, c1, c2, c4, c5, d0, d1, _, _, _⟩ := HK2.out
  rw [HQE.out] at c5
  rw [hs] at c4
  have hQ : w2.drew.cell? ⟨w.heap.size, 0, none⟩ = some (.int .i64 a.scheme) ∧ w2.drew.cell? ⟨w.heap.size, 5, none⟩ = some (.string ⟨#[97, 117, 116, 104, 45, 105, 110, 116]⟩) ∧ Hid (PfK w (w2.drew) a r) := PfK.heldRI HQE (HK2.out.drew)
  go_wp2
  go_region_held3 (fun W => W.cell? ⟨w.heap.size, 0, none⟩ = some (.int .i64 a.scheme) ∧ W.cell? ⟨w.heap.size, 5, none⟩ = some (.string ⟨#[97, 117, 116, 104, 45, 105, 110, 116]⟩) ∧ Hid (PfK w W a r)) (with_reducible assumption) (
    (go_at_call 10; refine (h4 _ HK2.out.drew.tabs.bruijn).mono ?_; rintro e wc ⟨rfl, hbc⟩; have hKc := HK2.out.drew.below hbc; have hQc : wc.cell? ⟨w.heap.size, 0, none⟩ = some (.int .i64 a.scheme) ∧ wc.cell? ⟨w.heap.size, 5, none⟩ = some (.string ⟨#[97, 117, 116, 104, 45, 105, 110, 116]⟩) ∧ Hid (PfK w (wc) a r) := PfK.heldRI HQE (hKc)))
  have HK3 : Hid (PfK w wc a r) := hKc
  clear hQ hQc hKc hbc c0 c1 c2 c4 c5 d0 d1
  obtain ⟨c0, c1, c2, c4, c5, d0, d1, _, _, _⟩ := HK3.out
  rw [HQE.out] at c5
  rw [hs] at c4
  have hQ : wc.drew.cell? ⟨w.heap.size, 0, none⟩ = some (.int .i64 a.scheme) ∧ wc.drew.cell? ⟨w.heap.size, 5, none⟩ = some (.string ⟨#[97, 117, 116, 104, 45, 105, 110, 116]⟩) ∧ Hid (PfK w (wc.drew) a r) := PfK.heldRI HQE (HK3.out.drew)
  go_wp2
  go_region_held3 (fun W => W.cell? ⟨w.heap.size, 0, none⟩ = some (.int .i64 a.scheme) ∧ W.cell? ⟨w.heap.size, 5, none⟩ = some (.string ⟨#[97, 117, 116, 104, 45, 105, 110, 116]⟩) ∧ Hid (PfK w W a r)) (with_reducible assumption) (first
    | (go_at_call 9; refine (h3 _ (by rw [hKd.bel.tape]; exact HFT.out) hKd.tabs).mono ?_; rintro e we ⟨rfl, hbe⟩; have hKe := hKd.below hbe; have hQe : we.cell? ⟨w.heap.size, 0, none⟩ = some (.int .i64 a.scheme) ∧ we.cell? ⟨w.heap.size, 5, none⟩ = some (.string ⟨#[97, 117, 116, 104, 45, 105, 110, 116]⟩) ∧ Hid (PfK w (we) a r) := PfK.heldRI HQE (hKe))
    | (go_at_call 9; refine (h2 _ (by rw [HK3.out.drew.bel.tape]; exact HFT.out) HK3.out.drew.tabs).mono ?_; rintro e wd ⟨rfl, hbd⟩; have hKd := HK3.out.drew.below hbd; have hQd : wd.cell? ⟨w.heap.size, 0, none⟩ = some (.int .i64 a.scheme) ∧ wd.cell? ⟨w.heap.size, 5, none⟩ = some (.string ⟨#[97, 117, 116, 104, 45, 105, 110, 116]⟩) ∧ Hid (PfK w (wd) a r) := PfK.heldRI HQE (hKd)))
  go_wp2
  go_ret
  exact ⟨rfl, hKe.bel⟩
end Go.Proofs.YtooaiamfbmjmnaaFmt
