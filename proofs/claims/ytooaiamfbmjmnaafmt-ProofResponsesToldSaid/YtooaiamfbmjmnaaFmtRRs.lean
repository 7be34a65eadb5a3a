/- What proves a request, by the document. -/
import Derived.Test.YtooaiamfbmjmnaaFmtRsp5
import Derived.Test.YtooaiamfbmjmnaaFmtRCn
import Derived.Test.YtooaiamfbmjmnaaFmtRefMd5
import Derived.Test.YtooaiamfbmjmnaaFmtRefSha
namespace Go.Proofs.YtooaiamfbmjmnaaFmt
open Go.RowKit
open Go.Extern.Stop Go.Stop Go.Extern

set_option maxHeartbeats 1000000 in
theorem refH_any (F : Interp) (sch : Int) (s : ByteArray) (hs : s.size ≤ 1000) (w : World) (hF : F.told.answers w.tape) (HT : Hid (Tabs w)) :
    Calls Tryf.prog 9 #[.int .i64 sch, .string s] w fun e w' => e = .returned (.string (bs (sumL sch s.data.toList))) ∧ Below w.heap.size w w' := by
  have h1 := fun w a b => refMd5 F s hs w a b
  have h2 := fun w a b c => refSha F s hs w a b c
  unfold sumL
  by_cases h3 : sch = 3
  · have hi : (sch == 3) = true := by simp [h3]
    rw [if_pos h3]
    go_enter Tryf.func9, Tryf.ntmps9
    go_wp2_with fail
    refine (h2 _ hF HT.out.begins HT.out.roots).mono ?_
    rintro e w2 ⟨rfl, hb2⟩
    go_wp2
    go_ret
    exact ⟨rfl, hb2⟩
  · have hi : (sch == 3) = false := by simp [h3]
    rw [if_neg h3]
    go_enter Tryf.func9, Tryf.ntmps9
    go_wp2_with fail
    refine (h1 _ hF HT.out.sines).mono ?_
    rintro e w2 ⟨rfl, hb2⟩
    go_wp2
    go_ret
    exact ⟨rfl, hb2⟩
/-- The same where the text is known by its bytes. -/
theorem refH_of (F : Interp) (sch : Int) (s X : ByteArray) (l : List (List UInt8)) (hs : s.size ≤ 1000) (hl : s.data.toList = Lib.join l [58]) (hX : bs (sumT sch l) = X) (w : World) (hF : F.told.answers w.tape) (HT : Hid (Tabs w)) :
    Calls Tryf.prog 9 #[.int .i64 sch, .string s] w fun e w' => e = .returned (.string X) ∧ Below w.heap.size w w' := by
  have h := refH_any F sch s hs w hF HT
  rw [hl] at h
  rw [← hX]
  exact h
theorem PfK.heldR {w W : World} {a : PfA} {r : PfR} (h : PfK w W a r) : W.cell? ⟨w.heap.size, 0, none⟩ = some (.int .i64 a.scheme) ∧ W.cell? ⟨w.heap.size, 5, none⟩ = some (.string a.qop) ∧ Hid (PfK w W a r) := ⟨h.c0, h.c5, h⟩
theorem PfK.heldRI {w W : World} {a : PfA} {r : PfR} (H : Hid (a.qop = ⟨#[97, 117, 116, 104, 45, 105, 110, 116]⟩)) (h : PfK w W a r) : W.cell? ⟨w.heap.size, 0, none⟩ = some (.int .i64 a.scheme) ∧ W.cell? ⟨w.heap.size, 5, none⟩ = some (.string ⟨#[97, 117, 116, 104, 45, 105, 110, 116]⟩) ∧ Hid (PfK w W a r) := ⟨h.c0, by rw [← H.out]; exact h.c5, h⟩
theorem PfK.heldRE {w W : World} {a : PfA} {r : PfR} (H : Hid (a.qop = ⟨#[]⟩)) (h : PfK w W a r) : W.cell? ⟨w.heap.size, 0, none⟩ = some (.int .i64 a.scheme) ∧ W.cell? ⟨w.heap.size, 5, none⟩ = some (.string ⟨#[]⟩) ∧ Hid (PfK w W a r) := ⟨h.c0, by rw [← H.out]; exact h.c5, h⟩
theorem one58 : (⟨#[58]⟩ : ByteArray).size = 1 := rfl
set_option maxRecDepth 100000 in
set_option maxHeartbeats 4000000 in
theorem rresp_plain_no (F : Interp) (a : PfA) (r : PfR) (st : Bool) (dv : Value) (n : Nat) (_hn : n < 9223372036854775808) (hf : Fits a r) (hs : a.sess = false) (hq : a.qop.data.toList = []) (w : World) (hF : F.told.answers w.tape) (HT : Hid (Tabs w)) :
    Calls Tryf.prog 6 #[.agg #[.int .i64 a.scheme, .string a.realm, .string a.nonce, .string a.opq, .bool a.sess, .string a.qop, .bool st, dv], .agg #[.string r.user, .string r.pass], .string r.method, .string r.target, .string r.body, .string r.cnonce, .int .i64 (n : Int)] w fun e w' => e = .returned (.string (bs (respL a r n))) ∧ Below w.heap.size w w' := by
  have HK := pfK_start w a r st dv HT
  have HFT : Hid (F.told.answers w.tape) := hF
  clear hF
  have HQE : Hid (a.qop = ⟨#[]⟩) := by show _ = _; rw [← bs_self a.qop, hq]; rfl
  have HR : Hid (respL a r n = sumT a.scheme [whoL a r, a.nonce.data.toList, sumT a.scheme [r.method.data.toList, r.target.data.toList]]) := by
    show _ = _
    unfold respL oneL twoL
    have h0 : ¬ ([] : List UInt8) = qInt := by decide
    rw [if_pos hq, hs, hq, if_neg h0]
    rfl
  unfold Fits at hf
  obtain ⟨X, HX⟩ : ∃ X, Hid (bs (whoL a r) = X) := ⟨_, rfl⟩
  have hxz : X.size ≤ 64 := by rw [← HX.out, bs_size]; exact sumT_len _ _
  have h1 : ∀ w, F.told.answers w.tape → Hid (Tabs w) → Calls Tryf.prog 9 #[.int .i64 a.scheme, .string (r.user ++ ⟨#[58]⟩ ++ a.realm ++ ⟨#[58]⟩ ++ r.pass)] w fun e w' => e = .returned (.string X) ∧ Below w.heap.size w w' := fun w hF HT => refH_of F a.scheme _ X [r.user.data.toList, a.realm.data.toList, r.pass.data.toList] (by simp only [ByteArray.size_append]; show _ ≤ _; simp only [one58]; omega) (by simp [join_cons, join_one]) HX.out w hF HT
  obtain ⟨Y, HY⟩ : ∃ Y, Hid (bs (sumT a.scheme [r.method.data.toList, r.target.data.toList]) = Y) := ⟨_, rfl⟩
  have hyz : Y.size ≤ 64 := by rw [← HY.out, bs_size]; exact sumT_len _ _
  have h2 : ∀ w, F.told.answers w.tape → Hid (Tabs w) → Calls Tryf.prog 9 #[.int .i64 a.scheme, .string (r.method ++ ⟨#[58]⟩ ++ r.target)] w fun e w' => e = .returned (.string Y) ∧ Below w.heap.size w w' := fun w hF HT => refH_of F a.scheme _ Y [r.method.data.toList, r.target.data.toList] (by simp only [ByteArray.size_append]; show _ ≤ _; simp only [one58]; omega) (by simp [join_cons, join_one]) HY.out w hF HT
  obtain ⟨V, HV⟩ : ∃ V, Hid (bs (respL a r n) = V) := ⟨_, rfl⟩
  have HE : Hid (bs (sumT a.scheme [X.data.toList, a.nonce.data.toList, Y.data.toList]) = V) := by
    show _ = _
    rw [← HV.out, HR.out, ← HX.out, bs_data, ← HY.out, bs_data]
  have h3 : ∀ w, F.told.answers w.tape → Hid (Tabs w) → Calls Tryf.prog 9 #[.int .i64 a.scheme, .string (X ++ ⟨#[58]⟩ ++ a.nonce ++ ⟨#[58]⟩ ++ Y)] w fun e w' => e = .returned (.string V) ∧ Below w.heap.size w w' := fun w hF HT => refH_of F a.scheme _ V [X.data.toList, a.nonce.data.toList, Y.data.toList] (by simp only [ByteArray.size_append]; show _ ≤ _; simp only [one58]; omega) (by simp [join_cons, join_one]) HE.out w hF HT
  rw [HV.out]
  have s0 := fun W => run_string_add_sum (P := Tryf.prog) W (X) (⟨#[58]⟩) (by have h58 := one58; omega)
  have s1 := fun W => run_string_add_sum (P := Tryf.prog) W (X ++ ⟨#[58]⟩) (a.nonce) (by have h58 := one58; simp only [ByteArray.size_append]; omega)
  have s2 := fun W => run_string_add_sum (P := Tryf.prog) W (X ++ ⟨#[58]⟩ ++ a.nonce) (⟨#[58]⟩) (by have h58 := one58; simp only [ByteArray.size_append]; omega)
  have s3 := fun W => run_string_add_sum (P := Tryf.prog) W (X ++ ⟨#[58]⟩ ++ a.nonce ++ ⟨#[58]⟩) (Y) (by have h58 := one58; simp only [ByteArray.size_append]; omega)
  have HK0 : Hid (PfK w _ a r) := HK
  clear HK hq
  rw [hs]
  rw [hs] at HK0
  obtain ⟨c0, c1, c2, c4, c5, d0, d1, _, _, _⟩ := HK0.out
  rw [HQE.out] at c5
  rw [hs] at c4
  go_enter Tryf.func6, Tryf.ntmps6
  go_wp2_with fail
  refine (h1 _ (by rw [HK0.out.bel.tape]; exact HFT.out) HK0.out.tabs).mono ?_
  rintro e w1 ⟨rfl, hb1⟩
  have HK1 : Hid (PfK w w1 a r) := HK0.out.below hb1
  clear hb1 c0 c1 c2 c4 c5 d0 d1
  obtain ⟨c0, c1, c2, c4, c5, d0, d1, _, _, _⟩ := HK1.out
  rw [HQE.out] at c5
  rw [hs] at c4
  have hQ : w1.drew.cell? ⟨w.heap.size, 0, none⟩ = some (.int .i64 a.scheme) ∧ w1.drew.cell? ⟨w.heap.size, 5, none⟩ = some (.string ⟨#[]⟩) ∧ Hid (PfK w (w1.drew) a r) := PfK.heldRE HQE (HK1.out.drew)
  go_wp2
  go_region_held3 (fun W => W.cell? ⟨w.heap.size, 0, none⟩ = some (.int .i64 a.scheme) ∧ W.cell? ⟨w.heap.size, 5, none⟩ = some (.string ⟨#[]⟩) ∧ Hid (PfK w W a r)) (with_reducible assumption) (first
    | (go_at_call 9; refine (h3 _ (by rw [hKd.bel.tape]; exact HFT.out) hKd.tabs).mono ?_; rintro e we ⟨rfl, hbe⟩; have hKe := hKd.below hbe; have hQe : we.cell? ⟨w.heap.size, 0, none⟩ = some (.int .i64 a.scheme) ∧ we.cell? ⟨w.heap.size, 5, none⟩ = some (.string ⟨#[]⟩) ∧ Hid (PfK w (we) a r) := PfK.heldRE HQE (hKe))
    | (go_at_call 9; refine (h2 _ (by rw [HK1.out.drew.bel.tape]; exact HFT.out) HK1.out.drew.tabs).mono ?_; rintro e wd ⟨rfl, hbd⟩; have hKd := HK1.out.drew.below hbd; have hQd : wd.cell? ⟨w.heap.size, 0, none⟩ = some (.int .i64 a.scheme) ∧ wd.cell? ⟨w.heap.size, 5, none⟩ = some (.string ⟨#[]⟩) ∧ Hid (PfK w (wd) a r) := PfK.heldRE HQE (hKd)))
  go_wp2
  go_ret
  exact ⟨rfl, hKe.bel⟩
end Go.Proofs.YtooaiamfbmjmnaaFmt
