/- What proves a request, by the program: the walk. -/
import Derived.Test.YtooaiamfbmjmnaaFmtRsp
import Derived.Deep.RegionHeld3
namespace Go.Proofs.YtooaiamfbmjmnaaFmt
open Go.RowKit

theorem lenA (s : ByteArray) : s.data.toList.length = s.size := Array.length_toList
theorem sumT_len (sch : Int) (l : List (List UInt8)) : (sumT sch l).length ≤ 64 := sumL_len _ _
theorem bsumT (sch : Int) (l : List (List UInt8)) : (bs (sumT sch l)).data.toList = sumT sch l := bs_data _
/-- A sum of three texts. -/
theorem sum3 (sch : Int) (x y z : ByteArray) (hz : x.size + y.size + z.size ≤ 900) (W : World) (HT : Hid (Tabs W)) (b : Nat) (hb : b = W.heap.size) :
    Calls Tryf.prog 7 #[.int .i64 sch, .slice (some ⟨b, 0, none⟩) 3 3] (W.alloc (.cells #[.string x, .string y, .string z] 9)) fun e w' => e = .returned (.string (bs (sumT sch [x.data.toList, y.data.toList, z.data.toList]))) ∧ Below W.heap.size W w' := by
  subst hb
  exact sumd_of sch [x, y, z] 3 3 rfl (by omega) (by simp only [dats, List.map_cons, List.map_nil, join_cons, join_one, List.length_append, List.length_cons, List.length_nil, lenA]; omega) (by omega) W HT
theorem sum2 (sch : Int) (x y : ByteArray) (hz : x.size + y.size ≤ 900) (W : World) (HT : Hid (Tabs W)) (b : Nat) (hb : b = W.heap.size) :
    Calls Tryf.prog 7 #[.int .i64 sch, .slice (some ⟨b, 0, none⟩) 2 2] (W.alloc (.cells #[.string x, .string y] 9)) fun e w' => e = .returned (.string (bs (sumT sch [x.data.toList, y.data.toList]))) ∧ Below W.heap.size W w' := by
  subst hb
  exact sumd_of sch [x, y] 2 2 rfl (by omega) (by simp only [dats, List.map_cons, List.map_nil, join_cons, join_one, List.length_append, List.length_cons, List.length_nil, lenA]; omega) (by omega) W HT
theorem sum1 (sch : Int) (x : ByteArray) (hz : x.size ≤ 900) (W : World) (HT : Hid (Tabs W)) (b : Nat) (hb : b = W.heap.size) :
    Calls Tryf.prog 7 #[.int .i64 sch, .slice (some ⟨b, 0, none⟩) 1 1] (W.alloc (.cells #[.string x] 9)) fun e w' => e = .returned (.string (bs (sumT sch [x.data.toList]))) ∧ Below W.heap.size W w' := by
  subst hb
  exact sumd_of sch [x] 1 1 rfl (by omega) (by simp only [dats, List.map_cons, List.map_nil, join_one, lenA]; omega) (by omega) W HT
theorem sum6 (sch : Int) (x y z u v s : ByteArray) (hz : x.size + y.size + z.size + u.size + v.size + s.size ≤ 900) (W : World) (HT : Hid (Tabs W)) (b : Nat) (hb : b = W.heap.size) :
    Calls Tryf.prog 7 #[.int .i64 sch, .slice (some ⟨b, 0, none⟩) 6 6] (W.alloc (.cells #[.string x, .string y, .string z, .string u, .string v, .string s] 9)) fun e w' => e = .returned (.string (bs (sumT sch [x.data.toList, y.data.toList, z.data.toList, u.data.toList, v.data.toList, s.data.toList]))) ∧ Below W.heap.size W w' := by
  subst hb
  exact sumd_of sch [x, y, z, u, v, s] 6 6 rfl (by omega) (by simp only [dats, List.map_cons, List.map_nil, join_cons, join_one, List.length_append, List.length_cons, List.length_nil, lenA]; omega) (by omega) W HT
theorem eq_int (q : ByteArray) (h : q.data.toList = qInt) : q = ⟨#[97, 117, 116, 104, 45, 105, 110, 116]⟩ := by rw [← bs_self q, h]; rfl
theorem not_list (q : ByteArray) (l : List UInt8) (h : q.data.toList ≠ l) : (q.toList == l) = false := by
  rw [ByteArray.toList_eq]
  exact beq_eq_false_iff_ne.2 h
theorem not_empty (q : ByteArray) (h : q.data.toList ≠ []) : q.toList.isEmpty = false := by
  rw [ByteArray.toList_eq]
  cases hq : q.data.toList with
  | nil => exact absurd hq h
  | cons c t => rfl
theorem PfK.held {w W : World} {a : PfA} {r : PfR} (h : PfK w W a r) : W.cell? ⟨w.heap.size, 0, none⟩ = some (.int .i64 a.scheme) ∧ W.cell? ⟨w.heap.size, 2, none⟩ = some (.string a.nonce) ∧ W.cell? ⟨w.heap.size, 5, none⟩ = some (.string a.qop) ∧ Hid (PfK w W a r) := ⟨h.c0, h.c2, h.c5, h⟩
theorem heldA {w W : World} {a : PfA} {r : PfR} (h : W.cell? ⟨w.heap.size, 0, none⟩ = some (.int .i64 a.scheme) ∧ W.cell? ⟨w.heap.size, 2, none⟩ = some (.string a.nonce) ∧ W.cell? ⟨w.heap.size, 5, none⟩ = some (.string a.qop) ∧ Hid (PfK w W a r)) (o : Obj) : (W.alloc o).cell? ⟨w.heap.size, 0, none⟩ = some (.int .i64 a.scheme) ∧ (W.alloc o).cell? ⟨w.heap.size, 2, none⟩ = some (.string a.nonce) ∧ (W.alloc o).cell? ⟨w.heap.size, 5, none⟩ = some (.string a.qop) ∧ Hid (PfK w ((W.alloc o)) a r) := (h.2.2.2.out.below ((Below.refl _ _).alloc (Nat.le_refl _) _)).held
theorem PfK.heldI {w W : World} {a : PfA} {r : PfR} (H : Hid (a.qop = ⟨#[97, 117, 116, 104, 45, 105, 110, 116]⟩)) (h : PfK w W a r) : W.cell? ⟨w.heap.size, 0, none⟩ = some (.int .i64 a.scheme) ∧ W.cell? ⟨w.heap.size, 2, none⟩ = some (.string a.nonce) ∧ W.cell? ⟨w.heap.size, 5, none⟩ = some (.string ⟨#[97, 117, 116, 104, 45, 105, 110, 116]⟩) ∧ Hid (PfK w W a r) := ⟨h.c0, h.c2, by rw [← H.out]; exact h.c5, h⟩
theorem heldI {w W : World} {a : PfA} {r : PfR} (H : Hid (a.qop = ⟨#[97, 117, 116, 104, 45, 105, 110, 116]⟩)) (h : W.cell? ⟨w.heap.size, 0, none⟩ = some (.int .i64 a.scheme) ∧ W.cell? ⟨w.heap.size, 2, none⟩ = some (.string a.nonce) ∧ W.cell? ⟨w.heap.size, 5, none⟩ = some (.string ⟨#[97, 117, 116, 104, 45, 105, 110, 116]⟩) ∧ Hid (PfK w W a r)) (o : Obj) : (W.alloc o).cell? ⟨w.heap.size, 0, none⟩ = some (.int .i64 a.scheme) ∧ (W.alloc o).cell? ⟨w.heap.size, 2, none⟩ = some (.string a.nonce) ∧ (W.alloc o).cell? ⟨w.heap.size, 5, none⟩ = some (.string ⟨#[97, 117, 116, 104, 45, 105, 110, 116]⟩) ∧ Hid (PfK w (W.alloc o) a r) := PfK.heldI H (h.2.2.2.out.below ((Below.refl _ _).alloc (Nat.le_refl _) _))
theorem heldD {w W : World} {a : PfA} {r : PfR} (H : Hid (a.qop = ⟨#[97, 117, 116, 104, 45, 105, 110, 116]⟩)) (h : W.cell? ⟨w.heap.size, 0, none⟩ = some (.int .i64 a.scheme) ∧ W.cell? ⟨w.heap.size, 2, none⟩ = some (.string a.nonce) ∧ W.cell? ⟨w.heap.size, 5, none⟩ = some (.string ⟨#[97, 117, 116, 104, 45, 105, 110, 116]⟩) ∧ Hid (PfK w W a r)) (o : Obj) : (W.alloc o).drew.cell? ⟨w.heap.size, 0, none⟩ = some (.int .i64 a.scheme) ∧ (W.alloc o).drew.cell? ⟨w.heap.size, 2, none⟩ = some (.string a.nonce) ∧ (W.alloc o).drew.cell? ⟨w.heap.size, 5, none⟩ = some (.string ⟨#[97, 117, 116, 104, 45, 105, 110, 116]⟩) ∧ Hid (PfK w (W.alloc o).drew a r) := PfK.heldI H (h.2.2.2.out.below (((Below.refl _ _).alloc (Nat.le_refl _) _).drew))
theorem drew_alloc (W : World) (o : Obj) : (W.alloc o).drew = W.drew.alloc o := rfl
set_option maxRecDepth 100000 in
set_option maxHeartbeats 4000000 in
theorem resp_plain_no (a : PfA) (r : PfR) (st : Bool) (dv : Value) (n : Nat) (_hn : n < 9223372036854775808) (hf : Fits a r) (hs : a.sess = false) (hq : a.qop.data.toList = []) (w : World) (HT : Hid (Tabs w)) :
    Calls Tryf.prog 5 #[.agg #[.int .i64 a.scheme, .string a.realm, .string a.nonce, .string a.opq, .bool a.sess, .string a.qop, .bool st, dv], .agg #[.string r.user, .string r.pass], .string r.method, .string r.target, .string r.body, .string r.cnonce, .int .i64 (n : Int)] w fun e w' => e = .returned (.string (bs (respL a r n))) ∧ Below w.heap.size w w' := by
  have HK := pfK_start w a r st dv HT
  have HQE : Hid (a.qop = ⟨#[]⟩) := by show _ = _; rw [← bs_self a.qop, hq]; rfl
  have HR : Hid (respL a r n = sumT a.scheme [whoL a r, a.nonce.data.toList, sumT a.scheme [r.method.data.toList, r.target.data.toList]]) := by
    show _ = _
    unfold respL oneL twoL
    have h0 : ¬ ([] : List UInt8) = qInt := by decide
    rw [if_pos hq, hs, hq, if_neg h0]
    rfl
  unfold Fits at hf
  obtain ⟨X, HX⟩ : ∃ X, Hid (bs (whoL a r) = X) := ⟨_, rfl⟩
  have hxz : X.size ≤ 64 := by rw [← HX.out, bs_size]; exact sumT_len _ _
  have h1 : ∀ W, Hid (Tabs W) → ∀ b, b = W.heap.size → Calls Tryf.prog 7 #[.int .i64 a.scheme, .slice (some ⟨b, 0, none⟩) 3 3] (W.alloc (.cells #[.string r.user, .string a.realm, .string r.pass] 9)) fun e w' => e = .returned (.string X) ∧ Below W.heap.size W w' := fun W HT b hb => by rw [← HX.out]; exact sum3 a.scheme r.user a.realm r.pass (by omega) W HT b hb
  obtain ⟨Y, HY⟩ : ∃ Y, Hid (bs (sumT a.scheme [r.method.data.toList, r.target.data.toList]) = Y) := ⟨_, rfl⟩
  have hyz : Y.size ≤ 64 := by rw [← HY.out, bs_size]; exact sumT_len _ _
  have h2 : ∀ W, Hid (Tabs W) → ∀ b, b = W.heap.size → Calls Tryf.prog 7 #[.int .i64 a.scheme, .slice (some ⟨b, 0, none⟩) 2 2] (W.alloc (.cells #[.string r.method, .string r.target] 9)) fun e w' => e = .returned (.string Y) ∧ Below W.heap.size W w' := fun W HT b hb => by rw [← HY.out]; exact sum2 a.scheme r.method r.target (by omega) W HT b hb
  have HE : Hid (bs (sumT a.scheme [X.data.toList, a.nonce.data.toList, Y.data.toList]) = bs (respL a r n)) := by
    show _ = _
    rw [HR.out, ← HX.out, bs_data, ← HY.out, bs_data]
  have h3 : ∀ W, Hid (Tabs W) → ∀ b, b = W.heap.size → Calls Tryf.prog 7 #[.int .i64 a.scheme, .slice (some ⟨b, 0, none⟩) 3 3] (W.alloc (.cells #[.string X, .string a.nonce, .string Y] 9)) fun e w' => e = .returned (.string (bs (respL a r n))) ∧ Below W.heap.size W w' := fun W HT b hb => by rw [← HE.out]; exact sum3 a.scheme X a.nonce Y (by omega) W HT b hb
  have HK0 : Hid (PfK w _ a r) := HK
  clear HK hq
  rw [hs]
  rw [hs] at HK0
  obtain ⟨c0, c1, c2, c4, c5, d0, d1, _, _, _⟩ := HK0.out
  rw [HQE.out] at c5
  rw [hs] at c4
  go_enter Tryf.func5, Tryf.ntmps5
  go_wp2_with fail
  refine (h1 _ HK0.out.tabs _ (by simp)).mono ?_
  rintro e w1 ⟨rfl, hb1⟩
  have HK1 : Hid (PfK w w1 a r) := HK0.out.below hb1
  clear hb1 c0 c1 c2 c4 c5 d0 d1
  obtain ⟨c0, c1, c2, c4, c5, d0, d1, _, _, _⟩ := HK1.out
  rw [HQE.out] at c5
  rw [hs] at c4
  go_wp2_with fail
  refine (h2 _ HK1.out.tabs _ (by simp)).mono ?_
  rintro e w2 ⟨rfl, hb2⟩
  have HK2 : Hid (PfK w w2 a r) := HK1.out.below hb2
  clear hb2 c0 c1 c2 c4 c5 d0 d1
  obtain ⟨c0, c1, c2, c4, c5, d0, d1, _, _, _⟩ := HK2.out
  rw [HQE.out] at c5
  rw [hs] at c4
  go_wp2_with fail
  refine (h3 _ HK2.out.tabs _ (by simp)).mono ?_
  rintro e w3 ⟨rfl, hb3⟩
  have HK3 : Hid (PfK w w3 a r) := HK2.out.below hb3
  clear hb3 c0 c1 c2 c4 c5 d0 d1
  go_wp2
  go_ret
  exact ⟨rfl, HK3.out.bel⟩
set_option maxRecDepth 100000 in
set_option maxHeartbeats 4000000 in
theorem resp_full_no (a : PfA) (r : PfR) (st : Bool) (dv : Value) (n : Nat) (hn : n < 9223372036854775808) (hf : Fits a r) (hs : a.sess = false) (hq : a.qop.data.toList ≠ []) (hi : a.qop.data.toList ≠ qInt) (w : World) (HT : Hid (Tabs w)) :
    Calls Tryf.prog 5 #[.agg #[.int .i64 a.scheme, .string a.realm, .string a.nonce, .string a.opq, .bool a.sess, .string a.qop, .bool st, dv], .agg #[.string r.user, .string r.pass], .string r.method, .string r.target, .string r.body, .string r.cnonce, .int .i64 (n : Int)] w fun e w' => e = .returned (.string (bs (respL a r n))) ∧ Below w.heap.size w w' := by
  have HK := pfK_start w a r st dv HT
  have hq1 := not_list a.qop _ hi
  have hq2 := not_empty a.qop hq
  unfold qInt at hq1
  have HR : Hid (respL a r n = sumT a.scheme [whoL a r, a.nonce.data.toList, countL n, r.cnonce.data.toList, a.qop.data.toList, sumT a.scheme [r.method.data.toList, r.target.data.toList]]) := by
    show _ = _
    unfold respL oneL twoL
    rw [if_neg hq, hs, if_neg hi]
    rfl
  unfold Fits at hf
  obtain ⟨X, HX⟩ : ∃ X, Hid (bs (whoL a r) = X) := ⟨_, rfl⟩
  have hxz : X.size ≤ 64 := by rw [← HX.out, bs_size]; exact sumT_len _ _
  have h1 : ∀ W, Hid (Tabs W) → ∀ b, b = W.heap.size → Calls Tryf.prog 7 #[.int .i64 a.scheme, .slice (some ⟨b, 0, none⟩) 3 3] (W.alloc (.cells #[.string r.user, .string a.realm, .string r.pass] 9)) fun e w' => e = .returned (.string X) ∧ Below W.heap.size W w' := fun W HT b hb => by rw [← HX.out]; exact sum3 a.scheme r.user a.realm r.pass (by omega) W HT b hb
  obtain ⟨Y, HY⟩ : ∃ Y, Hid (bs (sumT a.scheme [r.method.data.toList, r.target.data.toList]) = Y) := ⟨_, rfl⟩
  have hyz : Y.size ≤ 64 := by rw [← HY.out, bs_size]; exact sumT_len _ _
  have h2 : ∀ W, Hid (Tabs W) → ∀ b, b = W.heap.size → Calls Tryf.prog 7 #[.int .i64 a.scheme, .slice (some ⟨b, 0, none⟩) 2 2] (W.alloc (.cells #[.string r.method, .string r.target] 9)) fun e w' => e = .returned (.string Y) ∧ Below W.heap.size W w' := fun W HT b hb => by rw [← HY.out]; exact sum2 a.scheme r.method r.target (by omega) W HT b hb
  obtain ⟨C, HC⟩ : ∃ C, Hid (bs (countL n) = C) := ⟨_, rfl⟩
  have hcz : C.size ≤ 16 := by rw [← HC.out, bs_size]; exact countL_len _
  have h4 : ∀ w, Hid (Bruijn w) → Calls Tryf.prog 8 #[.int .i64 (n : Int)] w fun e w' => e = .returned (.string C) ∧ Below w.heap.size w w' := fun w HD => by rw [← HC.out]; exact count_any n hn w HD
  have HE : Hid (bs (sumT a.scheme [X.data.toList, a.nonce.data.toList, C.data.toList, r.cnonce.data.toList, a.qop.data.toList, Y.data.toList]) = bs (respL a r n)) := by
    show _ = _
    rw [HR.out, ← HX.out, bs_data, ← HY.out, bs_data, ← HC.out, bs_data]
  have h3 : ∀ W, Hid (Tabs W) → ∀ b, b = W.heap.size → Calls Tryf.prog 7 #[.int .i64 a.scheme, .slice (some ⟨b, 0, none⟩) 6 6] (W.alloc (.cells #[.string X, .string a.nonce, .string C, .string r.cnonce, .string a.qop, .string Y] 9)) fun e w' => e = .returned (.string (bs (respL a r n))) ∧ Below W.heap.size W w' := fun W HT b hb => by rw [← HE.out]; exact sum6 a.scheme X a.nonce C r.cnonce a.qop Y (by omega) W HT b hb
  have HK0 : Hid (PfK w _ a r) := HK
  clear HK hq hi
  rw [hs]
  rw [hs] at HK0
  obtain ⟨c0, c1, c2, c4, c5, d0, d1, _, _, _⟩ := HK0.out
  rw [hs] at c4
  go_enter Tryf.func5, Tryf.ntmps5
  go_wp2_with fail
  refine (h1 _ HK0.out.tabs _ (by simp)).mono ?_
  rintro e w1 ⟨rfl, hb1⟩
  have HK1 : Hid (PfK w w1 a r) := HK0.out.below hb1
  clear hb1 c0 c1 c2 c4 c5 d0 d1
  obtain ⟨c0, c1, c2, c4, c5, d0, d1, _, _, _⟩ := HK1.out
  rw [hs] at c4
  go_wp2_with fail
  refine (h2 _ HK1.out.tabs _ (by simp)).mono ?_
  rintro e w2 ⟨rfl, hb2⟩
  have HK2 : Hid (PfK w w2 a r) := HK1.out.below hb2
  clear hb2 c0 c1 c2 c4 c5 d0 d1
  obtain ⟨c0, c1, c2, c4, c5, d0, d1, _, _, _⟩ := HK2.out
  rw [hs] at c4
  have hQ : w2.drew.cell? ⟨w.heap.size, 0, none⟩ = some (.int .i64 a.scheme) ∧ w2.drew.cell? ⟨w.heap.size, 2, none⟩ = some (.string a.nonce) ∧ w2.drew.cell? ⟨w.heap.size, 5, none⟩ = some (.string a.qop) ∧ Hid (PfK w (w2.drew) a r) := (HK2.out.drew).held
  go_wp2
  go_region_held3 (fun W => W.cell? ⟨w.heap.size, 0, none⟩ = some (.int .i64 a.scheme) ∧ W.cell? ⟨w.heap.size, 2, none⟩ = some (.string a.nonce) ∧ W.cell? ⟨w.heap.size, 5, none⟩ = some (.string a.qop) ∧ Hid (PfK w W a r)) (first | (with_reducible assumption) | (refine heldA ?_ _; with_reducible assumption) | (refine heldA ?_ _; with_reducible assumption)) (first
    | (go_at_call 8; refine (h4 _ HK2.out.drew.tabs.bruijn).mono ?_; rintro e wc ⟨rfl, hbc⟩; have hKc := HK2.out.drew.below hbc; have hQc : wc.cell? ⟨w.heap.size, 0, none⟩ = some (.int .i64 a.scheme) ∧ wc.cell? ⟨w.heap.size, 2, none⟩ = some (.string a.nonce) ∧ wc.cell? ⟨w.heap.size, 5, none⟩ = some (.string a.qop) ∧ Hid (PfK w (wc) a r) := (hKc).held)
    | (go_at_call 7; refine (h3 _ hKc.tabs _ rfl).mono ?_; rintro e wd ⟨rfl, hbd⟩; have hKd := hKc.below hbd; have hQd : wd.cell? ⟨w.heap.size, 0, none⟩ = some (.int .i64 a.scheme) ∧ wd.cell? ⟨w.heap.size, 2, none⟩ = some (.string a.nonce) ∧ wd.cell? ⟨w.heap.size, 5, none⟩ = some (.string a.qop) ∧ Hid (PfK w (wd) a r) := (hKd).held))
  go_wp2
  go_ret
  exact ⟨rfl, hKd.bel⟩
set_option maxRecDepth 100000 in
set_option maxHeartbeats 4000000 in
theorem resp_plain_sess (a : PfA) (r : PfR) (st : Bool) (dv : Value) (n : Nat) (_hn : n < 9223372036854775808) (hf : Fits a r) (hs : a.sess = true) (hq : a.qop.data.toList = []) (w : World) (HT : Hid (Tabs w)) :
    Calls Tryf.prog 5 #[.agg #[.int .i64 a.scheme, .string a.realm, .string a.nonce, .string a.opq, .bool a.sess, .string a.qop, .bool st, dv], .agg #[.string r.user, .string r.pass], .string r.method, .string r.target, .string r.body, .string r.cnonce, .int .i64 (n : Int)] w fun e w' => e = .returned (.string (bs (respL a r n))) ∧ Below w.heap.size w w' := by
  have HK := pfK_start w a r st dv HT
  have HQE : Hid (a.qop = ⟨#[]⟩) := by show _ = _; rw [← bs_self a.qop, hq]; rfl
  have HR : Hid (respL a r n = sumT a.scheme [sumT a.scheme [whoL a r, a.nonce.data.toList, r.cnonce.data.toList], a.nonce.data.toList, sumT a.scheme [r.method.data.toList, r.target.data.toList]]) := by
    show _ = _
    unfold respL oneL twoL
    have h0 : ¬ ([] : List UInt8) = qInt := by decide
    rw [if_pos hq, hs, hq, if_neg h0]
    rfl
  unfold Fits at hf
  obtain ⟨X, HX⟩ : ∃ X, Hid (bs (whoL a r) = X) := ⟨_, rfl⟩
  have hxz : X.size ≤ 64 := by rw [← HX.out, bs_size]; exact sumT_len _ _
  have h1 : ∀ W, Hid (Tabs W) → ∀ b, b = W.heap.size → Calls Tryf.prog 7 #[.int .i64 a.scheme, .slice (some ⟨b, 0, none⟩) 3 3] (W.alloc (.cells #[.string r.user, .string a.realm, .string r.pass] 9)) fun e w' => e = .returned (.string X) ∧ Below W.heap.size W w' := fun W HT b hb => by rw [← HX.out]; exact sum3 a.scheme r.user a.realm r.pass (by omega) W HT b hb
  obtain ⟨Z, HZ⟩ : ∃ Z, Hid (bs (sumT a.scheme [X.data.toList, a.nonce.data.toList, r.cnonce.data.toList]) = Z) := ⟨_, rfl⟩
  have hzz : Z.size ≤ 64 := by rw [← HZ.out, bs_size]; exact sumT_len _ _
  have hS : ∀ W, Hid (Tabs W) → ∀ b, b = W.heap.size → Calls Tryf.prog 7 #[.int .i64 a.scheme, .slice (some ⟨b, 0, none⟩) 3 3] (W.alloc (.cells #[.string X, .string a.nonce, .string r.cnonce] 9)) fun e w' => e = .returned (.string Z) ∧ Below W.heap.size W w' := fun W HT b hb => by rw [← HZ.out]; exact sum3 a.scheme X a.nonce r.cnonce (by omega) W HT b hb
  obtain ⟨Y, HY⟩ : ∃ Y, Hid (bs (sumT a.scheme [r.method.data.toList, r.target.data.toList]) = Y) := ⟨_, rfl⟩
  have hyz : Y.size ≤ 64 := by rw [← HY.out, bs_size]; exact sumT_len _ _
  have h2 : ∀ W, Hid (Tabs W) → ∀ b, b = W.heap.size → Calls Tryf.prog 7 #[.int .i64 a.scheme, .slice (some ⟨b, 0, none⟩) 2 2] (W.alloc (.cells #[.string r.method, .string r.target] 9)) fun e w' => e = .returned (.string Y) ∧ Below W.heap.size W w' := fun W HT b hb => by rw [← HY.out]; exact sum2 a.scheme r.method r.target (by omega) W HT b hb
  have HE : Hid (bs (sumT a.scheme [Z.data.toList, a.nonce.data.toList, Y.data.toList]) = bs (respL a r n)) := by
    show _ = _
    rw [HR.out, ← HZ.out, bs_data, ← HX.out, bs_data, ← HY.out, bs_data]
  have h3 : ∀ W, Hid (Tabs W) → ∀ b, b = W.heap.size → Calls Tryf.prog 7 #[.int .i64 a.scheme, .slice (some ⟨b, 0, none⟩) 3 3] (W.alloc (.cells #[.string Z, .string a.nonce, .string Y] 9)) fun e w' => e = .returned (.string (bs (respL a r n))) ∧ Below W.heap.size W w' := fun W HT b hb => by rw [← HE.out]; exact sum3 a.scheme Z a.nonce Y (by omega) W HT b hb
  have HK0 : Hid (PfK w _ a r) := HK
  clear HK hq
  rw [hs]
  rw [hs] at HK0
  obtain ⟨c0, c1, c2, c4, c5, d0, d1, _, _, _⟩ := HK0.out
  rw [HQE.out] at c5
  rw [hs] at c4
  go_enter Tryf.func5, Tryf.ntmps5
  go_wp2_with fail
  refine (h1 _ HK0.out.tabs _ (by simp)).mono ?_
  rintro e w1 ⟨rfl, hb1⟩
  have HK1 : Hid (PfK w w1 a r) := HK0.out.below hb1
  clear hb1 c0 c1 c2 c4 c5 d0 d1
  obtain ⟨c0, c1, c2, c4, c5, d0, d1, _, _, _⟩ := HK1.out
  rw [HQE.out] at c5
  rw [hs] at c4
  go_wp2_with fail
  refine (hS _ HK1.out.tabs _ (by simp)).mono ?_
  rintro e w2 ⟨rfl, hb2⟩
  have HK2 : Hid (PfK w w2 a r) := HK1.out.below hb2
  clear hb2 c0 c1 c2 c4 c5 d0 d1
  obtain ⟨c0, c1, c2, c4, c5, d0, d1, _, _, _⟩ := HK2.out
  rw [HQE.out] at c5
  rw [hs] at c4
  go_wp2_with fail
  refine (h2 _ HK2.out.tabs _ (by simp)).mono ?_
  rintro e w3 ⟨rfl, hb3⟩
  have HK3 : Hid (PfK w w3 a r) := HK2.out.below hb3
  clear hb3 c0 c1 c2 c4 c5 d0 d1
  obtain ⟨c0, c1, c2, c4, c5, d0, d1, _, _, _⟩ := HK3.out
  rw [HQE.out] at c5
  rw [hs] at c4
  go_wp2_with fail
  refine (h3 _ HK3.out.tabs _ (by simp)).mono ?_
  rintro e w4 ⟨rfl, hb4⟩
  have HK4 : Hid (PfK w w4 a r) := HK3.out.below hb4
  clear hb4 c0 c1 c2 c4 c5 d0 d1
  go_wp2
  go_ret
  exact ⟨rfl, HK4.out.bel⟩
set_option maxRecDepth 100000 in
set_option maxHeartbeats 4000000 in
theorem resp_full_sess (a : PfA) (r : PfR) (st : Bool) (dv : Value) (n : Nat) (hn : n < 9223372036854775808) (hf : Fits a r) (hs : a.sess = true) (hq : a.qop.data.toList ≠ []) (hi : a.qop.data.toList ≠ qInt) (w : World) (HT : Hid (Tabs w)) :
    Calls Tryf.prog 5 #[.agg #[.int .i64 a.scheme, .string a.realm, .string a.nonce, .string a.opq, .bool a.sess, .string a.qop, .bool st, dv], .agg #[.string r.user, .string r.pass], .string r.method, .string r.target, .string r.body, .string r.cnonce, .int .i64 (n : Int)] w fun e w' => e = .returned (.string (bs (respL a r n))) ∧ Below w.heap.size w w' := by
  have HK := pfK_start w a r st dv HT
  have hq1 := not_list a.qop _ hi
  have hq2 := not_empty a.qop hq
  unfold qInt at hq1
  have HR : Hid (respL a r n = sumT a.scheme [sumT a.scheme [whoL a r, a.nonce.data.toList, r.cnonce.data.toList], a.nonce.data.toList, countL n, r.cnonce.data.toList, a.qop.data.toList, sumT a.scheme [r.method.data.toList, r.target.data.toList]]) := by
    show _ = _
    unfold respL oneL twoL
    rw [if_neg hq, hs, if_neg hi]
    rfl
  unfold Fits at hf
  obtain ⟨X, HX⟩ : ∃ X, Hid (bs (whoL a r) = X) := ⟨_, rfl⟩
  have hxz : X.size ≤ 64 := by rw [← HX.out, bs_size]; exact sumT_len _ _
  have h1 : ∀ W, Hid (Tabs W) → ∀ b, b = W.heap.size → Calls Tryf.prog 7 #[.int .i64 a.scheme, .slice (some ⟨b, 0, none⟩) 3 3] (W.alloc (.cells #[.string r.user, .string a.realm, .string r.pass] 9)) fun e w' => e = .returned (.string X) ∧ Below W.heap.size W w' := fun W HT b hb => by rw [← HX.out]; exact sum3 a.scheme r.user a.realm r.pass (by omega) W HT b hb
  obtain ⟨Z, HZ⟩ : ∃ Z, Hid (bs (sumT a.scheme [X.data.toList, a.nonce.data.toList, r.cnonce.data.toList]) = Z) := ⟨_, rfl⟩
  have hzz : Z.size ≤ 64 := by rw [← HZ.out, bs_size]; exact sumT_len _ _
  have hS : ∀ W, Hid (Tabs W) → ∀ b, b = W.heap.size → Calls Tryf.prog 7 #[.int .i64 a.scheme, .slice (some ⟨b, 0, none⟩) 3 3] (W.alloc (.cells #[.string X, .string a.nonce, .string r.cnonce] 9)) fun e w' => e = .returned (.string Z) ∧ Below W.heap.size W w' := fun W HT b hb => by rw [← HZ.out]; exact sum3 a.scheme X a.nonce r.cnonce (by omega) W HT b hb
  obtain ⟨Y, HY⟩ : ∃ Y, Hid (bs (sumT a.scheme [r.method.data.toList, r.target.data.toList]) = Y) := ⟨_, rfl⟩
  have hyz : Y.size ≤ 64 := by rw [← HY.out, bs_size]; exact sumT_len _ _
  have h2 : ∀ W, Hid (Tabs W) → ∀ b, b = W.heap.size → Calls Tryf.prog 7 #[.int .i64 a.scheme, .slice (some ⟨b, 0, none⟩) 2 2] (W.alloc (.cells #[.string r.method, .string r.target] 9)) fun e w' => e = .returned (.string Y) ∧ Below W.heap.size W w' := fun W HT b hb => by rw [← HY.out]; exact sum2 a.scheme r.method r.target (by omega) W HT b hb
  obtain ⟨C, HC⟩ : ∃ C, Hid (bs (countL n) = C) := ⟨_, rfl⟩
  have hcz : C.size ≤ 16 := by rw [← HC.out, bs_size]; exact countL_len _
  have h4 : ∀ w, Hid (Bruijn w) → Calls Tryf.prog 8 #[.int .i64 (n : Int)] w fun e w' => e = .returned (.string C) ∧ Below w.heap.size w w' := fun w HD => by rw [← HC.out]; exact count_any n hn w HD
  have HE : Hid (bs (sumT a.scheme [Z.data.toList, a.nonce.data.toList, C.data.toList, r.cnonce.data.toList, a.qop.data.toList, Y.data.toList]) = bs (respL a r n)) := by
    show _ = _
    rw [HR.out, ← HZ.out, bs_data, ← HX.out, bs_data, ← HY.out, bs_data, ← HC.out, bs_data]
  have h3 : ∀ W, Hid (Tabs W) → ∀ b, b = W.heap.size → Calls Tryf.prog 7 #[.int .i64 a.scheme, .slice (some ⟨b, 0, none⟩) 6 6] (W.alloc (.cells #[.string Z, .string a.nonce, .string C, .string r.cnonce, .string a.qop, .string Y] 9)) fun e w' => e = .returned (.string (bs (respL a r n))) ∧ Below W.heap.size W w' := fun W HT b hb => by rw [← HE.out]; exact sum6 a.scheme Z a.nonce C r.cnonce a.qop Y (by omega) W HT b hb
  have HK0 : Hid (PfK w _ a r) := HK
  clear HK hq hi
  rw [hs]
  rw [hs] at HK0
  obtain ⟨c0, c1, c2, c4, c5, d0, d1, _, _, _⟩ := HK0.out
  rw [hs] at c4
  go_enter Tryf.func5, Tryf.ntmps5
  go_wp2_with fail
  refine (h1 _ HK0.out.tabs _ (by simp)).mono ?_
  rintro e w1 ⟨rfl, hb1⟩
  have HK1 : Hid (PfK w w1 a r) := HK0.out.below hb1
  clear hb1 c0 c1 c2 c4 c5 d0 d1
  obtain ⟨c0, c1, c2, c4, c5, d0, d1, _, _, _⟩ := HK1.out
  rw [hs] at c4
  go_wp2_with fail
  refine (hS _ HK1.out.tabs _ (by simp)).mono ?_
  rintro e w2 ⟨rfl, hb2⟩
  have HK2 : Hid (PfK w w2 a r) := HK1.out.below hb2
  clear hb2 c0 c1 c2 c4 c5 d0 d1
  obtain ⟨c0, c1, c2, c4, c5, d0, d1, _, _, _⟩ := HK2.out
  rw [hs] at c4
  go_wp2_with fail
  refine (h2 _ HK2.out.tabs _ (by simp)).mono ?_
  rintro e w3 ⟨rfl, hb3⟩
  have HK3 : Hid (PfK w w3 a r) := HK2.out.below hb3
  clear hb3 c0 c1 c2 c4 c5 d0 d1
  obtain ⟨c0, c1, c2, c4, c5, d0, d1, _, _, _⟩ := HK3.out
  rw [hs] at c4
  have hQ : w3.drew.cell? ⟨w.heap.size, 0, none⟩ = some (.int .i64 a.scheme) ∧ w3.drew.cell? ⟨w.heap.size, 2, none⟩ = some (.string a.nonce) ∧ w3.drew.cell? ⟨w.heap.size, 5, none⟩ = some (.string a.qop) ∧ Hid (PfK w (w3.drew) a r) := (HK3.out.drew).held
  go_wp2
  go_region_held3 (fun W => W.cell? ⟨w.heap.size, 0, none⟩ = some (.int .i64 a.scheme) ∧ W.cell? ⟨w.heap.size, 2, none⟩ = some (.string a.nonce) ∧ W.cell? ⟨w.heap.size, 5, none⟩ = some (.string a.qop) ∧ Hid (PfK w W a r)) (first | (with_reducible assumption) | (refine heldA ?_ _; with_reducible assumption) | (refine heldA ?_ _; with_reducible assumption)) (first
    | (go_at_call 8; refine (h4 _ HK3.out.drew.tabs.bruijn).mono ?_; rintro e wc ⟨rfl, hbc⟩; have hKc := HK3.out.drew.below hbc; have hQc : wc.cell? ⟨w.heap.size, 0, none⟩ = some (.int .i64 a.scheme) ∧ wc.cell? ⟨w.heap.size, 2, none⟩ = some (.string a.nonce) ∧ wc.cell? ⟨w.heap.size, 5, none⟩ = some (.string a.qop) ∧ Hid (PfK w (wc) a r) := (hKc).held)
    | (go_at_call 7; refine (h3 _ hKc.tabs _ rfl).mono ?_; rintro e wd ⟨rfl, hbd⟩; have hKd := hKc.below hbd; have hQd : wd.cell? ⟨w.heap.size, 0, none⟩ = some (.int .i64 a.scheme) ∧ wd.cell? ⟨w.heap.size, 2, none⟩ = some (.string a.nonce) ∧ wd.cell? ⟨w.heap.size, 5, none⟩ = some (.string a.qop) ∧ Hid (PfK w (wd) a r) := (hKd).held))
  go_wp2
  go_ret
  exact ⟨rfl, hKd.bel⟩
end Go.Proofs.YtooaiamfbmjmnaaFmt
