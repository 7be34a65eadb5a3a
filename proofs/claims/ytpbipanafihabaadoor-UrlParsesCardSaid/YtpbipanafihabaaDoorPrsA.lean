/- The law UrlParses, walked: the URL that any text is, by the program and by the document's own answer, texts that are too long among them. -/
import Derived.Test.YtpbipanafihabaaDoorPrs
import Derived.Test.YtpbipanafihabaaDoorRefPrs
import Derived.Test.YtpbipanafihabaaDoorTell
import Derived.Deep.Cut
namespace Go.Proofs.YtpbipanafihabaaDoor
open Go.RowKit

def parseA (s : ByteArray) : Int ⊕ (Bool × List UInt8 × Int × List UInt8 × List UInt8) := if 3000 < s.size then .inl 4 else parseL s.data.toList
abbrev zeroU : Obj := .cells #[.bool false, .string ⟨#[]⟩, .int .i64 0, .string ⟨#[]⟩, .string ⟨#[]⟩] 34

set_option maxRecDepth 100000 in
set_option maxHeartbeats 1000000 in
theorem refParse_lim (s : ByteArray) (hl : 3000 < (s.size : Int)) (w : World) :
    Calls Tryd.prog 9 #[.string s] w fun e w' => Below w.heap.size w w' ∧ e = .returned (.tuple #[.agg #[.bool false, .string ⟨#[]⟩, .int .i64 0, .string ⟨#[]⟩, .string ⟨#[]⟩], .int .i64 4]) := by
  have hb0 : Below w.heap.size w (w.alloc zeroU) := (Below.refl _ _).alloc (Nat.le_refl _) _
  go_enter Tryd.func9, Tryd.ntmps9
  go_wp2
  (try simp only [Exit.inBlock, Exit.then])
  refine bodyPost_ret (v := .tuple #[.agg #[.bool false, .string ⟨#[]⟩, .int .i64 0, .string ⟨#[]⟩, .string ⟨#[]⟩], .int .i64 4]) ?_ rfl ⟨hb0, rfl⟩
  simp [results, Tryd.f9, go_sem]

set_option maxRecDepth 100000 in
set_option maxHeartbeats 1000000 in
theorem parse_lim (s : ByteArray) (hl : 3000 < (s.size : Int)) (w : World) :
    Calls Tryd.prog 10 #[.string s] w fun e w' => Below w.heap.size w w' ∧ e = .returned (.tuple #[.agg #[.bool false, .string ⟨#[]⟩, .int .i64 0, .string ⟨#[]⟩, .string ⟨#[]⟩], .iface 24 (.int .i64 4)]) := by
  have hb0 : Below w.heap.size w (w.alloc zeroU) := (Below.refl _ _).alloc (Nat.le_refl _) _
  go_enter Tryd.func10, Tryd.ntmps10
  go_wp2
  (try simp only [Exit.inBlock, Exit.then])
  refine bodyPost_ret (v := .tuple #[.agg #[.bool false, .string ⟨#[]⟩, .int .i64 0, .string ⟨#[]⟩, .string ⟨#[]⟩], .iface 24 (.int .i64 4)]) ?_ rfl ⟨hb0, rfl⟩
  simp [results, Tryd.f10, go_sem]

theorem refParse_all (s : ByteArray) (hs : s.size ≤ 500 ∨ 3000 < s.size) (w : World) (h : Schemes w) (hM : MaxL w) :
    Calls Tryd.prog 9 #[.string s] w fun e w' => Below w.heap.size w w' ∧
      ((∃ (sec : Bool) (h p q : ByteArray) (n : Int), e = .returned (.tuple #[.agg #[.bool sec, .string h, .int .i64 n, .string p, .string q], .int .i64 0]) ∧ parseA s = .inr (sec, h.data.toList, n, p.data.toList, q.data.toList)) ∨
       (∃ c : Int, e = .returned (.tuple #[.agg #[.bool false, .string ⟨#[]⟩, .int .i64 0, .string ⟨#[]⟩, .string ⟨#[]⟩], .int .i64 c]) ∧ parseA s = .inl c)) := by
  rcases hs with hs | hs
  · refine (refParse_any s hs w h hM).mono ?_
    rintro e w' ⟨hb, ha⟩
    have e1 : parseA s = parseL s.data.toList := if_neg (by omega)
    rw [e1]
    exact ⟨hb, ha⟩
  · refine (refParse_lim s (by omega) w).mono ?_
    rintro e w' ⟨hb, rfl⟩
    exact ⟨hb, .inr ⟨4, rfl, if_pos hs⟩⟩
theorem parse_all (s : ByteArray) (hs : s.size ≤ 500 ∨ 3000 < s.size) (w : World) (h : Schemes w) :
    Calls Tryd.prog 10 #[.string s] w fun e w' => Below w.heap.size w w' ∧
      ((∃ (sec : Bool) (h p q : ByteArray) (n : Int), e = .returned (.tuple #[.agg #[.bool sec, .string h, .int .i64 n, .string p, .string q], .nilIface]) ∧ parseA s = .inr (sec, h.data.toList, n, p.data.toList, q.data.toList)) ∨
       (∃ c : Int, e = .returned (.tuple #[.agg #[.bool false, .string ⟨#[]⟩, .int .i64 0, .string ⟨#[]⟩, .string ⟨#[]⟩], .iface 24 (.int .i64 c)]) ∧ parseA s = .inl c)) := by
  rcases hs with hs | hs
  · refine (parse_any s (by omega) w h).mono ?_
    rintro e w' ⟨hb, ha⟩
    have e1 : parseA s = parseL s.data.toList := if_neg (by omega)
    rw [e1]
    exact ⟨hb, ha⟩
  · refine (parse_lim s (by omega) w).mono ?_
    rintro e w' ⟨hb, rfl⟩
    exact ⟨hb, .inr ⟨4, rfl, if_pos hs⟩⟩
set_option maxHeartbeats 800000 in
theorem bare_no (n : Int) (w : World) (hg : ErrT w) : Calls Tryd.prog 8 #[.iface 24 (.int .i64 n), .int .i64 n] w fun e w' => e = .returned (.bool true) ∧ Below w.heap.size w w' := by
  go_enter Tryd.func8, Tryd.ntmps8
  go_wp2_with (go_at_call 22; refine (place_no n _ hg).mono ?_; rintro e w1 ⟨rfl, hb⟩)
  go_ret
  exact ⟨rfl, hb⟩
/-- Five cells of a block. -/
structure C5 (W : World) (b : Nat) (v0 v1 v2 v3 v4 : Value) : Prop where
  c0 : W.cell? ⟨b, 0, none⟩ = some v0
  c1 : W.cell? ⟨b, 1, none⟩ = some v1
  c2 : W.cell? ⟨b, 2, none⟩ = some v2
  c3 : W.cell? ⟨b, 3, none⟩ = some v3
  c4 : W.cell? ⟨b, 4, none⟩ = some v4
theorem C5.step {W W' : World} {b : Nat} {v0 v1 v2 v3 v4 : Value} (h : C5 W b v0 v1 v2 v3 v4) (hb : Below W.heap.size W W') : C5 W' b v0 v1 v2 v3 v4 :=
  ⟨(hb.cell (p := ⟨b, 0, none⟩) (lt_of_cell h.c0)).trans h.c0, (hb.cell (p := ⟨b, 1, none⟩) (lt_of_cell h.c1)).trans h.c1, (hb.cell (p := ⟨b, 2, none⟩) (lt_of_cell h.c2)).trans h.c2, (hb.cell (p := ⟨b, 3, none⟩) (lt_of_cell h.c3)).trans h.c3, (hb.cell (p := ⟨b, 4, none⟩) (lt_of_cell h.c4)).trans h.c4⟩
theorem c5_new (W : World) (v0 v1 v2 v3 v4 : Value) (t : TypeId) : C5 (W.alloc (.cells #[v0, v1, v2, v3, v4] t)) W.heap.size v0 v1 v2 v3 v4 := ⟨cells_new _ _ _ 0, cells_new _ _ _ 1, cells_new _ _ _ 2, cells_new _ _ _ 3, cells_new _ _ _ 4⟩

set_option maxRecDepth 100000 in
set_option maxHeartbeats 2000000 in
theorem urlParses_walk (s : ByteArray) (_hs : s.size ≤ 140737488355328) (w : World) (h : Schemes w) (hg : ErrT w) (hM : MaxL w) :
    Calls Tryd.prog 4 #[.string s] w fun e w' => e = .returned (.bool true) ∧ Below w.heap.size w w' := by
  have HG : Hid (ErrT w) := hg
  have HM : Hid (MaxL w) := hM
  have HC : Hid (Schemes w) := h
  clear hg hM h
  by_cases hA : (500 : Int) < (s.size : Int) ∧ (s.size : Int) ≤ 3000
  · obtain ⟨h1, h2⟩ := hA
    go_enter Tryd.func4, Tryd.ntmps4
    go_wp2
    go_ret
    exact ⟨rfl, Below.refl _ _⟩
  by_cases hB : (3009 : Int) < (s.size : Int)
  · have h1 : (500 : Int) < (s.size : Int) := by omega
    have h2 : ¬ (s.size : Int) ≤ 3000 := by omega
    clear hA
    go_enter Tryd.func4, Tryd.ntmps4
    go_wp2
    go_ret
    exact ⟨rfl, Below.refl _ _⟩
  have HZ : Hid (s.size ≤ 500 ∨ 3000 < s.size) := by show _ ∨ _; omega
  clear _hs hA
  go_enter Tryd.func4, Tryd.ntmps4
  go_upto_region 1 with fail
  go_cut [19] from 7 (fun v wc => v = .bool false ∧ wc = w)
  case first =>
    rcases HZ.out with hz | hz
    · have h1 : ¬ (500 : Int) < (s.size : Int) := by omega
      clear hz
      go_wp2
      go_meet
      case rel => exact ⟨rfl, rfl⟩
    · have h1 : (500 : Int) < (s.size : Int) := by omega
      have h2 : ¬ (s.size : Int) ≤ 3000 := by omega
      clear hz
      go_wp2
      go_meet
      case rel => exact ⟨rfl, rfl⟩
  case rest =>
    obtain ⟨rfl, rfl⟩ := hcut
    clear hB
    go_wp2_with fail
    refine (refParse_all s HZ.out _ HC.out HM.out).mono ?_
    rintro e w1 ⟨hb1, ⟨sec, x, p, q, n, rfl, ho⟩ | ⟨c, rfl, ho⟩⟩
    · have HO : Hid (parseA s = .inr (sec, x.data.toList, n, p.data.toList, q.data.toList)) := ho
      have HB1 : Hid (Below wc.heap.size wc w1) := hb1
      clear ho hb1
      go_wp2_with fail
      have hbA : Below w1.heap.size w1 (w1.alloc (.cells #[.bool sec, .string x, .int .i64 n, .string p, .string q] 34)) := (Below.refl _ _).alloc (Nat.le_refl _) _
      have HBA : Hid (Below wc.heap.size wc (w1.alloc (.cells #[.bool sec, .string x, .int .i64 n, .string p, .string q] 34))) := HB1.out.trans (hbA.mono HB1.out.size)
      have HC1 : Hid (C5 (w1.alloc (.cells #[.bool sec, .string x, .int .i64 n, .string p, .string q] 34)) w1.heap.size (.bool sec) (.string x) (.int .i64 n) (.string p) (.string q)) := c5_new _ _ _ _ _ _ _
      clear hbA
      refine (parse_all s HZ.out _ (HC.out.below HBA.out (Nat.le_refl _))).mono ?_
      rintro e w2 ⟨hb2, ⟨sec2, x2, p2, q2, n2, rfl, ho2⟩ | ⟨c, rfl, ho2⟩⟩
      · rw [HO.out] at ho2
        simp only [Sum.inr.injEq, Prod.mk.injEq] at ho2
        obtain ⟨rfl, hx, rfl, hp, hq⟩ := ho2
        obtain rfl := data_one hx
        obtain rfl := data_one hp
        obtain rfl := data_one hq
        have HB2 : Hid (Below wc.heap.size wc w2) := HBA.out.trans (hb2.mono HBA.out.size)
        have HC2 : Hid (C5 w2 w1.heap.size (.bool sec) (.string x) (.int .i64 n) (.string p) (.string q)) := HC1.out.step hb2
        clear hb2 hx hp hq HC1
        go_wp2_with fail
        have hbA : Below w2.heap.size w2 (w2.alloc (.cells #[.bool sec, .string x, .int .i64 n, .string p, .string q] 34)) := (Below.refl _ _).alloc (Nat.le_refl _) _
        refine (bare_nil _).mono ?_
        rintro e w3 ⟨rfl, hb3⟩
        have hc1 := (HC2.out.step hbA).step hb3
        have hc2 := (c5_new w2 (.bool sec) (.string x) (.int .i64 n) (.string p) (.string q) 34).step hb3
        have HB3 : Hid (Below wc.heap.size wc w3) := (HB2.out.trans (hbA.mono HB2.out.size)).trans (hb3.mono (Nat.le_trans HB2.out.size hbA.size))
        have a0 := hc1.c0
        have a1 := hc1.c1
        have a2 := hc1.c2
        have a3 := hc1.c3
        have a4 := hc1.c4
        have b0 := hc2.c0
        have b1 := hc2.c1
        have b2 := hc2.c2
        have b3 := hc2.c3
        have b4 := hc2.c4
        clear hc1 hc2 hb3 hbA
        go_wp2
        go_ret
        exact ⟨rfl, HB3.out⟩
      · rw [HO.out] at ho2
        cases ho2
    · have HO : Hid (parseA s = .inl c) := ho
      have HB1 : Hid (Below wc.heap.size wc w1) := hb1
      clear ho hb1
      go_wp2_with fail
      have hbA : Below w1.heap.size w1 (w1.alloc zeroU) := (Below.refl _ _).alloc (Nat.le_refl _) _
      have HBA : Hid (Below wc.heap.size wc (w1.alloc zeroU)) := HB1.out.trans (hbA.mono HB1.out.size)
      have HC1 : Hid (C5 (w1.alloc zeroU) w1.heap.size (.bool false) (.string ⟨#[]⟩) (.int .i64 0) (.string ⟨#[]⟩) (.string ⟨#[]⟩)) := c5_new _ _ _ _ _ _ _
      clear hbA
      refine (parse_all s HZ.out _ (HC.out.below HBA.out (Nat.le_refl _))).mono ?_
      rintro e w2 ⟨hb2, ⟨sec2, x2, p2, q2, n2, rfl, ho2⟩ | ⟨d, rfl, ho2⟩⟩
      · rw [HO.out] at ho2
        cases ho2
      · rw [HO.out] at ho2
        simp only [Sum.inl.injEq] at ho2
        obtain rfl := ho2
        have HB2 : Hid (Below wc.heap.size wc w2) := HBA.out.trans (hb2.mono HBA.out.size)
        have HC2 : Hid (C5 w2 w1.heap.size (.bool false) (.string ⟨#[]⟩) (.int .i64 0) (.string ⟨#[]⟩) (.string ⟨#[]⟩)) := HC1.out.step hb2
        clear hb2 HC1
        go_wp2_with fail
        have hbA : Below w2.heap.size w2 (w2.alloc zeroU) := (Below.refl _ _).alloc (Nat.le_refl _) _
        have HBB : Hid (Below wc.heap.size wc (w2.alloc zeroU)) := HB2.out.trans (hbA.mono HB2.out.size)
        refine (bare_no c _ (HG.out.below HBB.out)).mono ?_
        rintro e w3 ⟨rfl, hb3⟩
        have hc1 := (HC2.out.step hbA).step hb3
        have hc2 := (c5_new w2 (.bool false) (.string ⟨#[]⟩) (.int .i64 0) (.string ⟨#[]⟩) (.string ⟨#[]⟩) 34).step hb3
        have HB3 : Hid (Below wc.heap.size wc w3) := HBB.out.trans (hb3.mono HBB.out.size)
        have a0 := hc1.c0
        have a1 := hc1.c1
        have a2 := hc1.c2
        have a3 := hc1.c3
        have a4 := hc1.c4
        have b0 := hc2.c0
        have b1 := hc2.c1
        have b2 := hc2.c2
        have b3 := hc2.c3
        have b4 := hc2.c4
        clear hc1 hc2 hb3 hbA
        go_wp2
        go_ret
        exact ⟨rfl, HB3.out⟩
end Go.Proofs.YtpbipanafihabaaDoor
