/- The header by user and password, by the document; the law ProofBasics, walked. -/
import Derived.Test.YthhbfnfgbonakaaFmtRefBase
import Derived.Test.YthhbfnfgbonakaaFmtBsc
import Derived.Test.YthhbfnfgbonakaaFmtIb
import Derived.Test.YthhbfnfgbonakaaFmtArgK
import Derived.Test.YthhbfnfgbonakaaFmtTell
namespace Go.Proofs.YthhbfnfgbonakaaFmt
open Go.RowKit
open Go.Extern.Stop Go.Stop Go.Extern

/-- What the document's Basic answers. -/
def BasRef (u p : List UInt8) (e : Ending) : Prop :=
  match basO u p with
  | .ok t => e = .returned (.tuple #[.string (bs t), .int .i64 0])
  | .error n => e = .returned (.tuple #[.string ⟨#[]⟩, .int .i64 (n : Int)])
theorem basRef_one {u p : List UInt8} {e : Ending} (h : 58 ∈ u) (he : e = .returned (.tuple #[.string ⟨#[]⟩, .int .i64 1])) : BasRef u p e := by
  unfold BasRef basO
  rw [if_pos h]
  exact he
theorem basRef_three {u p : List UInt8} {e : Ending} (h : 58 ∉ u) (hc : ctlL (u ++ p) = true) (he : e = .returned (.tuple #[.string ⟨#[]⟩, .int .i64 3])) : BasRef u p e := by
  unfold BasRef basO
  rw [if_neg h, if_pos hc]
  exact he
theorem basRef_ok {u p : List UInt8} {e : Ending} (h : 58 ∉ u) (hc : ctlL (u ++ p) = false) (he : e = .returned (.tuple #[.string (bs (basW ++ enc (credL u p))), .int .i64 0])) : BasRef u p e := by
  unfold BasRef basO
  rw [if_neg h, if_neg (by rw [hc]; simp)]
  exact he
theorem ctl_snoc (l : List UInt8) (k : Nat) (c : UInt8) (h : k < l.length) (hc : l[k] = c) : ctlL (l.take (k + 1)) = (ctlL (l.take k) || ctlB c) := by
  rw [List.take_succ_eq_append_getElem h, ctlL_append, hc]
  simp [ctlL]
set_option maxRecDepth 100000 in
set_option maxHeartbeats 2000000 in
theorem refBasic_any (F : Interp) (u p : ByteArray) (hz : u.size + p.size ≤ 300) (w : World) (hF : F.told.answers w.tape) :
    Calls Tryf.prog 5 #[.agg #[.string u, .string p]] w fun e w' => BasRef u.data.toList p.data.toList e ∧ Below w.heap.size w w' := by
  have hA : Below w.heap.size w (w.alloc (.cells #[.string u, .string p] 23)) := (Below.refl _ _).alloc (Nat.le_refl _) _
  have hz0 : (w.alloc (.cells #[.string u, .string p] 23)).heap.size = w.heap.size + 1 := by simp
  have HC : Hid (∀ i, (w.alloc (.cells #[.string u, .string p] 23)).cell? ⟨w.heap.size, i, none⟩ = #[.string u, .string p][i]?) := fun i => World.cell?_alloc_mark _ _ _ _ _
  have hix := fun w => ix_of u 58 58 rfl w
  rcases ixOf_first u.data.toList 58 with ⟨hi, hno⟩ | ⟨k, hk, hi, hno, hsp⟩
  · have H58 : Hid (58 ∉ u.data.toList) := hno
    clear hno
    rw [hi] at hix
    have hsz : (u ++ p).size ≤ 300 := by rw [ByteArray.size_append]; exact hz
    have hdat : (u ++ p).data.toList = u.data.toList ++ p.data.toList := by simp
    have hlen : (u ++ p).data.toList.length = (u ++ p).size := Array.length_toList
    have hcr : (u ++ ⟨#[58]⟩ ++ p).data.toList = credL u.data.toList p.data.toList := by simp [credL]
    have hz2 : (u ++ ⟨#[58]⟩ ++ p).size ≤ 301 := by rw [ByteArray.size_append, ByteArray.size_append]; show u.size + 1 + p.size ≤ 301; omega
    have hbase := fun w hF => refBase_any F (u ++ ⟨#[58]⟩ ++ p) w hF hz2
    rw [hcr] at hbase
    have hez : (bs (enc (credL u.data.toList p.data.toList))).size ≤ 4000 := by
      rw [bs_size, enc_length]
      have e1 : u.data.toList.length = u.size := Array.length_toList
      have e2 : p.data.toList.length = p.size := Array.length_toList
      unfold credL
      rw [List.length_append, List.length_cons]
      omega
    have HE : Hid ((⟨#[66, 97, 115, 105, 99, 32]⟩ : ByteArray) ++ bs (enc (credL u.data.toList p.data.toList)) = bs (basW ++ enc (credL u.data.toList p.data.toList))) := by
      show _ = _
      rw [bs_append]; rfl
    generalize bs (enc (credL u.data.toList p.data.toList)) = X at hbase HE hez
    obtain ⟨T, hT⟩ : ∃ T, u ++ p = T := ⟨_, rfl⟩
    rw [hT] at hsz hdat hlen
    go_enter Tryf.func5, Tryf.ntmps5
    go_wp2_with fail
    generalize w.alloc (.cells #[.string u, .string p] 23) = W0 at hA hz0 HC ⊢
    have HK : Hid (∀ W, Below W0.heap.size W0 W → W.cell? ⟨w.heap.size, 0, none⟩ = some (.string u) ∧ W.cell? ⟨w.heap.size, 1, none⟩ = some (.string p)) := fun W hb => by
      rw [hb.cell (p := ⟨w.heap.size, 0, none⟩) (by show w.heap.size < _; omega), hb.cell (p := ⟨w.heap.size, 1, none⟩) (by show w.heap.size < _; omega), HC.out 0, HC.out 1]
      exact ⟨rfl, rfl⟩
    obtain ⟨k0, k1⟩ := HK.out W0 (Below.refl _ _)
    refine (hix _).mono ?_
    rintro e w' ⟨rfl, hw⟩
    rw [hw]
    clear hw
    obtain ⟨cap, W1, hconv, hrow, hbel, _⟩ := conv_bytes T W0
    rw [hz0] at hrow
    have HR : Hid (Row W1 (w.heap.size + 1) T.data.toList) := hrow
    have HB1 : Hid (Below W0.heap.size W0 W1) := hbel
    clear hrow hbel
    have hTs : T.size = u.size + p.size := by rw [← hT, ByteArray.size_append]
    have HD : Hid (T.data.toList = u.data.toList ++ p.data.toList) := hdat
    obtain ⟨j0, j1⟩ := HK.out W1 HB1.out
    go_wp2
    go_loop [17] (fun i => ∃ (k : Nat), k ≤ T.size ∧ i = .int .i64 (k : Int) ∧ Hid (ctlL (T.data.toList.take k) = false)) (fun i => T.size - (intOf i).toNat)
    case atStart => exact ⟨0, Nat.zero_le _, rfl, rfl⟩
    case round =>
      obtain ⟨k, hk, rfl, HI⟩ := hrel
      by_cases hlt : k < T.size
      · have hkl : k < T.data.toList.length := by omega
        obtain ⟨c, hcd⟩ : ∃ c : UInt8, T.data.toList[k] = c := ⟨_, rfl⟩
        have hcell := (HR.out k hkl).1
        rw [hcd] at hcell
        have hcl : (c.toNat : Int) < 256 := by have := c.toNat_lt; omega
        have HS : Hid (ctlL (T.data.toList.take (k + 1)) = ctlB c) := by
          show _ = _
          rw [ctl_snoc _ k c hkl hcd, HI.out]
          rfl
        have HY : Hid (ctlB c = true → ctlL (u.data.toList ++ p.data.toList) = true) := fun h => by
          rw [← HD.out]
          exact List.any_eq_true.2 ⟨c, by rw [← hcd]; exact List.getElem_mem _, h⟩
        clear hcd
        by_cases h1 : (c.toNat : Int) < 32
        · have HQ : Hid (ctlL (u.data.toList ++ p.data.toList) = true) := HY.out (by simp [ctlB]; omega)
          go_wp2
          go_ret2
          exact ⟨basRef_three H58.out HQ.out rfl, hA.trans (HB1.out.mono hA.size)⟩
        · by_cases h2 : (c.toNat : Int) = 127
          · have HQ : Hid (ctlL (u.data.toList ++ p.data.toList) = true) := HY.out (by
              have : c = 127 := by
                rw [← UInt8.toNat_inj]
                show c.toNat = 127
                omega
              subst this
              decide)
            go_wp2
            go_ret2
            exact ⟨basRef_three H58.out HQ.out rfl, hA.trans (HB1.out.mono hA.size)⟩
          · have HN : Hid (ctlL (T.data.toList.take (k + 1)) = false) := by
              show _ = _
              rw [HS.out]
              have h3 : c ≠ 127 := fun e => h2 (by rw [e]; rfl)
              simp [ctlB, h3]
              omega
            have h2' : ((c.toNat : Int) == 127) = false := by simp [h2]
            go_wp2
            go_round
            case rel => exact ⟨k + 1, by omega, by go_num, HN⟩
            case measure => simp [intOf]; omega
      · have HQ : Hid (ctlL (u.data.toList ++ p.data.toList) = false) := by
          show _ = _
          have := HI.out
          rw [List.take_of_length_le (by omega), HD.out] at this
          exact this
        go_wp2_with fail
        refine (hbase _ (by rw [HB1.out.tape, hA.tape]; exact hF)).mono ?_
        rintro e w2 ⟨rfl, hb2⟩
        have HB2 : Hid (Below W0.heap.size W0 w2) := HB1.out.trans (hb2.mono HB1.out.size)
        clear hb2
        go_wp2
        go_ret2
        exact ⟨basRef_ok H58.out HQ.out (by rw [← HE.out]; rfl), hA.trans (HB2.out.mono hA.size)⟩
  · have H58 : Hid (58 ∈ u.data.toList) := by rw [hsp]; exact List.mem_append_right _ (List.mem_cons_self ..)
    clear hno hsp
    rw [hi] at hix
    have hk0 : (0 : Int) ≤ (k : Int) := by omega
    go_enter Tryf.func5, Tryf.ntmps5
    go_wp2_with fail
    refine (hix _).mono ?_
    rintro e w' ⟨rfl, rfl⟩
    go_wp2
    go_ret2
    exact ⟨basRef_one H58.out rfl, hA⟩
set_option maxRecDepth 100000 in
set_option maxHeartbeats 2000000 in
theorem basics_walk (F : Interp) (u p : ByteArray) (zc : CredZ u p) (w : World) (hF : F.told.answers w.tape) (hg : ErrT w) :
    Calls Tryf.prog 3 #[.agg #[.string u, .string p]] w fun e w' => e = .returned (.bool true) ∧ Below w.heap.size w w' := by
  obtain ⟨zu, zp⟩ := zc
  have HG : Hid (ErrT w) := hg
  clear hg
  have hA : Below w.heap.size w (w.alloc (.cells #[.string u, .string p] 23)) := (Below.refl _ _).alloc (Nat.le_refl _) _
  have hz0 : (w.alloc (.cells #[.string u, .string p] 23)).heap.size = w.heap.size + 1 := by simp
  have HC : Hid (∀ i, (w.alloc (.cells #[.string u, .string p] 23)).cell? ⟨w.heap.size, i, none⟩ = #[.string u, .string p][i]?) := fun i => World.cell?_alloc_mark _ _ _ _ _
  by_cases h300 : u.size + p.size ≤ 300
  · have hi : ¬ (300 : Int) < (u.size : Int) + (p.size : Int) := by omega
    go_enter Tryf.func3, Tryf.ntmps3
    go_wp2_with fail
    generalize w.alloc (.cells #[.string u, .string p] 23) = W0 at hA hz0 HC ⊢
    have HK : Hid (∀ W, Below W0.heap.size W0 W → W.cell? ⟨w.heap.size, 0, none⟩ = some (.string u) ∧ W.cell? ⟨w.heap.size, 1, none⟩ = some (.string p)) := fun W hb => by
      rw [hb.cell (p := ⟨w.heap.size, 0, none⟩) (by show w.heap.size < _; omega), hb.cell (p := ⟨w.heap.size, 1, none⟩) (by show w.heap.size < _; omega), HC.out 0, HC.out 1]
      exact ⟨rfl, rfl⟩
    refine (refBasic_any F u p h300 _ (by rw [hA.tape]; exact hF)).mono ?_
    rintro e w1 ⟨ha, hb1⟩
    have HB1 : Hid (Below W0.heap.size W0 w1) := hb1
    clear hb1
    obtain ⟨k0, k1⟩ := HK.out w1 HB1.out
    unfold BasRef at ha
    have hba := fun w => basic_any u p (by omega) w
    unfold BasAns at hba
    have hcase : (basO u.data.toList p.data.toList = .error 1 ∨ basO u.data.toList p.data.toList = .error 3) ∨ ∃ t, basO u.data.toList p.data.toList = .ok t := by
      unfold basO
      split
      · exact .inl (.inl rfl)
      · split
        · exact .inl (.inr rfl)
        · exact .inr ⟨_, rfl⟩
    rcases hcase with (h | h) | ⟨t, h⟩
    · simp only [h] at ha hba
      subst ha
      go_wp2_with fail
      refine (hba _).mono ?_
      rintro e w2 ⟨rfl, hb2⟩
      have HB2 : Hid (Below W0.heap.size W0 w2) := HB1.out.trans (hb2.mono HB1.out.size)
      clear hb2
      go_wp2_with fail
      refine (bare_arg _ (HG.out.below (hA.trans (HB2.out.mono hA.size)))).mono ?_
      rintro e w3 ⟨rfl, hb3⟩
      have HB3 : Hid (Below W0.heap.size W0 w3) := HB2.out.trans (hb3.mono HB2.out.size)
      clear hb3
      go_wp2
      go_ret
      exact ⟨by first | rfl | simp, hA.trans (HB3.out.mono hA.size)⟩
    · simp only [h] at ha hba
      subst ha
      go_wp2_with fail
      refine (hba _).mono ?_
      rintro e w2 ⟨rfl, hb2⟩
      have HB2 : Hid (Below W0.heap.size W0 w2) := HB1.out.trans (hb2.mono HB1.out.size)
      clear hb2
      go_wp2_with fail
      refine (bare_form _ (HG.out.below (hA.trans (HB2.out.mono hA.size)))).mono ?_
      rintro e w3 ⟨rfl, hb3⟩
      have HB3 : Hid (Below W0.heap.size W0 w3) := HB2.out.trans (hb3.mono HB2.out.size)
      clear hb3
      go_wp2
      go_ret
      exact ⟨by first | rfl | simp, hA.trans (HB3.out.mono hA.size)⟩
    · simp only [h] at ha hba
      subst ha
      generalize bs t = X at hba ⊢
      go_wp2_with fail
      refine (hba _).mono ?_
      rintro e w2 ⟨rfl, hb2⟩
      have HB2 : Hid (Below W0.heap.size W0 w2) := HB1.out.trans (hb2.mono HB1.out.size)
      clear hb2
      go_wp2_with fail
      refine (bare_nil _).mono ?_
      rintro e w3 ⟨rfl, hb3⟩
      have HB3 : Hid (Below W0.heap.size W0 w3) := HB2.out.trans (hb3.mono HB2.out.size)
      clear hb3
      go_wp2
      go_ret
      exact ⟨by first | rfl | simp, hA.trans (HB3.out.mono hA.size)⟩
  · have hi : (300 : Int) < (u.size : Int) + (p.size : Int) := by omega
    go_enter Tryf.func3, Tryf.ntmps3
    go_wp2
    go_ret
    exact ⟨rfl, hA⟩
end Go.Proofs.YthhbfnfgbonakaaFmt
