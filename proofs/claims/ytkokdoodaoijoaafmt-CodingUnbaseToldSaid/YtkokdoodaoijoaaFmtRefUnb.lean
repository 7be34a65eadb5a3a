/- The bytes of letters by the document's own answer: bits are read, and it is looked whether that is it. -/
import Derived.Test.YtkokdoodaoijoaaFmtRefBase
import Derived.Test.YtkokdoodaoijoaaFmtUnb
import Derived.Test.YtkokdoodaoijoaaFmtChar
namespace Go.Proofs.YtkokdoodaoijoaaFmt
open Go.RowKit
open Go.Extern.Stop Go.Stop Go.Extern
attribute [local go_sem] call16 fguard fm06b fm06b' op3b

def ltb : List UInt8 → List UInt8
  | [] => []
  | c :: r => bits6 (ixL c).toNat ++ ltb r
def pre (l : List UInt8) : List UInt8 := l.takeWhile fun c => lets.contains c
def eight : List UInt8 → List UInt8
  | b0 :: b1 :: b2 :: b3 :: b4 :: b5 :: b6 :: b7 :: r => UInt8.ofNat (bval [b0, b1, b2, b3, b4, b5, b6, b7]) :: eight r
  | _ => []
theorem ltb_snoc (l : List UInt8) (c : UInt8) : ltb (l ++ [c]) = ltb l ++ bits6 (ixL c).toNat := by
  induction l with
  | nil => simp [ltb]
  | cons a r ih => simp only [List.cons_append, ltb, ih, List.append_assoc]
theorem bits6_01 (n : Nat) : ∀ c ∈ bits6 n, c = 48 ∨ c = 49 := by
  intro c hc
  simp only [bits6, List.mem_cons, List.not_mem_nil, or_false] at hc
  rcases hc with rfl | rfl | rfl | rfl | rfl | rfl <;> exact bit_01 _ _
theorem ltb_01 (l : List UInt8) : ∀ c ∈ ltb l, c = 48 ∨ c = 49 := by
  induction l with
  | nil => intro c hc; cases hc
  | cons a r ih =>
    intro c hc
    rcases List.mem_append.1 hc with hc | hc
    · exact bits6_01 _ c hc
    · exact ih c hc
theorem ltb_length (l : List UInt8) : (ltb l).length = 6 * l.length := by
  induction l with
  | nil => rfl
  | cons a r ih =>
    have : (bits6 (ixL a).toNat).length = 6 := rfl
    simp only [ltb, List.length_append, ih, List.length_cons, this]; omega
theorem bits6_bval (b0 b1 b2 b3 b4 b5 : UInt8) (h0 : b0 = 48 ∨ b0 = 49) (h1 : b1 = 48 ∨ b1 = 49) (h2 : b2 = 48 ∨ b2 = 49) (h3 : b3 = 48 ∨ b3 = 49) (h4 : b4 = 48 ∨ b4 = 49) (h5 : b5 = 48 ∨ b5 = 49) : bits6 (bval [b0, b1, b2, b3, b4, b5]) = [b0, b1, b2, b3, b4, b5] := by
  rcases h0 with rfl | rfl <;> rcases h1 with rfl | rfl <;> rcases h2 with rfl | rfl <;> rcases h3 with rfl | rfl <;> rcases h4 with rfl | rfl <;> rcases h5 with rfl | rfl <;> decide
theorem ltb_six : ∀ B : List UInt8, B.length % 6 = 0 → (∀ c ∈ B, c = 48 ∨ c = 49) → ltb (six B) = B
  | [], _, _ => rfl
  | b0 :: b1 :: b2 :: b3 :: b4 :: b5 :: r, hl, h => by
    have hv := bval_lt [b0, b1, b2, b3, b4, b5] (fun c hc => h c (by simp only [List.mem_cons, List.not_mem_nil, or_false] at hc ⊢; rcases hc with rfl | rfl | rfl | rfl | rfl | rfl <;> simp)) 6 rfl
    have ih := ltb_six r (by simp at hl; omega) (fun c hc => h c (by simp [hc]))
    simp only [six, ltb, ixL_let _ hv, ih, Int.toNat_natCast]
    rw [bits6_bval _ _ _ _ _ _ (h b0 (by simp)) (h b1 (by simp)) (h b2 (by simp)) (h b3 (by simp)) (h b4 (by simp)) (h b5 (by simp))]
    rfl
theorem ltb_core (x : List UInt8) : ltb (core x) = bitsL x ++ List.replicate (zN x) 48 := by
  rw [← six_core]
  refine ltb_six _ ?_ ?_
  · rw [List.length_append, bitsL_length, List.length_replicate]; exact (zN_mod x).1
  · intro c hc
    rcases List.mem_append.1 hc with hc | hc
    · exact bitsL_01 _ c hc
    · exact .inl (List.eq_of_mem_replicate hc)
theorem bval_bits8 (a : UInt8) : UInt8.ofNat (bval (bits8 a.toNat)) = a := by
  have h : ∀ a : Fin 256, bval (bits8 a.val) = a.val := by decide +kernel
  rw [h ⟨a.toNat, a.toNat_lt⟩]
  simp
theorem eight_bitsL (x : List UInt8) (n : Nat) (hn : n < 8) : eight (bitsL x ++ List.replicate n 48) = x := by
  induction x with
  | nil =>
    have : ∀ n : Fin 8, eight (List.replicate n.val 48) = [] := by decide
    simpa [bitsL] using this ⟨n, hn⟩
  | cons a r ih =>
    have e : bitsL (a :: r) ++ List.replicate n 48 = bits8 a.toNat ++ (bitsL r ++ List.replicate n 48) := by simp [bitsL]
    rw [e]
    show UInt8.ofNat (bval (bits8 a.toNat)) :: eight (bitsL r ++ List.replicate n 48) = _
    rw [bval_bits8, ih]
theorem eight_step (b : List UInt8) (h : 8 ≤ b.length) : eight b = UInt8.ofNat (bval (b.take 8)) :: eight (b.drop 8) := by
  match b, h with
  | b0 :: b1 :: b2 :: b3 :: b4 :: b5 :: b6 :: b7 :: r, _ => rfl
theorem eight_short (b : List UInt8) (h : b.length < 8) : eight b = [] := by
  match b, h with
  | [], _ => rfl
  | [_], _ => rfl
  | [_, _], _ => rfl
  | [_, _, _], _ => rfl
  | [_, _, _, _], _ => rfl
  | [_, _, _, _, _], _ => rfl
  | [_, _, _, _, _, _], _ => rfl
  | [_, _, _, _, _, _, _], _ => rfl
  | _ :: _ :: _ :: _ :: _ :: _ :: _ :: _ :: _, h => simp at h; omega
theorem pre_app (x y : List UInt8) (hx : ∀ c ∈ x, c ∈ lets) (hy : pre y = []) : pre (x ++ y) = x := by
  unfold pre at *
  rw [List.takeWhile_append_of_pos (by intro c hc; simpa using hx c hc), hy, List.append_nil]
theorem pre_enc (x : List UInt8) : pre (enc x) = core x := by
  rw [enc_core]
  refine pre_app _ _ (core_mem x) ?_
  rcases pad_cases x with e | e | e <;> rw [e] <;> decide
theorem dec_out (x : List UInt8) : eight (ltb (pre (enc x))) = x := by
  rw [pre_enc, ltb_core, eight_bitsL _ _ (by have := (zN_mod x).2; omega)]
theorem pre_take (s : List UInt8) (k : Nat) (c : UInt8) (h : k < s.length) (hc : s[k] = c) (hn : c ∉ lets) (hm : ∀ x ∈ s.take k, x ∈ lets) : pre s = s.take k := by
  have e : s = s.take k ++ s.drop k := (List.take_append_drop k s).symm
  have : pre (s.take k ++ s.drop k) = s.take k := by
    refine pre_app _ _ hm ?_
    rw [List.drop_eq_getElem_cons h, hc]
    unfold pre
    rw [List.takeWhile_cons_of_neg (by simpa using hn)]
  rwa [← e] at this
theorem pre_all (s : List UInt8) (hm : ∀ x ∈ s, x ∈ lets) : pre s = s := by
  have := pre_app s [] hm rfl
  rwa [List.append_nil] at this
theorem eight_len : ∀ b : List UInt8, (eight b).length ≤ b.length / 8
  | b0 :: b1 :: b2 :: b3 :: b4 :: b5 :: b6 :: b7 :: r => by
    have := eight_len r
    simp only [eight, List.length_cons]
    omega
  | [] => by simp [eight]
  | [_] => by simp [eight]
  | [_, _] => by simp [eight]
  | [_, _, _] => by simp [eight]
  | [_, _, _, _] => by simp [eight]
  | [_, _, _, _, _] => by simp [eight]
  | [_, _, _, _, _, _] => by simp [eight]
  | [_, _, _, _, _, _, _] => by simp [eight]

theorem refBase_o (F : Interp) (s : ByteArray) (w : World) (hF : F.told.answers w.tape) (hs : s.size ≤ 300) :
    Calls Tryf.prog 13 #[.string s] w fun e w' => ∃ x : ByteArray, e = .returned (.string x) ∧ Hid (x = bs (enc s.data.toList)) ∧ Below w.heap.size w w' := by
  refine (refBase_any F s w hF hs).mono ?_
  rintro e w' ⟨rfl, hb⟩
  exact ⟨_, rfl, rfl, hb⟩

set_option maxRecDepth 100000 in
set_option maxHeartbeats 1600000 in
theorem refUnb_any (F : Interp) (s : ByteArray) (w : World) (hF : F.told.answers w.tape) (hs : s.size ≤ 300) :
    Calls Tryf.prog 14 #[.string s] w fun e w' => Below w.heap.size w w' ∧ ((∃ o : List UInt8, e = .returned (.tuple #[.string (bs o), .int .i64 0]) ∧ enc o = s.data.toList) ∨ (e = .returned (.tuple #[.string (bs []), .int .i64 3]) ∧ ∀ o, enc o ≠ s.data.toList)) := by
  have HF : Hid (F.told.answers w.tape) := hF
  clear hF
  go_enter Tryf.func14, Tryf.ntmps14
  go_wp2
  go_loopw [4, 12] (fun v i wr => ∃ (k : Nat) (o : ByteArray), k ≤ s.size ∧ i = .int .i64 k ∧ v = .string o ∧ o.size = 6 * k ∧ Hid (o = bs (ltb (s.data.toList.take k)) ∧ ∀ x ∈ s.data.toList.take k, x ∈ lets) ∧ Below w.heap.size w wr) (fun _ i _ => s.size - (intOf i).toNat)
  case atStart => exact ⟨0, _, Nat.zero_le _, rfl, rfl, rfl, ⟨rfl, by simp⟩, Below.refl _ _⟩
  case round =>
    obtain ⟨k, o, hk, rfl, rfl, ho, HO, hb⟩ := hrel
    have hsl : s.data.toList.length = s.size := by simp
    have hcase : (∃ (c : UInt8) (n : Nat) (hlt : k < s.size), s[k] = c ∧ n < 64 ∧ ixL c = n ∧ c ∈ lets) ∨ (∃ (c : UInt8) (hlt : k < s.size), s[k] = c ∧ ixL c = -1 ∧ Hid (o = bs (ltb (pre s.data.toList)))) ∨ (¬ k < s.size ∧ Hid (o = bs (ltb (pre s.data.toList)))) := by
      by_cases hlt : k < s.size
      · rcases ixL_cases s[k] with ⟨h1, h2⟩ | ⟨n, h1, h2, h3⟩
        · exact .inr (.inl ⟨_, hlt, rfl, h1, by show _ = _; rw [pre_take s.data.toList k s[k] (by omega) rfl h2 HO.out.2]; exact HO.out.1⟩)
        · exact .inl ⟨_, n, hlt, rfl, h1, h2, by rw [← h3]; exact let_mem n h1⟩
      · refine .inr (.inr ⟨hlt, ?_⟩)
        have e := HO.out
        rw [List.take_of_length_le (by omega)] at e
        show _ = _
        rw [pre_all _ e.2]; exact e.1
    clear hsl
    rcases hcase with ⟨c, n, hlt, hc, hn, hix, hm⟩ | ⟨c, hlt, hc, hix, HP⟩ | ⟨hlt, HP⟩
    · have HS : Hid (s.data.toList.take (k + 1) = s.data.toList.take k ++ [c]) := by rw [← hc]; exact take_snoc s k hlt
      have ht := congrArg FmtStop.textOf (answers_open (show F.told.answers wr.tape by rw [hb.tape]; exact HF.out) wr.drawn "fmt.Sprintf" [[37, 48, 54, 98], shape3, digits 8 (n % 18446744073709551616)] 0 0)
      have hR : FmtStop.textOf (F.told "fmt.Sprintf" [[37, 48, 54, 98], shape3, digits 8 (n % 18446744073709551616)] 0) = bs (bits6 n) := by
        rw [Nat.mod_eq_of_lt (by omega)]; exact told06b F n hn
      rw [hR] at ht
      clear hR
      obtain ⟨t, hT⟩ : ∃ t : ByteArray, bs (bits6 n) = t := ⟨_, rfl⟩
      have HT : Hid (t = bs (bits6 n)) := hT.symm
      rw [hT] at ht
      clear hT
      have htz : t.size = 6 := by rw [HT.out]; rfl
      have hn' : (n : Int) < 64 := by omega
      have HN : Hid (o ++ t = bs (ltb (s.data.toList.take (k + 1))) ∧ ∀ x ∈ s.data.toList.take (k + 1), x ∈ lets) := by
        show _ ∧ _
        rw [HS.out, ltb_snoc, bs_append, hix, HO.out.1, HT.out]
        exact ⟨by simp, mem_snoc HO.out.2 hm⟩
      clear hm HO HT HS
      go_wp2_with (go_at_call 18; refine (ix_lets c _ rfl _).mono ?_; rintro e w' ⟨rfl, rfl⟩)
      go_roundw
      case rel => exact ⟨k + 1, o ++ t, by omega, by go_num, rfl, by simp [ho, htz]; omega, HN, (hb.alloc hb.size _).drew⟩
      case measure => simp [intOf]; omega
    all_goals
      clear HO
      have hoz : o.size ≤ 1800 := by omega
      clear ho
      have HP2 : Hid (o.data.toList = ltb (pre s.data.toList)) := by show _ = _; rw [HP.out, bs_data]
      clear HP
      go_wp2_with (go_at_call 18; refine (ix_lets c _ rfl _).mono ?_; rintro e w' ⟨rfl, rfl⟩)
      go_loopw [4, 7] (fun v4 v7 wr => ∃ (b q : ByteArray), v4 = .string b ∧ v7 = .string q ∧ b.size ≤ 1800 ∧ q.size ≤ 300 ∧ Hid (q.data.toList ++ eight b.data.toList = eight (ltb (pre s.data.toList)) ∧ ∀ x ∈ b.data.toList, x = 48 ∨ x = 49) ∧ Below w.heap.size w wr) (fun v _ _ => lenOf v)
      case atStart => exact ⟨o, _, rfl, rfl, hoz, by decide, ⟨by rw [HP2.out]; rfl, by rw [HP2.out]; exact ltb_01 _⟩, hb⟩
      case round =>
        clear hb HP2 hoz
        obtain ⟨b, q, rfl, rfl, hbz, hqz, HI, hb⟩ := hrel
        by_cases hb8 : (8 : Int) ≤ (b.size : Int)
        · obtain ⟨p, hp⟩ : ∃ p : ByteArray, b.extract 0 8 = p := ⟨_, rfl⟩
          obtain ⟨r, hr⟩ : ∃ r : ByteArray, b.extract 8 b.size = r := ⟨_, rfl⟩
          have hpl : p.data.toList = b.data.toList.take 8 := by rw [← hp, Lib.extract_data]; rfl
          have hrl : r.data.toList = b.data.toList.drop 8 := by rw [← hr, Lib.extract_data]; exact List.take_of_length_le (by simp)
          have hbl : b.data.toList.length = b.size := by simp
          have hp8 : p.size = 8 := by rw [Lib.size_eq, hpl]; simp; omega
          have hrz : r.size = b.size - 8 := by rw [Lib.size_eq, hrl]; simp
          have hp01 : ∀ c ∈ p.data.toList, c = 48 ∨ c = 49 := by rw [hpl]; exact fun c hc => HI.out.2 c (List.mem_of_mem_take hc)
          obtain ⟨y, hy⟩ : ∃ y : Int, (bval p.data.toList : Int) = y := ⟨_, rfl⟩
          have hyl := bval_lt p.data.toList hp01 8 (by rw [hpl]; simp; omega)
          have hy0 : 0 ≤ y := by omega
          have hy1 : y < 256 := by omega
          have HP : Hid (∀ w : World, Calls Tryf.prog 21 #[.string p, .int .i64 2, .int .i64 64] w fun e w' => e = .returned (.tuple #[.int .i64 y, .nilIface]) ∧ Below w.heap.size w w') := by
            intro w
            have := parse_bits p w (by omega) (by omega) hp01
            rwa [hy] at this
          have HY : Hid (UInt8.ofNat y.toNat = UInt8.ofNat (bval (b.data.toList.take 8))) := by show _ = _; rw [← hpl, ← hy]; simp
          have HN : Hid ((q.data.toList ++ [UInt8.ofNat y.toNat]) ++ eight r.data.toList = eight (ltb (pre s.data.toList)) ∧ ∀ x ∈ r.data.toList, x = 48 ∨ x = 49) := by
            refine ⟨?_, ?_⟩
            · rw [← HI.out.1, eight_step b.data.toList (by omega), hrl, HY.out]; simp
            · rw [hrl]; exact fun c hc => HI.out.2 c (List.mem_of_mem_drop hc)
          have hqz2 : q.size ≤ 299 := by
            have e1 := congrArg List.length HN.out.1
            have e2 := eight_len (ltb (pre s.data.toList))
            rw [ltb_length] at e2
            have e3 : (pre s.data.toList).length ≤ s.data.toList.length := List.Sublist.length_le (List.takeWhile_sublist _)
            have e4 : s.data.toList.length = s.size := by simp
            have e5 : q.data.toList.length = q.size := by simp
            simp at e1
            omega
          clear hpl hrl hbl hp01 hy hyl HI HY
          go_wp2_with (first | (go_at_call 21; refine (HP.out _).mono ?_; rintro e w2 ⟨rfl, hb2⟩) | (go_at_call 17; refine (char_o _ hy0 hy1 _).mono ?_; rintro e w3 ⟨z, rfl, hzz, HZ, hb3⟩))
          go_roundw
          case rel => exact ⟨r, q ++ z, rfl, rfl, by omega, by rw [ByteArray.size_append]; omega, by
            have e1 : (q ++ z).data.toList = q.data.toList ++ [UInt8.ofNat y.toNat] := by
              rw [ByteArray.data_append, Array.toList_append, HZ.out, bs_data]
            show _ ∧ _
            rw [e1]; exact HN.out, (hb.trans (hb2.mono hb.size)).trans (hb3.mono (Nat.le_trans hb.size hb2.size))⟩
          case measure => show r.size < b.size; omega
        · have HQ : Hid (q.data.toList = eight (ltb (pre s.data.toList))) := by
            have e := HI.out.1
            rw [eight_short b.data.toList (by simp; omega), List.append_nil] at e
            exact e
          have HF2 : Hid (F.told.answers wr.tape) := by rw [hb.tape]; exact HF
          clear HI
          go_wp2_with fail
          refine (refBase_o F q _ HF2.out hqz).mono ?_
          rintro e w2 ⟨x, rfl, HX, hbx⟩
          have hb2 : Below w.heap.size w w2 := hb.trans (hbx.mono hb.size)
          by_cases he : enc q.data.toList = s.data.toList
          · have hen : (x.toList == s.toList) = true := by
              rw [ByteArray.toList_eq, ByteArray.toList_eq, HX.out, bs_data, he]; simp
            have HE : Hid (enc q.data.toList = s.data.toList) := he
            obtain ⟨ql, hql⟩ : ∃ l, q = bs l := ⟨q.data.toList, (bs_self q).symm⟩
            subst hql
            rw [bs_data] at HE
            clear he HX HQ
            go_wp2
            go_ret2
            exact ⟨hb2, .inl ⟨ql, rfl, HE⟩⟩
          · have hen : (x.toList == s.toList) = false := by
              rw [ByteArray.toList_eq, ByteArray.toList_eq, HX.out, bs_data]; simpa using he
            have HN : Hid (∀ o, enc o ≠ s.data.toList) := by
              intro o ho
              have e := dec_out o
              rw [ho, ← HQ.out] at e
              exact he (by rw [e, ho])
            clear he HX HQ
            go_wp2
            go_ret2
            exact ⟨hb2, .inr ⟨rfl, HN⟩⟩
end Go.Proofs.YtkokdoodaoijoaaFmt
