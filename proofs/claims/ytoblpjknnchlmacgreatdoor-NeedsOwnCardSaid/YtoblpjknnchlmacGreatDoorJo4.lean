/- Texts of one claim, joined: each begins with what it proves. -/
import Derived.Test.YtoblpjknnchlmacGreatDoorJo1
import Derived.Test.YtoblpjknnchlmacGreatDoorJo2
import Derived.Test.YtoblpjknnchlmacGreatDoorJo3
import Derived.Deep.Cut
import Derived.Deep.QuietTactic
import Derived.BigQuiet
import Derived.Deep.Draws
import Derived.Deep.LoopGhost
import Derived.Deep.CutRange
import Derived.Deep.DeepCutAuto
import Derived.Shelf.Strings.Split
/- How many bytes of a kind stand at a text's beginning, by the program; digits. -/
namespace Go.Proofs.YtoblpjknnchlmacGreatDoor
open Go.RowKit

theorem digB_yes (c : UInt8) (h1 : 48 ≤ (c.toNat : Int)) (h2 : (c.toNat : Int) ≤ 57) : digB c = true := decide_eq_true ⟨by omega, by omega⟩
theorem digB_no (c : UInt8) (h : ¬ (48 ≤ (c.toNat : Int) ∧ (c.toNat : Int) ≤ 57)) : digB c = false := decide_eq_false (by omega)
theorem tdigit_any (c : UInt8) (w : World) : Calls Tryz.prog 72 #[.int .u8 (c.toNat : Int)] w fun e w' => e = .returned (.bool (digB c)) ∧ w' = w := by
  by_cases h : 48 ≤ (c.toNat : Int)
  · by_cases h2 : (c.toNat : Int) ≤ 57
    · rw [digB_yes c h h2]
      go_enter Tryz.func72, Tryz.ntmps72
      go_wp2
      go_ret
      exact ⟨rfl, rfl⟩
    · rw [digB_no c (by omega)]
      go_enter Tryz.func72, Tryz.ntmps72
      go_wp2
      go_ret
      exact ⟨rfl, rfl⟩
  · rw [digB_no c (by omega)]
    go_enter Tryz.func72, Tryz.ntmps72
    go_wp2
    go_ret
    exact ⟨rfl, rfl⟩

theorem kind_digit : Kind 72 digB := ⟨tdigit_any, enters_at Tryz.func72 (by kernel_rfl) rfl⟩
set_option maxHeartbeats 1000000 in
theorem run_any (K : Nat) (f : UInt8 → Bool) (hK : Kind K f) (s : ByteArray) (hs : s.size ≤ 20000) (w : World) :
    Calls Tryz.prog 40 #[.string s, .func (.func K) #[] #[]] w fun e w' => e = .returned (.int .i64 (runL f s.data.toList : Int)) ∧ w' = w := by
  have HK0 : Hid (Kind K f) := hK
  have hen := hK.enters
  clear hK
  go_enter Tryz.func40, Tryz.ntmps40
  go_wp2
  go_loop [8] (fun i => ∃ (k : Nat), k ≤ s.size ∧ i = .int .i64 k ∧ Hid ((s.data.toList.take k).all f = true)) (fun i => s.size - (intOf i).toNat)
  case atStart => exact ⟨0, Nat.zero_le _, rfl, rfl⟩
  case round =>
    obtain ⟨k, hk, rfl, HK⟩ := hrel
    by_cases hlt : k < s.size
    · obtain ⟨c, hcd⟩ : ∃ c : UInt8, s[k] = c := ⟨_, rfl⟩
      have hcl : (c.toNat : Int) < 256 := by have := c.toNat_lt; omega
      have HC : Hid (s[k] = c) := hcd
      cases hf : f c
      · have HR : Hid (runL f s.data.toList = k) := run_part f s k hlt c hcd HK hf
        go_wp2_with fail
        refine (HK0.out.says c _).mono ?_
        rintro e w' ⟨rfl, rfl⟩
        rw [hf]
        go_wp2
        go_ret
        exact ⟨ret_i64 (by rw [HR.out]), rfl⟩
      · have HS : Hid ((s.data.toList.take (k + 1)).all f = true) := all_snoc f s k hlt c hcd HK hf
        go_wp2_with fail
        refine (HK0.out.says c _).mono ?_
        rintro e w' ⟨rfl, rfl⟩
        rw [hf]
        go_wp2
        go_round
        case rel => exact ⟨k + 1, by omega, by go_num, HS⟩
        case measure => simp [intOf]; omega
    · have HR : Hid (runL f s.data.toList = s.size) := run_full f s k (by omega) HK
      go_wp2
      go_ret
      exact ⟨ret_i64 (by rw [HR.out]), rfl⟩
end Go.Proofs.YtoblpjknnchlmacGreatDoor

/- Whether a byte may be one of a word, and a text is a word, by the program. -/
namespace Go.Proofs.YtoblpjknnchlmacGreatDoor
open Go.RowKit

theorem tokB_small (c : UInt8) (h : 97 ≤ (c.toNat : Int) ∧ (c.toNat : Int) ≤ 122) : tokB c = true := by
  unfold tokB
  rw [decide_eq_true (show 97 ≤ c.toNat ∧ c.toNat ≤ 122 by omega)]
  rfl
theorem tokB_great (c : UInt8) (h : 65 ≤ (c.toNat : Int) ∧ (c.toNat : Int) ≤ 90) : tokB c = true := by
  unfold tokB
  rw [decide_eq_true (show 65 ≤ c.toNat ∧ c.toNat ≤ 90 by omega)]
  simp
theorem tokB_digit (c : UInt8) (h : digB c = true) : tokB c = true := by
  unfold tokB
  unfold digB at h
  rw [h]
  simp
theorem tokB_rest (c : UInt8) (h1 : ¬ (97 ≤ (c.toNat : Int) ∧ (c.toNat : Int) ≤ 122)) (h2 : ¬ (65 ≤ (c.toNat : Int) ∧ (c.toNat : Int) ≤ 90)) (h3 : digB c = false) : tokB c = tsigns.contains c := by
  unfold tokB
  unfold digB at h3
  rw [decide_eq_false (show ¬ (97 ≤ c.toNat ∧ c.toNat ≤ 122) by omega), decide_eq_false (show ¬ (65 ≤ c.toNat ∧ c.toNat ≤ 90) by omega), h3]
  rfl
def ixT (c : UInt8) : Int := ixOf tsigns c
theorem ix_tsigns (c : UInt8) (w : World) :
    Calls Tryz.prog 73 #[.string { data := #[33, 35, 36, 37, 38, 39, 42, 43, 45, 46, 94, 95, 124, 126, 96] }, .int .u8 (c.toNat : Int)] w fun e w' => e = .returned (.int .i64 (ixT c)) ∧ w' = w := ix_of _ c _ rfl w
set_option maxHeartbeats 1000000 in
theorem byte_any (c : UInt8) (w : World) : Calls Tryz.prog 41 #[.int .u8 (c.toNat : Int)] w fun e w' => e = .returned (.bool (tokB c)) ∧ w' = w := by
  by_cases h1 : 97 ≤ (c.toNat : Int) ∧ (c.toNat : Int) ≤ 122
  · rw [tokB_small c h1]
    obtain ⟨h1, h2⟩ := h1
    go_enter Tryz.func41, Tryz.ntmps41
    go_wp2
    go_ret
    exact ⟨rfl, rfl⟩
  by_cases h2 : 65 ≤ (c.toNat : Int) ∧ (c.toNat : Int) ≤ 90
  · rw [tokB_great c h2]
    obtain ⟨h2, h3⟩ := h2
    have h4 : ¬ 97 ≤ (c.toNat : Int) := by omega
    clear h1
    go_enter Tryz.func41, Tryz.ntmps41
    go_wp2
    go_ret
    exact ⟨rfl, rfl⟩
  have key : (∃ x : Bool, digB c = true ∧ tokB c = true) ∨ (digB c = false ∧ tokB c = tsigns.contains c) := by
    cases h3 : digB c
    · exact .inr ⟨rfl, tokB_rest c h1 h2 h3⟩
    · exact .inl ⟨true, rfl, tokB_digit c h3⟩
  rcases key with ⟨_, hd, ht⟩ | ⟨hd, ht⟩
  · rw [ht]
    clear ht
    by_cases a1 : 97 ≤ (c.toNat : Int)
    · have a2 : ¬ (c.toNat : Int) ≤ 122 := by omega
      have a3 : 65 ≤ (c.toNat : Int) := by omega
      have a4 : ¬ (c.toNat : Int) ≤ 90 := by omega
      clear h1 h2
      go_enter Tryz.func41, Tryz.ntmps41
      go_wp2_with (go_at_call 72; refine (tdigit_any c _).mono ?_; rintro e w' ⟨rfl, rfl⟩; rw [hd])
      go_ret
      exact ⟨rfl, rfl⟩
    · by_cases a3 : 65 ≤ (c.toNat : Int)
      · have a4 : ¬ (c.toNat : Int) ≤ 90 := by omega
        clear h1 h2
        go_enter Tryz.func41, Tryz.ntmps41
        go_wp2_with (go_at_call 72; refine (tdigit_any c _).mono ?_; rintro e w' ⟨rfl, rfl⟩; rw [hd])
        go_ret
        exact ⟨rfl, rfl⟩
      · clear h1 h2
        go_enter Tryz.func41, Tryz.ntmps41
        go_wp2_with (go_at_call 72; refine (tdigit_any c _).mono ?_; rintro e w' ⟨rfl, rfl⟩; rw [hd])
        go_ret
        exact ⟨rfl, rfl⟩
  · obtain ⟨x, hx, hx2⟩ : ∃ x : Int, ixT c = x ∧ Hid (tokB c = decide (0 ≤ x)) := by
      refine ⟨_, rfl, ?_⟩
      show _ = _
      rw [ht]
      unfold ixT
      rcases ixOf_in tsigns c with ⟨e1, e2⟩ | ⟨n, _, e1, e2⟩
      · rw [e1, e2]; rfl
      · rw [e1, e2]; simp
    clear ht
    rw [hx2.out]
    by_cases a1 : 97 ≤ (c.toNat : Int)
    · have a2 : ¬ (c.toNat : Int) ≤ 122 := by omega
      have a3 : 65 ≤ (c.toNat : Int) := by omega
      have a4 : ¬ (c.toNat : Int) ≤ 90 := by omega
      clear h1 h2
      go_enter Tryz.func41, Tryz.ntmps41
      go_wp2_with (first | (go_at_call 72; refine (tdigit_any c _).mono ?_; rintro e w' ⟨rfl, rfl⟩; rw [hd]) | (go_at_call 73; refine (ix_tsigns c _).mono ?_; rintro e w' ⟨rfl, rfl⟩; rw [hx]))
      go_ret
      exact ⟨rfl, rfl⟩
    · by_cases a3 : 65 ≤ (c.toNat : Int)
      · have a4 : ¬ (c.toNat : Int) ≤ 90 := by omega
        clear h1 h2
        go_enter Tryz.func41, Tryz.ntmps41
        go_wp2_with (first | (go_at_call 72; refine (tdigit_any c _).mono ?_; rintro e w' ⟨rfl, rfl⟩; rw [hd]) | (go_at_call 73; refine (ix_tsigns c _).mono ?_; rintro e w' ⟨rfl, rfl⟩; rw [hx]))
        go_ret
        exact ⟨rfl, rfl⟩
      · clear h1 h2
        go_enter Tryz.func41, Tryz.ntmps41
        go_wp2_with (first | (go_at_call 72; refine (tdigit_any c _).mono ?_; rintro e w' ⟨rfl, rfl⟩; rw [hd]) | (go_at_call 73; refine (ix_tsigns c _).mono ?_; rintro e w' ⟨rfl, rfl⟩; rw [hx]))
        go_ret
        exact ⟨rfl, rfl⟩
theorem kind_byte : Kind 41 tokB := ⟨byte_any, enters_at Tryz.func41 (by kernel_rfl) rfl⟩
theorem isL_empty (s : ByteArray) (h : s.size = 0) : isL s.data.toList = false := by
  have : s.data.toList = [] := by
    apply List.eq_nil_of_length_eq_zero
    simpa using h
  rw [this]
  rfl
theorem isL_run (s : ByteArray) (h : 0 < s.size) : isL s.data.toList = decide ((runL tokB s.data.toList : Int) = (s.size : Int)) := by
  unfold isL
  have h1 : s.data.toList.isEmpty = false := by
    cases e : s.data.toList with
    | nil =>
      have h5 : s.data.toList.length = s.size := Array.length_toList
      rw [e] at h5
      simp only [List.length_nil] at h5
      omega
    | cons c t => rfl
  have h2 := runL_all tokB s.data.toList
  have h3 : s.data.toList.length = s.size := Array.length_toList
  rw [h1, Bool.eq_iff_iff]
  simp only [Bool.not_false, Bool.true_and, decide_eq_true_eq]
  rw [← h2, h3]
  omega
theorem u8_is {c : UInt8} {n : Nat} (hn : n < 256) : (c.toNat : Int) = n ↔ c = UInt8.ofNat n := by
  constructor
  · intro h
    apply UInt8.toNat_inj.1
    simp only [UInt8.toNat_ofNat']
    omega
  · rintro rfl
    simp only [UInt8.toNat_ofNat']
    omega

end Go.Proofs.YtoblpjknnchlmacGreatDoor

/- One element more at a row that a call owns. -/
namespace Go.Proofs.YtoblpjknnchlmacGreatDoor
open Go.RowKit

theorem Own.lt {w : World} {B : Nat} {v : Value} {l : List UInt8} (h : Own w B v l) : ∀ k, v.ownBlock = some k → B ≤ k ∧ k < w.heap.size := World.ownsRow.lt h
theorem Own.keep {w w' : World} {B : Nat} {v : Value} {l : List UInt8} (h : Own w B v l) (hb : Below w.heap.size w w') : Own w' B v l := by
  refine World.ownsRow.kept (row := none) h ⟨hb.1, hb.2, hb.3, hb.size, fun k hk _ => hb.block k hk⟩ ?_
  rcases v.ownBlock with _ | k
  · exact .inl rfl
  · exact .inr (by simp)
/-- A byte more at a row of bytes. -/
theorem wp_app1 {ops : Array Oper} {rest : List Oper} {o : Oper} {a : Act} {Q : Exit → Act → World → Prop} (hgd : o.guard = none) (s x : Operand)
    (ho : o.op = .call { callee := .builtin .append, args := #[s, x], argTypes := #[92, 92] })
    (B : Nat) (w0 wr : World) (v : Value) (l : List UInt8) (n : Nat) (hs : a.eval s = v) (hown : Own wr B v l) (hn : l.length = n) (hl : n ≤ 100000) (hb : Below B w0 wr) (hB : B ≤ wr.heap.size)
    (d : UInt8) (dn : Int) (hd : dn = (d.toNat : Int)) (hx : a.eval x = .slice (some ⟨wr.heap.size, 0, none⟩) 1 1)
    (h : ∀ g cap w', Own w' B (.slice (some ⟨g, 0, none⟩) (n + 1) cap) (l ++ [d]) → Below B w0 w' → g < w'.heap.size → (wr.alloc (.cells #[.int .u8 dn] 5)).grownBy w' v.ownBlock → wpList Tryz.prog ops Q rest (a.put o.dst (.slice (some ⟨g, 0, none⟩) (n + 1) cap)) w') :
    wpList Tryz.prog ops Q (o :: rest) a (wr.alloc (.cells #[.int .u8 dn] 5)) := by
  subst hd
  obtain ⟨i0, hi0, hz0, hz1, hz2⟩ := info_parts info5
  refine wpList_append_lies _ hgd s x 92 ho B 5 i0 (.int .u8 0) 1 1 Tryz.underlying92 hi0 hz0 hz1 hz2 rfl (by omega) v n _ hs ((hown.rows hn).alloc _) ⟨wr.heap.size, 0, none⟩ 1 1 [.int .u8 (d.toNat : Int)] hx rfl
    (World.news_of_block (cs := #[.int .u8 (d.toNat : Int)]) (t := 5) (fr := (0, 0)) (heap_alloc_new wr _)) (by simp [Value.oneCell']) (by omega) (by unfold maxLen; omega) (by omega) (by simp; omega) _ rfl ?_
  intro g cap w' hown1 hgrow _ hlt
  refine h g cap w' (Own.more (ds := [d]) hown1 hn rfl) ?_ hlt hgrow
  refine (hb.alloc hB _).grown hgrow (by simp; omega) (fun k hk => (hown.lt k hk).1)
end Go.Proofs.YtoblpjknnchlmacGreatDoor

/- Where a cursor is, and what of the world it leaves as it was. -/
namespace Go.Proofs.YtoblpjknnchlmacGreatDoor
open Go.RowKit

/-- A cursor at block b: its text, and where it is. -/
structure Cur (w : World) (b : Nat) (s : ByteArray) (k : Nat) : Prop where
  text : w.cell? ⟨b, 0, none⟩ = some (.string s)
  place : w.cell? ⟨b, 1, none⟩ = some (.int .i64 (k : Int))
  free : w.frozen? ⟨b, 1, none⟩ = false
  le : k ≤ s.size
theorem Cur.drewN {w : World} {b : Nat} {s : ByteArray} {k : Nat} (h : Cur w b s k) (n : Nat) : Cur (w.drewN n) b s k := ⟨h.text, h.place, h.free, h.le⟩
theorem Cur.drew {w : World} {b : Nat} {s : ByteArray} {k : Nat} (h : Cur w b s k) : Cur w.drew b s k := ⟨h.text, h.place, h.free, h.le⟩
theorem Cur.lt {w : World} {b : Nat} {s : ByteArray} {k : Nat} (h : Cur w b s k) : b < w.heap.size := by
  rcases Nat.lt_or_ge b w.heap.size with h1 | h1
  · exact h1
  · have := h.text
    simp [World.cell?, Array.getElem?_eq_none h1] at this
theorem Cur.set {w : World} {b : Nat} {s : ByteArray} {k : Nat} (h : Cur w b s k) (m : Nat) (hm : m ≤ s.size) (v : Int) (hv : v = (m : Int)) : Cur (w.setCell ⟨b, 1, none⟩ (.int .i64 v)) b s m := by
  subst hv
  refine ⟨?_, World.cell?_setCell_same _ _ _ h.place, ?_, hm⟩
  · rw [World.cell?_setCell_other _ _ _ _ (by intro e; injection e with _ e2; omega)]
    exact h.text
  · have := h.free
    simpa using this
theorem Cur.grown {w w' : World} {b : Nat} {s : ByteArray} {k : Nat} {row : Option Nat} (h : Cur w b s k) (hg : w.grownBy w' row) (hr : some b ≠ row) : Cur w' b s k :=
  ⟨hg.cell h.text hr, hg.cell h.place hr, (World.frozen?_of_block (a := ⟨b, 1, none⟩) (hg.block b h.lt hr)).trans h.free, h.le⟩
theorem Cur.below {w w' : World} {b : Nat} {s : ByteArray} {k : Nat} (h : Cur w b s k) (hb : Below w.heap.size w w') : Cur w' b s k :=
  h.grown (row := none) ⟨hb.os, hb.tape, hb.output, hb.size, fun i hi _ => hb.block i hi⟩ (by simp)
theorem grown_drewN (w : World) (n : Nat) (row : Option Nat) : w.grownBy (w.drewN n) row := ⟨rfl, rfl, rfl, Nat.le_refl _, fun _ _ _ => rfl⟩
theorem grown_set (w : World) (b i : Nat) (v : Value) : w.grownBy (w.setCell ⟨b, i, none⟩ v) (some b) :=
  ⟨rfl, rfl, rfl, by simp [World.setCell], fun k _ hk => Below.heap_setCell _ _ _ _ (by intro e; apply hk; rw [e])⟩
theorem grown_trans {a b c : World} {row : Option Nat} (h : a.grownBy b row) (k : b.grownBy c row) : a.grownBy c row :=
  ⟨k.os.trans h.os, k.tape.trans h.tape, k.output.trans h.output, Nat.le_trans h.size k.size, fun i hi hr => (k.block i (Nat.lt_of_lt_of_le hi h.size) hr).trans (h.block i hi hr)⟩
theorem grown_below {w w' : World} (hb : Below w.heap.size w w') (row : Option Nat) : w.grownBy w' row := ⟨hb.os, hb.tape, hb.output, hb.size, fun i hi _ => hb.block i hi⟩

theorem blankB_32 (c : UInt8) (h : (c.toNat : Int) = 32) : blankB c = true := by
  rw [(u8_is (n := 32) (by omega)).1 h]
  rfl
theorem blankB_9 (c : UInt8) (h : (c.toNat : Int) = 9) : blankB c = true := by
  rw [(u8_is (n := 9) (by omega)).1 h]
  rfl
theorem blankB_no (c : UInt8) (h : ¬ (c.toNat : Int) = 32) (h2 : ¬ (c.toNat : Int) = 9) : blankB c = false := by
  unfold blankB
  rw [beq_eq_false_iff_ne.2 (by rintro rfl; exact h rfl), beq_eq_false_iff_ne.2 (by rintro rfl; exact h2 rfl)]
  rfl
theorem blank_any (c : UInt8) (w : World) : Calls Tryz.prog 108 #[.int .u8 (c.toNat : Int)] w fun e w' => e = .returned (.bool (blankB c)) ∧ w' = w := by
  by_cases h : (c.toNat : Int) = 32
  · rw [blankB_32 c h]
    go_enter Tryz.func108, Tryz.ntmps108
    go_wp2
    go_ret
    exact ⟨rfl, rfl⟩
  · by_cases h2 : (c.toNat : Int) = 9
    · rw [blankB_9 c h2]
      go_enter Tryz.func108, Tryz.ntmps108
      go_wp2
      go_ret
      exact ⟨rfl, rfl⟩
    · rw [blankB_no c h h2]
      have e1 := beq_eq_false_iff_ne.2 h
      have e2 := beq_eq_false_iff_ne.2 h2
      go_enter Tryz.func108, Tryz.ntmps108
      go_wp2
      go_ret
      exact ⟨rfl, rfl⟩
theorem kind_blank : Kind 108 blankB := ⟨blank_any, enters_at Tryz.func108 (by kernel_rfl) rfl⟩

theorem on_any (s : ByteArray) (w : World) :
    Calls Tryz.prog 78 #[.string s] w fun e w' => e = .returned (.pointer (some ⟨w.heap.size, 0, none⟩)) ∧ Cur w' w.heap.size s 0 ∧ Below w.heap.size w w' ∧ w.heap.size < w'.heap.size := by
  go_enter Tryz.func78, Tryz.ntmps78
  go_wp2
  go_ret
  exact ⟨rfl, ⟨by simp, by simp, by simp, Nat.zero_le _⟩, (Below.refl _ _).alloc (Nat.le_refl _) _, by simp⟩
theorem at_any (b : Nat) (s : ByteArray) (k : Nat) (w : World) (hc : Cur w b s k) :
    Calls Tryz.prog 83 #[.pointer (some ⟨b, 0, none⟩)] w fun e w' => e = .returned (.int .i64 (k : Int)) ∧ w' = w := by
  obtain ⟨h1, h2, h3, h4⟩ := hc
  go_enter Tryz.func83, Tryz.ntmps83
  go_wp2
  go_ret
  exact ⟨rfl, rfl⟩
theorem end_any (b : Nat) (s : ByteArray) (k : Nat) (w : World) (hc : Cur w b s k) :
    Calls Tryz.prog 81 #[.pointer (some ⟨b, 0, none⟩)] w fun e w' => e = .returned (.bool ((k : Int) == (s.size : Int))) ∧ ∃ n, w' = w.drewN n := by
  obtain ⟨h1, h2, h3, h4⟩ := hc
  go_enter Tryz.func81, Tryz.ntmps81
  go_wp2
  go_quiet (fail)
  go_wp2
  go_ret
  exact ⟨rfl, _, rfl⟩
end Go.Proofs.YtoblpjknnchlmacGreatDoor

/- What a cursor goes over. -/
namespace Go.Proofs.YtoblpjknnchlmacGreatDoor
open Go.RowKit

theorem len_data (s : ByteArray) : s.data.toList.length = s.size := Array.length_toList
theorem rest_size (s : ByteArray) (k : Nat) : (s.extract k s.size).size = s.size - k := by simp
theorem run_rest_le (f : UInt8 → Bool) (s : ByteArray) (k : Nat) (hk : k ≤ s.size) : k + runL f (s.data.toList.drop k) ≤ s.size := by
  have := runL_le f (s.data.toList.drop k)
  rw [List.length_drop, len_data] at this
  omega
set_option maxHeartbeats 1000000 in
theorem over_any (K : Nat) (f : UInt8 → Bool) (hK : Kind K f) (b : Nat) (s : ByteArray) (hs : s.size ≤ 20000) (k : Nat) (w : World) (hc : Cur w b s k) :
    Calls Tryz.prog 107 #[.pointer (some ⟨b, 0, none⟩), .func (.func K) #[] #[]] w fun e w' => ∃ t : ByteArray, e = .returned (.string t) ∧ t.size = runL f (s.data.toList.drop k) ∧ Hid (t.data.toList = (s.data.toList.drop k).takeWhile f) ∧ Cur w' b s (k + runL f (s.data.toList.drop k)) ∧ w.grownBy w' (some b) := by
  obtain ⟨r, HR⟩ : ∃ r : ByteArray, Hid (s.extract k s.size = r) := ⟨_, rfl⟩
  have hr : r.size = s.size - k := by rw [← HR.out, rest_size]
  have HD : Hid (r.data.toList = s.data.toList.drop k) := by show _ = _; rw [← HR.out, from_data]
  obtain ⟨n, HN⟩ : ∃ n : Nat, Hid (runL f (s.data.toList.drop k) = n) := ⟨_, rfl⟩
  have hn : k + n ≤ s.size := by rw [← HN.out]; exact run_rest_le f s k hc.le
  have HC : Hid (Cur w b s k) := hc
  have HT : Hid ((r.extract 0 n).data.toList = (s.data.toList.drop k).takeWhile f) := by show _ = _; rw [upto_data, HD.out, ← HN.out, take_runL]
  have HZ : Hid ((r.extract 0 n).size = n) := by
    show _ = _
    simp
    omega
  obtain ⟨h1, h2, h3, h4⟩ := hc
  have hkS : (k : Int) ≤ (s.size : Int) := by omega
  go_enter Tryz.func107, Tryz.ntmps107
  go_wp2
  go_quiet (fail)
  rw [HR.out]
  go_wp2_with fail
  refine (run_any K f hK r (by omega) _).mono ?_
  rintro e w' ⟨rfl, hw⟩
  obtain rfl := hw.symm
  rw [HD.out, HN.out]
  have hnr : (n : Int) ≤ (r.size : Int) := by omega
  go_wp2
  go_ret
  refine ⟨_, rfl, ?_, ?_, ?_, ?_⟩
  · rw [HN.out]; exact HZ
  · exact HT
  · rw [HN.out]; exact (HC.out.drewN _).set _ hn _ (by push_cast; rfl)
  · exact grown_trans (grown_drewN w _ _) (grown_set _ _ _ _)
end Go.Proofs.YtoblpjknnchlmacGreatDoor

/- A cursor's blanks, words and marks, by the program. -/
namespace Go.Proofs.YtoblpjknnchlmacGreatDoor
open Go.RowKit

theorem ne_zero_list (t : ByteArray) (n : Nat) (h : t.size = n) : (!t.toList.isEmpty) = decide (0 < n) := by
  subst h
  rw [ByteArray.toList_eq]
  by_cases h0 : t.size = 0
  · have e : t.data.toList = [] := List.eq_nil_of_length_eq_zero (by rw [len_data]; exact h0)
    rw [e, decide_eq_false (by omega)]
    rfl
  · have e : t.data.toList ≠ [] := by
      intro e
      have := len_data t
      rw [e] at this
      exact h0 this.symm
    rw [decide_eq_true (by omega)]
    cases e2 : t.data.toList with
    | nil => exact absurd e2 e
    | cons x r => rfl
set_option maxHeartbeats 1000000 in
theorem blanks_any (b : Nat) (s : ByteArray) (hs : s.size ≤ 20000) (k : Nat) (w : World) (hc : Cur w b s k) :
    Calls Tryz.prog 79 #[.pointer (some ⟨b, 0, none⟩)] w fun e w' => e = .returned (.bool (decide (0 < runL blankB (s.data.toList.drop k)))) ∧ Cur w' b s (k + runL blankB (s.data.toList.drop k)) ∧ w.grownBy w' (some b) := by
  go_enter Tryz.func79, Tryz.ntmps79
  go_wp2_with (go_at_call 107; refine (over_any _ _ kind_blank b s (by omega) k _ hc).mono ?_; rintro e w' ⟨t, rfl, ht, HT, hc2, hg⟩)
  go_ret
  exact ⟨ret_bool (ne_zero_list t _ ht), hc2, hg⟩
set_option maxHeartbeats 1000000 in
theorem word_any (b : Nat) (s : ByteArray) (hs : s.size ≤ 20000) (k : Nat) (w : World) (hc : Cur w b s k) :
    Calls Tryz.prog 80 #[.pointer (some ⟨b, 0, none⟩)] w fun e w' => ∃ t : ByteArray, e = .returned (.string t) ∧ t.size = runL tokB (s.data.toList.drop k) ∧ Hid (t.data.toList = (s.data.toList.drop k).takeWhile tokB) ∧ Cur w' b s (k + runL tokB (s.data.toList.drop k)) ∧ w.grownBy w' (some b) := by
  have hle := run_rest_le tokB s k hc.le
  obtain ⟨n, HN⟩ : ∃ n : Nat, Hid (runL tokB (s.data.toList.drop k) = n) := ⟨_, rfl⟩
  rw [HN.out] at hle
  go_enter Tryz.func80, Tryz.ntmps80
  go_wp2_with (first | (go_at_call 107; refine (over_any _ _ kind_byte b s (by omega) k _ hc).mono ?_; rintro e w1 ⟨t, rfl, ht, HT, hc2, hg⟩; have htz : t.size ≤ 20000 := by rw [ht, HN.out]; omega) | (go_at_call 22; refine (clone_any _ htz _).mono ?_; rintro e w2 ⟨rfl, hb2⟩))
  go_ret
  exact ⟨t, rfl, ht, HT, hc2.below hb2, grown_trans hg (grown_below hb2 _)⟩
set_option maxHeartbeats 1000000 in
theorem mark_end (b : Nat) (s : ByteArray) (c : UInt8) (w : World) (hc : Cur w b s s.size) :
    Calls Tryz.prog 82 #[.pointer (some ⟨b, 0, none⟩), .int .u8 (c.toNat : Int)] w fun e w' => e = .returned (.bool false) ∧ ∃ n, w' = w.drewN n := by
  have HC : Hid (Cur w b s s.size) := hc
  have hend : ∀ n, Calls Tryz.prog 81 #[.pointer (some ⟨b, 0, none⟩)] (w.drewN n) fun e w' => e = .returned (.bool true) ∧ ∃ m, w' = (w.drewN n).drewN m := fun n => by
    refine (end_any b s s.size _ (HC.out.drewN n)).mono ?_
    rintro e w' ⟨rfl, h⟩
    exact ⟨ret_bool (by simp), h⟩
  clear hc
  go_enter Tryz.func82, Tryz.ntmps82
  go_wp2
  go_quiet ((go_at_call 81; exact Calls.quiet_of (hend _)))
  go_wp2
  go_ret
  exact ⟨rfl, _, rfl⟩
set_option maxHeartbeats 1000000 in
theorem mark_other (b : Nat) (s : ByteArray) (k : Nat) (hk : k < s.size) (c : UInt8) (hne : s[k] ≠ c) (w : World) (hc : Cur w b s k) :
    Calls Tryz.prog 82 #[.pointer (some ⟨b, 0, none⟩), .int .u8 (c.toNat : Int)] w fun e w' => e = .returned (.bool false) ∧ ∃ n, w' = w.drewN n := by
  have HC : Hid (Cur w b s k) := hc
  have hend : ∀ n, Calls Tryz.prog 81 #[.pointer (some ⟨b, 0, none⟩)] (w.drewN n) fun e w' => e = .returned (.bool false) ∧ ∃ m, w' = (w.drewN n).drewN m := fun n => by
    refine (end_any b s k _ (HC.out.drewN n)).mono ?_
    rintro e w' ⟨rfl, h⟩
    exact ⟨ret_bool (beq_eq_false_iff_ne.2 (by omega)), h⟩
  obtain ⟨d, hd⟩ : ∃ d : UInt8, s[k] = d := ⟨_, rfl⟩
  have hq : ((d.toNat : Int) != (c.toNat : Int)) = true := by
    rw [bne_iff_ne]
    intro e
    apply hne
    rw [hd]
    exact UInt8.toNat_inj.1 (by omega)
  obtain ⟨h1, h2, h3, h4⟩ := hc
  clear hne
  have hkS : (k : Int) < (s.size : Int) := by omega
  go_enter Tryz.func82, Tryz.ntmps82
  go_wp2
  go_quiet ((go_at_call 81; exact Calls.quiet_of (hend _)))
  go_wp2
  go_ret
  exact ⟨rfl, _, rfl⟩
set_option maxHeartbeats 1000000 in
theorem mark_yes (b : Nat) (s : ByteArray) (hs : s.size ≤ 20000) (k : Nat) (hk : k < s.size) (c : UInt8) (he : s[k] = c) (w : World) (hc : Cur w b s k) :
    Calls Tryz.prog 82 #[.pointer (some ⟨b, 0, none⟩), .int .u8 (c.toNat : Int)] w fun e w' => e = .returned (.bool true) ∧ Cur w' b s (k + 1) ∧ w.grownBy w' (some b) := by
  have HC : Hid (Cur w b s k) := hc
  have hend : ∀ n, Calls Tryz.prog 81 #[.pointer (some ⟨b, 0, none⟩)] (w.drewN n) fun e w' => e = .returned (.bool false) ∧ ∃ m, w' = (w.drewN n).drewN m := fun n => by
    refine (end_any b s k _ (HC.out.drewN n)).mono ?_
    rintro e w' ⟨rfl, h⟩
    exact ⟨ret_bool (beq_eq_false_iff_ne.2 (by omega)), h⟩
  have hq : ((c.toNat : Int) != (c.toNat : Int)) = false := by simp
  obtain ⟨h1, h2, h3, h4⟩ := hc
  have hkS : (k : Int) < (s.size : Int) := by omega
  go_enter Tryz.func82, Tryz.ntmps82
  go_wp2
  go_quiet ((go_at_call 81; exact Calls.quiet_of (hend _)))
  go_wp2
  go_ret
  exact ⟨rfl, (HC.out.drewN _).set _ (by omega) _ (by push_cast; rfl), grown_trans (grown_drewN w _ _) (grown_set _ _ _ _)⟩
/-- The place that a number stands for. -/
def clampK (n : Nat) (m : Int) : Nat := (max 0 (min m (n : Int))).toNat
theorem clampK_le (n : Nat) (m : Int) : clampK n m ≤ n := by unfold clampK; omega
end Go.Proofs.YtoblpjknnchlmacGreatDoor

/- A world that has drawn an order is the same. -/
namespace Go.Proofs.YtoblpjknnchlmacGreatDoor
open Go.RowKit

theorem drewN_at {B : Nat} {a w : World} (h : Below B a w) (n : Nat) : Below B a (w.drewN n) := h.trans ⟨rfl, rfl, rfl, Nat.le_refl _, fun _ _ => rfl⟩
end Go.Proofs.YtoblpjknnchlmacGreatDoor

/- The words of a list, by the program. -/
namespace Go.Proofs.YtoblpjknnchlmacGreatDoor
open Go.RowKit

/-- What is known of the whole list behind k bytes. -/
def ListAt (l : List UInt8) (ws : List (List UInt8)) (k : Nat) : Prop := listP 0 (splitL 44 l) = (listP k (splitL 44 (l.drop k))).map (ws ++ ·)
theorem drop_drop' (l : List UInt8) (a b : Nat) : (l.drop a).drop b = l.drop (a + b) := by rw [List.drop_drop]
theorem consW_nil (w : List UInt8) : consW w [] = if w = [] then [] else [w] := rfl
theorem consW_app (ws : List (List UInt8)) (w : List UInt8) (r : List (List UInt8)) : ws ++ consW w r = (ws ++ consW w []) ++ r := by
  unfold consW
  split <;> simp
theorem map_map_ex (x : Except Nat (List (List UInt8))) (f g : List (List UInt8) → List (List UInt8)) : (x.map f).map g = x.map fun y => g (f y) := by cases x <;> rfl
theorem listAt_end {l : List UInt8} {ws : List (List UInt8)} {k : Nat} (h : ListAt l ws k) (hr : restP (l.drop k) = []) : listP 0 (splitL 44 l) = .ok (ws ++ consW (wordP (l.drop k)) []) := by
  unfold ListAt at h
  rw [h, list_end _ _ hr]
  rfl
theorem listAt_more {l t : List UInt8} {ws : List (List UInt8)} {k : Nat} (h : ListAt l ws k) (hr : restP (l.drop k) = 44 :: t) (m : Nat) (hm : l.drop m = t) (hk : m = k + ((l.drop k).length - t.length)) : ListAt l (ws ++ consW (wordP (l.drop k)) []) m := by
  unfold ListAt at *
  rw [h, list_more _ _ _ hr, map_map_ex, hm, hk]
  congr 1
  funext y
  rw [consW_app]
theorem listAt_bad {l t : List UInt8} {c : UInt8} {ws : List (List UInt8)} {k : Nat} (h : ListAt l ws k) (hr : restP (l.drop k) = c :: t) (hc : c ≠ 44) : listP 0 (splitL 44 l) = .error (k + ((l.drop k).length - (restP (l.drop k)).length)) := by
  unfold ListAt at h
  rw [h, list_bad _ _ _ _ hr hc]
  rfl
/-- Where the word, and what stands behind it, begin. -/
theorem rest_at (l : List UInt8) (k : Nat) :
    wordP (l.drop k) = (l.drop (k + runL blankB (l.drop k))).takeWhile tokB ∧
    restP (l.drop k) = l.drop (k + runL blankB (l.drop k) + runL tokB (l.drop (k + runL blankB (l.drop k))) + runL blankB (l.drop (k + runL blankB (l.drop k) + runL tokB (l.drop (k + runL blankB (l.drop k)))))) := by
  have e1 : (l.drop k).dropWhile blankB = l.drop (k + runL blankB (l.drop k)) := by rw [← drop_runL, drop_drop']
  have e2 : (l.drop (k + runL blankB (l.drop k))).dropWhile tokB = l.drop (k + runL blankB (l.drop k) + runL tokB (l.drop (k + runL blankB (l.drop k)))) := by rw [← drop_runL, drop_drop']
  refine ⟨?_, ?_⟩
  · unfold wordP
    rw [e1]
  · unfold restP
    rw [e1, e2, ← drop_runL, drop_drop']
def texts (xs : List ByteArray) : List (List UInt8) := xs.map (·.data.toList)
theorem texts_snoc (xs : List ByteArray) (t : ByteArray) (w : List UInt8) (ht : t.data.toList = w) (h : t.size ≠ 0) : texts (xs ++ [t]) = texts xs ++ consW w [] := by
  have hw : w ≠ [] := by
    rw [← ht]
    intro e
    have := len_data t
    rw [e] at this
    exact h this.symm
  unfold texts consW
  rw [List.map_append, List.map_singleton, ht, if_neg hw]
theorem texts_same (xs : List ByteArray) (t : ByteArray) (w : List UInt8) (ht : t.data.toList = w) (h : t.size = 0) : texts xs = texts xs ++ consW w [] := by
  have hw : w = [] := by
    rw [← ht]
    exact List.eq_nil_of_length_eq_zero (by rw [len_data]; exact h)
  unfold consW
  rw [if_pos hw, List.append_nil]
theorem empty_at {s : ByteArray} (h : s.size = 0) : s = ⟨#[]⟩ := by
  apply ByteArray.ext
  exact Array.eq_empty_of_size_eq_zero h
theorem not_empty_at {s : ByteArray} (h : s.size ≠ 0) : s.toList.isEmpty = false := by
  rw [ByteArray.toList_eq]
  cases e : s.data.toList with
  | nil =>
    have := len_data s
    rw [e] at this
    exact absurd this.symm h
  | cons x r => rfl
theorem cells_at (W : World) (cs : Array Value) (t : TypeId) (j : Nat) : (W.alloc (.cells cs t)).cell? ⟨W.heap.size, j, none⟩ = cs[j]? := World.cell?_alloc_mark _ _ _ _ _
/-- What List answers. -/
def LstAns (s : ByteArray) (B : Nat) (e : Ending) (w' : World) : Prop :=
  (∃ (xs : List ByteArray) (v : Value), listP 0 (splitL 44 s.data.toList) = .ok (texts xs) ∧ xs.length ≤ 40 ∧ e = .returned (.tuple #[v, .nilIface]) ∧ OwnS w' B v xs) ∨
  (∃ xs : List ByteArray, listP 0 (splitL 44 s.data.toList) = .ok (texts xs) ∧ 40 < xs.length ∧ e = .returned (.tuple #[.slice none 0 0, .iface 49 (.int .i64 4)])) ∨
  (∃ p g : Nat, listP 0 (splitL 44 s.data.toList) = .error p ∧ e = .returned (.tuple #[.slice none 0 0, .iface 54 (.pointer (some ⟨g, 0, none⟩))]) ∧ w'.cell? ⟨g, 0, none⟩ = some (.int .i64 3) ∧ w'.cell? ⟨g, 1, none⟩ = some (.int .i64 (p : Int)) ∧ B ≤ g)
set_option maxRecDepth 100000 in
set_option maxHeartbeats 4000000 in
theorem list_any (s : ByteArray) (hs : s.size ≤ 20000) (w : World) :
    Calls Tryz.prog 50 #[.string s] w fun e w' => LstAns s (w.heap.size + 1) e w' ∧ Below w.heap.size w w' := by
  go_enter Tryz.func50, Tryz.ntmps50
  go_wp2_with (go_at_call 78; refine (on_any s _).mono ?_; rintro e w1 ⟨rfl, hc1, hb1, hz1⟩)
  have HC1 : Hid (Cur w1 w.heap.size s 0) := hc1
  clear hc1
  go_loopg [4] s.size (fun gh v wr => ∃ (k n cap : Nat) (a : Option Addr) (xs : List ByteArray), s.size - k = gh ∧ k ≤ s.size ∧ n ≤ 41 ∧ v = .slice a n cap ∧ Hid (OwnS wr (w.heap.size + 1) (.slice a n cap) (xs.take 41) ∧ (xs.take 41).length = n ∧ ListAt s.data.toList (texts xs) k ∧ Cur wr w.heap.size s k) ∧ Below w.heap.size w wr ∧ w.heap.size < wr.heap.size)
  case atStart => exact ⟨0, 0, 0, none, [], by omega, Nat.zero_le _, by omega, rfl, ⟨ownS_nil _ _, rfl, by unfold ListAt; rw [List.drop_zero]; cases listP 0 (splitL 44 s.data.toList) <;> rfl, HC1⟩, hb1, hz1⟩
  case round =>
    obtain ⟨k, n, cap, a, xs, hgk, hk, hn, rfl, HO, hb, hz⟩ := hrel
    obtain ⟨eW, eR⟩ := rest_at s.data.toList k
    obtain ⟨k1, HK1⟩ : ∃ k1, Hid (k + runL blankB (s.data.toList.drop k) = k1) := ⟨_, rfl⟩
    rw [HK1.out] at eW eR
    obtain ⟨k2, HK2⟩ : ∃ k2, Hid (k1 + runL tokB (s.data.toList.drop k1) = k2) := ⟨_, rfl⟩
    rw [HK2.out] at eR
    obtain ⟨k3, HK3⟩ : ∃ k3, Hid (k2 + runL blankB (s.data.toList.drop k2) = k3) := ⟨_, rfl⟩
    rw [HK3.out] at eR
    have EW : Hid (wordP (s.data.toList.drop k) = (s.data.toList.drop k1).takeWhile tokB) := eW
    have ER : Hid (restP (s.data.toList.drop k) = s.data.toList.drop k3) := eR
    have hk1 : k1 ≤ s.size := by rw [← HK1.out]; exact run_rest_le _ s k hk
    have hk2 : k2 ≤ s.size := by rw [← HK2.out]; exact run_rest_le _ s k1 hk1
    have hk3 : k3 ≤ s.size := by rw [← HK3.out]; exact run_rest_le _ s k2 hk2
    have hkk : k ≤ k1 ∧ k1 ≤ k2 ∧ k2 ≤ k3 := ⟨by rw [← HK1.out]; omega, by rw [← HK2.out]; omega, by rw [← HK3.out]; omega⟩
    have HGK : Hid (s.size - k = gk) := hgk
    have HKK : Hid (k ≤ k1 ∧ k1 ≤ k2 ∧ k2 ≤ k3) := hkk
    clear eW eR hgk hkk HC1 hb1 hz1
    go_wp2_with fail
    refine (blanks_any w.heap.size s (by omega) k _ HO.out.2.2.2).mono ?_
    rintro e w2 ⟨rfl, hc2, hg2⟩
    rw [HK1.out] at hc2
    have HC2 : Hid (Cur w2 w.heap.size s k1 ∧ OwnS w2 (w.heap.size + 1) (.slice a n cap) (xs.take 41)) := ⟨hc2, HO.out.1.grown hg2 (by omega)⟩
    have hb2 : Below w.heap.size w w2 := hb.grown hg2 (by omega) (fun i hi => by injection hi with hi; omega)
    have hz2 : w.heap.size < w2.heap.size := Nat.lt_of_lt_of_le hz hg2.size
    clear hc2 hg2
    go_wp2_with fail
    refine (word_any w.heap.size s hs k1 _ HC2.out.1).mono ?_
    rintro e w3 ⟨t, rfl, ht, HT, hc3, hg3⟩
    rw [HK2.out] at hc3
    have HC3 : Hid (Cur w3 w.heap.size s k2 ∧ OwnS w3 (w.heap.size + 1) (.slice a n cap) (xs.take 41)) := ⟨hc3, HC2.out.2.grown hg3 (by omega)⟩
    have hb3 : Below w.heap.size w w3 := hb2.grown hg3 (by omega) (fun i hi => by injection hi with hi; omega)
    have hz3 : w.heap.size < w3.heap.size := Nat.lt_of_lt_of_le hz2 hg3.size
    have HTW : Hid (t.data.toList = wordP (s.data.toList.drop k)) := by show _ = _; rw [HT.out, EW.out]
    clear hc3 hg3 ht hb hz hb2 hz2
    obtain ⟨q, HQ⟩ : ∃ q : Bool, Hid (decide (t.size ≠ 0 ∧ n ≤ 40) = q) := ⟨_, rfl⟩
    go_upto_region 5 with fail
    go_cut [19] (fun v wc => v = .bool q ∧ wc = w3)
    case first =>
      by_cases ht0 : t.size = 0
      · have hq : q = false := by rw [← HQ.out]; exact decide_eq_false (fun h => h.1 ht0)
        obtain rfl := empty_at ht0
        subst hq
        go_wp2
        go_meet
        exact ⟨rfl, rfl⟩
      · have hne : t.toList.isEmpty = false := not_empty_at ht0
        by_cases h40 : n ≤ 40
        · have h40' : (n : Int) ≤ 40 := by omega
          have hq : q = true := by rw [← HQ.out]; exact decide_eq_true ⟨ht0, h40⟩
          subst hq
          go_wp2
          go_meet
          exact ⟨rfl, rfl⟩
        · have h40' : ¬ (n : Int) ≤ 40 := by omega
          have hq : q = false := by rw [← HQ.out]; exact decide_eq_false (fun h => h40 h.2)
          subst hq
          go_wp2
          go_meet
          exact ⟨rfl, rfl⟩
    case rest =>
    obtain ⟨rfl, hw3⟩ := hcut
    obtain rfl := hw3.symm
    clear hw3
    go_upto_if 19 with fail
    go_cut [4] (fun v wc => ∃ (n' cap' : Nat) (a' : Option Addr) (ys : List ByteArray), n' ≤ 41 ∧ v = .slice a' n' cap' ∧ Hid (OwnS wc (w.heap.size + 1) (.slice a' n' cap') (ys.take 41) ∧ (ys.take 41).length = n' ∧ texts ys = texts xs ++ consW (wordP (s.data.toList.drop k)) [] ∧ Cur wc w.heap.size s k2) ∧ Below w.heap.size w wc ∧ w.heap.size < wc.heap.size)
    case first =>
      cases q
      · have hor : t.size = 0 ∨ 40 < n := by
          have := of_decide_eq_false HQ.out
          omega
        by_cases ht0 : t.size = 0
        · have HX : Hid (texts xs = texts xs ++ consW (wordP (s.data.toList.drop k)) []) := texts_same xs t _ HTW.out ht0
          go_wp2
          go_meet
          exact ⟨n, cap, a, xs, hn, rfl, ⟨HC3.out.2, HO.out.2.1, HX, HC3.out.1⟩, hb3, hz3⟩
        · have HX : Hid (texts (xs ++ [t]) = texts xs ++ consW (wordP (s.data.toList.drop k)) []) := texts_snoc xs t _ HTW.out ht0
          have HXL2 : Hid ((xs ++ [t]).take 41 = xs.take 41) := by
            show _ = _
            rw [List.take_append_of_le_length]
            have := HO.out.2.1
            rw [List.length_take] at this
            omega
          go_wp2
          go_meet
          exact ⟨n, cap, a, xs ++ [t], hn, rfl, ⟨by rw [HXL2.out]; exact HC3.out.2, by rw [HXL2.out]; exact HO.out.2.1, HX, HC3.out.1⟩, hb3, hz3⟩
      · have hand : t.size ≠ 0 ∧ n ≤ 40 := of_decide_eq_true HQ.out
        obtain ⟨ht0, h40⟩ := hand
        have HX : Hid (texts (xs ++ [t]) = texts xs ++ consW (wordP (s.data.toList.drop k)) []) := texts_snoc xs t _ HTW.out ht0
        have HXL : Hid (xs.take 41 = xs) := List.take_of_length_le (by have := HO.out.2.1; rw [List.length_take] at this; omega)
        have HXL2 : Hid ((xs ++ [t]).take 41 = xs.take 41 ++ [t]) := by
          show _ = _
          rw [HXL.out, List.take_of_length_le]
          have := HO.out.2.1
          rw [HXL.out] at this
          simp
          omega
        go_wp2_with (at_builtin; refine wp_apps rfl _ _ rfl (w.heap.size + 1) w3 (.slice a n cap) (xs.take 41) n rfl HC3.out.2 HO.out.2.1 (by omega) (by omega) t rfl ?_; intro g4 cap4 w4 hown4 hg4 hlt4; have HO4 : Hid (OwnS w4 (w.heap.size + 1) (.slice (some ⟨g4, 0, none⟩) (n + 1) cap4) (xs.take 41 ++ [t]) ∧ Cur w4 w.heap.size s k2) := ⟨hown4, (HC3.out.1.below ((Below.refl _ _).alloc (Nat.le_refl _) _)).grown hg4 (fun e => by have := (HC3.out.2.lt _ e.symm).1; omega)⟩; have hb4 : Below w.heap.size w w4 := (hb3.alloc (by omega) _).grown hg4 (by simp; omega) (fun i hi => by have := (HC3.out.2.lt _ hi).1; omega); have hz4 : w.heap.size < w4.heap.size := (by have := hg4.size; simp at this; omega); clear hown4 hg4 hlt4)
        go_meet
        exact ⟨n + 1, cap4, some ⟨g4, 0, none⟩, xs ++ [t], by omega, rfl, ⟨by rw [HXL2.out]; exact HO4.out.1, by rw [HXL2.out, List.length_append, HO.out.2.1]; rfl, HX, HO4.out.2⟩, hb4, hz4⟩
    case rest =>
      obtain ⟨n', cap', a', ys, hn', rfl, HY, hbc, hzc⟩ := hcut
      go_wp2_with fail
      refine (blanks_any w.heap.size s (by omega) k2 _ HY.out.2.2.2).mono ?_
      rintro e w5 ⟨rfl, hc5, hg5⟩
      rw [HK3.out] at hc5
      have HC5 : Hid (Cur w5 w.heap.size s k3 ∧ OwnS w5 (w.heap.size + 1) (.slice a' n' cap') (ys.take 41)) := ⟨hc5, HY.out.1.grown hg5 (by omega)⟩
      have hb5 : Below w.heap.size w w5 := hbc.grown hg5 (by omega) (fun i hi => by injection hi with hi; omega)
      have hz5 : w.heap.size < w5.heap.size := Nat.lt_of_lt_of_le hzc hg5.size
      clear hc5 hg5 hbc hzc hb3 hz3
      go_wp2_with fail
      refine (end_any w.heap.size s k3 _ HC5.out.1).mono ?_
      rintro e w6 ⟨rfl, nd, rfl⟩
      by_cases hend : k3 = s.size
      · have hE : ((k3 : Int) == (s.size : Int)) = true := by rw [hend]; simp
        rw [hE]
        have HA : Hid (listP 0 (splitL 44 s.data.toList) = .ok (texts ys)) := by
          show _ = _
          rw [HY.out.2.2.1]
          refine listAt_end HO.out.2.2.1 ?_
          rw [ER.out, hend, List.drop_of_length_le (by rw [len_data]; exact Nat.le_refl _)]
        have HL : Hid ((ys.take 41).length = n') := HY.out.2.1
        by_cases hbig : (40 : Int) < (n' : Int)
        · go_wp2
          go_ret2
          refine ⟨.inr (.inl ⟨ys, HA, ?_, rfl⟩), drewN_at hb5 _⟩
          have := HL.out
          rw [List.length_take] at this
          omega
        · have HXL : Hid (ys.take 41 = ys) := List.take_of_length_le (by have := HL.out; rw [List.length_take] at this; omega)
          go_wp2
          go_ret2
          refine ⟨.inl ⟨ys, _, HA, ?_, rfl, ?_⟩, drewN_at hb5 _⟩
          · have := HL.out
            rw [HXL.out] at this
            omega
          · have := HC5.out.2
            rw [HXL.out] at this
            exact this
      · have hE : ((k3 : Int) == (s.size : Int)) = false := beq_eq_false_iff_ne.2 (by omega)
        rw [hE]
        have hlt3 : k3 < s.size := by omega
        obtain ⟨c, hcd⟩ : ∃ c : UInt8, s[k3] = c := ⟨_, rfl⟩
        have HD : Hid (restP (s.data.toList.drop k) = c :: s.data.toList.drop (k3 + 1)) := by
          show _ = _
          rw [ER.out, List.drop_eq_getElem_cons (by rw [len_data]; exact hlt3), ← hcd]
          rfl
        by_cases h44 : c = 44
        · subst h44
          have HA : Hid (ListAt s.data.toList (texts ys) (k3 + 1)) := by
            show ListAt _ _ _
            rw [HY.out.2.2.1]
            refine listAt_more HO.out.2.2.1 HD.out _ rfl ?_
            rw [List.length_drop, List.length_drop, len_data]
            have := HKK.out
            omega
          go_wp2_with fail
          refine (mark_yes w.heap.size s (by omega) k3 hlt3 44 hcd _ (HC5.out.1.drewN nd)).mono ?_
          rintro e w7 ⟨rfl, hc7, hg7⟩
          have HC7 : Hid (Cur w7 w.heap.size s (k3 + 1) ∧ OwnS w7 (w.heap.size + 1) (.slice a' n' cap') (ys.take 41)) := ⟨hc7, OwnS.grown (w := w5.drewN nd) HC5.out.2 hg7 (by omega)⟩
          have hb7 : Below w.heap.size w w7 := (drewN_at hb5 nd).grown hg7 (by show w.heap.size ≤ w5.heap.size; omega) (fun i hi => by injection hi with hi; omega)
          have hz7 : w.heap.size < w7.heap.size := Nat.lt_of_lt_of_le hz5 hg7.size
          clear hc7 hg7
          go_wp2
          go_roundg (s.size - (k3 + 1))
          case measure => have := HKK.out; have := HGK.out; omega
          case rel => exact ⟨k3 + 1, n', cap', a', ys, rfl, by omega, hn', rfl, ⟨HC7.out.2, HY.out.2.1, HA, HC7.out.1⟩, hb7, hz7⟩
        · have HA : Hid (listP 0 (splitL 44 s.data.toList) = .error k3) := by
            show _ = _
            rw [listAt_bad HO.out.2.2.1 HD.out h44, ER.out, List.length_drop, List.length_drop, len_data]
            congr 1
            have := HKK.out
            omega
          go_wp2_with fail
          refine (mark_other w.heap.size s k3 hlt3 44 (by rw [hcd]; exact h44) _ (HC5.out.1.drewN nd)).mono ?_
          rintro e w7 ⟨rfl, ne, rfl⟩
          go_wp2_with fail
          refine (at_any w.heap.size s k3 _ (HC5.out.1.drewN (nd + ne))).mono ?_
          rintro e w8 ⟨rfl, rfl⟩
          go_wp2
          go_ret2
          refine ⟨.inr (.inr ⟨k3, _, HA, rfl, ?_, ?_, ?_⟩), ?_⟩
          · exact cells_at _ _ _ 0
          · exact cells_at _ _ _ 1
          · exact hz5
          · exact (drewN_at hb5 (nd + ne)).alloc (by show w.heap.size ≤ w5.heap.size; omega) _
end Go.Proofs.YtoblpjknnchlmacGreatDoor

/- The words that a field tells. -/
namespace Go.Proofs.YtoblpjknnchlmacGreatDoor

/-- The words of a list, if it can be read and holds no more than forty. -/
def wordsO (x : List UInt8) : Option (List ByteArray) := match listP 0 (splitL 44 x) with
  | .ok ws => if ws.length ≤ 40 then some (ws.map bs) else none
  | .error _ => none
theorem texts_bs (xs : List ByteArray) : (texts xs).map bs = xs := by
  unfold texts
  rw [List.map_map]
  conv => rhs; rw [← List.map_id xs]
  apply List.map_congr_left
  intro x _
  exact bs_self x
theorem wordsO_ok {x : List UInt8} {xs : List ByteArray} (h : listP 0 (splitL 44 x) = .ok (texts xs)) (hl : xs.length ≤ 40) : wordsO x = some xs := by
  unfold wordsO
  rw [h]
  show (if (texts xs).length ≤ 40 then _ else _) = _
  rw [if_pos (by unfold texts; simpa using hl), texts_bs]
theorem wordsO_many {x : List UInt8} {xs : List ByteArray} (h : listP 0 (splitL 44 x) = .ok (texts xs)) (hl : 40 < xs.length) : wordsO x = none := by
  unfold wordsO
  rw [h]
  show (if (texts xs).length ≤ 40 then _ else _) = _
  rw [if_neg (by unfold texts; simp; omega)]
theorem wordsO_bad {x : List UInt8} {p : Nat} (h : listP 0 (splitL 44 x) = .error p) : wordsO x = none := by
  unfold wordsO
  rw [h]
theorem splitL_lens (d : UInt8) : ∀ (l : List UInt8) (p : List UInt8), p ∈ splitL d l → p.length ≤ l.length
  | [], p, h => by
    rw [splitL] at h
    rw [List.mem_singleton.1 h]
    exact Nat.le_refl _
  | c :: t, p, h => by
    have ih := splitL_lens d t
    rw [splitL] at h
    split at h
    · rcases List.mem_cons.1 h with h | h
      · rw [h]; exact Nat.zero_le _
      · have := ih p h
        rw [List.length_cons]
        omega
    · split at h
      · rename_i h2
        rw [List.mem_singleton.1 h]
        simp
      · rename_i q r h2
        rcases List.mem_cons.1 h with h | h
        · rw [h]
          have := ih q (by rw [h2]; exact List.mem_cons_self)
          simp
          omega
        · have := ih p (by rw [h2]; exact List.mem_cons_of_mem _ h)
          rw [List.length_cons]
          omega
theorem listP_lens : ∀ (P : List (List UInt8)) (k : Nat) (ws : List (List UInt8)) (n : Nat), listP k P = .ok ws → (∀ p ∈ P, p.length ≤ n) → ∀ w ∈ ws, w.length ≤ n
  | [], k, ws, n, h, _, w, hw => by
    simp only [listP, Except.ok.injEq] at h
    rw [← h] at hw
    cases hw
  | p :: r, k, ws, n, h, hn, w, hw => by
    rw [listP] at h
    split at h
    · rcases e : listP (k + p.length + 1) r with x | ys
      · rw [e] at h
        cases h
      · rw [e] at h
        have h' : consW (wordP p) ys = ws := by injection h
        rw [← h'] at hw
        have hwp : (wordP p).length ≤ n := by
          have h1 := hn p List.mem_cons_self
          have h2 : (wordP p).length ≤ p.length := by
            unfold wordP
            exact Nat.le_trans (List.Sublist.length_le (List.takeWhile_sublist _)) (List.Sublist.length_le (List.dropWhile_sublist _))
          omega
        have ih := listP_lens r _ ys n e (fun q hq => hn q (List.mem_cons_of_mem _ hq))
        unfold consW at hw
        split at hw
        · exact ih w hw
        · rcases List.mem_cons.1 hw with hw | hw
          · rw [hw]; exact hwp
          · exact ih w hw
    · cases h
theorem wordsO_len {x : List UInt8} {xs : List ByteArray} (h : wordsO x = some xs) : xs.length ≤ 40 ∧ ∀ w ∈ xs, w.size ≤ x.length := by
  unfold wordsO at h
  split at h
  · rename_i ws hws
    split at h
    · rename_i hl
      simp only [Option.some.injEq] at h
      rw [← h]
      refine ⟨by simpa using hl, fun w hw => ?_⟩
      obtain ⟨v, hv, rfl⟩ := List.mem_map.1 hw
      rw [bs_size]
      exact listP_lens _ _ _ _ hws (fun p hp => splitL_lens 44 x p hp) v hv
    · cases h
  · cases h
def mN : List UInt8 := [65, 99, 99, 101, 115, 115, 45, 67, 111, 110, 116, 114, 111, 108, 45, 65, 108, 108, 111, 119, 45, 77, 101, 116, 104, 111, 100, 115]
def hN : List UInt8 := [65, 99, 99, 101, 115, 115, 45, 67, 111, 110, 116, 114, 111, 108, 45, 65, 108, 108, 111, 119, 45, 72, 101, 97, 100, 101, 114, 115]
end Go.Proofs.YtoblpjknnchlmacGreatDoor

/- The lines of an answer. -/
namespace Go.Proofs.YtoblpjknnchlmacGreatDoor

/-- A line without what ends it. -/
def lineT (l : List UInt8) : List UInt8 := Lib.trimSuffix l [13]
/-- The name and the value of a line. -/
def lineF (l : List UInt8) : Option Par := if (cutL 58 l).2.2 && isL (cutL 58 l).1 then some (bs (cutL 58 l).1, bs (trimW (cutL 58 l).2.1)) else none
/-- What lines tell, from line number i on; or the line that tells none, or that there are too many. -/
def runF : Nat → List Par → List (List UInt8) → Except (Option Nat) (List Par)
  | _, acc, [] => .ok acc
  | i, acc, l :: r => if lineT l = [] then runF (i + 1) acc r else match lineF (lineT l) with
    | none => .error (some i)
    | some x => if acc.length = 40 then .error none else runF (i + 1) (acc ++ [x]) r
def fieldsF (s : List UInt8) : Except (Option Nat) (List Par) := runF 0 [] (splitL 10 s)
theorem runF_skip {i : Nat} {acc : List Par} {l : List UInt8} {r : List (List UInt8)} (h : lineT l = []) : runF i acc (l :: r) = runF (i + 1) acc r := by
  rw [runF, if_pos h]
theorem runF_bad {i : Nat} {acc : List Par} {l : List UInt8} {r : List (List UInt8)} (h : lineT l ≠ []) (hl : lineF (lineT l) = none) : runF i acc (l :: r) = .error (some i) := by
  rw [runF, if_neg h, hl]
theorem runF_many {i : Nat} {acc : List Par} {l : List UInt8} {r : List (List UInt8)} {x : Par} (h : lineT l ≠ []) (hl : lineF (lineT l) = some x) (ha : acc.length = 40) : runF i acc (l :: r) = .error none := by
  rw [runF, if_neg h, hl]
  show (if acc.length = 40 then _ else _) = _
  rw [if_pos ha]
theorem runF_next {i : Nat} {acc : List Par} {l : List UInt8} {r : List (List UInt8)} {x : Par} (h : lineT l ≠ []) (hl : lineF (lineT l) = some x) (ha : acc.length ≠ 40) : runF i acc (l :: r) = runF (i + 1) (acc ++ [x]) r := by
  rw [runF, if_neg h, hl]
  show (if acc.length = 40 then _ else _) = _
  rw [if_neg ha]
theorem lineF_none1 {l a b : List UInt8} (h : cutL 58 l = (a, b, false)) : lineF l = none := by unfold lineF; rw [h]; rfl
theorem lineF_none2 {l a b : List UInt8} (h : cutL 58 l = (a, b, true)) (hi : isL a = false) : lineF l = none := by unfold lineF; rw [h]; simp [hi]
theorem lineF_some {l a b : List UInt8} (h : cutL 58 l = (a, b, true)) (hi : isL a = true) : lineF l = some (bs a, bs (trimW b)) := by unfold lineF; rw [h]; simp [hi]
end Go.Proofs.YtoblpjknnchlmacGreatDoor

/- One parameter more at a row of parameters that a call owns. -/
namespace Go.Proofs.YtoblpjknnchlmacGreatDoor
open Go.RowKit

theorem infoP : (Tryz.prog.info? 58).map (fun i => (i.zero, i.size, i.bytes)) = some (some (.agg #[.string ⟨#[]⟩, .string ⟨#[]⟩]), 2, 32) := by kernel_rfl
def parCells : List Par → List Value
  | [] => []
  | p :: r => .string p.1 :: .string p.2 :: parCells r
theorem parCells_app (a b : List Par) : parCells (a ++ b) = parCells a ++ parCells b := by
  induction a with
  | nil => rfl
  | cons p r ih => simp [parCells, ih]
theorem parCells_at : ∀ (ps : List Par) (j : Nat) (p : Par), ps[j]? = some p → (parCells ps)[j * 2]? = some (.string p.1) ∧ (parCells ps)[j * 2 + 1]? = some (.string p.2)
  | [], j, p, h => by simp at h
  | q :: r, 0, p, h => by
    simp at h
    subst h
    exact ⟨rfl, rfl⟩
  | q :: r, j + 1, p, h => by
    have h' : r[j]? = some p := by simpa using h
    have := parCells_at r j p h'
    rw [show (j + 1) * 2 = j * 2 + 1 + 1 by omega]
    simpa [parCells] using this
/-- A value of type []api.Param that owns these, among the blocks from B on. -/
def OwnP (w : World) (B : Nat) (v : Value) (ps : List Par) : Prop := w.ownsRow B 58 2 v ps.length (parCells ps)
theorem OwnP.lt {w : World} {B : Nat} {v : Value} {ps : List Par} (h : OwnP w B v ps) : ∀ k, v.ownBlock = some k → B ≤ k ∧ k < w.heap.size := World.ownsRow.lt h
theorem OwnP.grown {w w' : World} {B b : Nat} {v : Value} {ps : List Par} (h : OwnP w B v ps) (hg : w.grownBy w' (some b)) (hb : b < B) : OwnP w' B v ps := by
  refine World.ownsRow.kept h hg (.inr ?_)
  intro e
  have := (h.lt b e).1
  omega
theorem OwnP.below {w w' : World} {B : Nat} {v : Value} {ps : List Par} (h : OwnP w B v ps) (hb : Below w.heap.size w w') : OwnP w' B v ps := by
  refine World.ownsRow.kept (row := none) h ⟨hb.os, hb.tape, hb.output, hb.size, fun i hi _ => hb.block i hi⟩ ?_
  rcases v.ownBlock with _ | k
  · exact .inl rfl
  · exact .inr (by simp)
theorem ownP_nil (w : World) (B : Nat) : OwnP w B (.slice none 0 0) [] := ⟨rfl, .inl ⟨rfl, rfl⟩⟩
theorem OwnP.pars {w : World} {B : Nat} {v : Value} {ps : List Par} (h : OwnP w B v ps) : ∃ (a : Option Addr) (cap g : Nat), v = .slice a ps.length cap ∧ Pars w a ps.length g 0 ps ∧ (0 < ps.length → B ≤ g) := by
  rcases h.2 with ⟨rfl, h0⟩ | ⟨g, cap, cur, rfl, hBg, hh, _, _, _, ht⟩
  · refine ⟨none, 0, 0, by rw [h0], ⟨rfl, fun h1 => absurd h0 (by omega), fun j x hx => ?_, fun j x hx => ?_⟩, fun h1 => by omega⟩
    · have := (List.getElem?_eq_some_iff.1 hx).1; omega
    · have := (List.getElem?_eq_some_iff.1 hx).1; omega
  · refine ⟨_, cap, g, rfl, ⟨rfl, fun _ => ⟨rfl, (Array.getElem?_eq_some_iff.1 hh).1⟩, fun j x hx => ?_, fun j x hx => ?_⟩, fun _ => hBg⟩
    · have hj := World.ownsRow.cells h (g := g) rfl (j * 2) (.string x.1) (parCells_at ps j x hx).1
      rw [WideShapes.add_plain] at hj
      exact hj
    · have hj := World.ownsRow.cells h (g := g) rfl (j * 2 + 1) (.string x.2) (parCells_at ps j x hx).2
      rw [WideShapes.add_plain] at hj
      rw [Nat.add_assoc]
      exact hj
theorem wp_appp {ops : Array Oper} {rest : List Oper} {o : Oper} {a : Act} {Q : Exit → Act → World → Prop} (hgd : o.guard = none) (s x : Operand)
    (ho : o.op = .call { callee := .builtin .append, args := #[s, x], argTypes := #[26, 26] })
    (B : Nat) (wr : World) (v : Value) (ps : List Par) (n : Nat) (hs : a.eval s = v) (hown : OwnP wr B v ps) (hn : ps.length = n) (hl : n ≤ 100000) (hB : B ≤ wr.heap.size)
    (p : Par) (H : Nat) (hH : wr.heap.size = H) (hx : a.eval x = .slice (some ⟨H, 0, none⟩) 1 1)
    (h : ∀ g cap w', OwnP w' B (.slice (some ⟨g, 0, none⟩) (n + 1) cap) (ps ++ [p]) → (wr.alloc (.cells #[.string p.1, .string p.2] 58)).grownBy w' v.ownBlock → g < w'.heap.size → wpList Tryz.prog ops Q rest (a.put o.dst (.slice (some ⟨g, 0, none⟩) (n + 1) cap)) w') :
    wpList Tryz.prog ops Q (o :: rest) a (wr.alloc (.cells #[.string p.1, .string p.2] 58)) := by
  subst hn hH
  obtain ⟨i0, hi0, hz0, hz1, hz2⟩ := info_parts infoP
  refine wpList_append_lies _ hgd s x 26 ho B 58 i0 (.agg #[.string ⟨#[]⟩, .string ⟨#[]⟩]) 2 32 Tryz.underlying26 hi0 hz0 hz1 hz2 rfl (by omega) v ps.length _ hs (World.ownsRow.alloc hown _) ⟨wr.heap.size, 0, none⟩ 1 1 [.string p.1, .string p.2] hx rfl
    (World.news_of_block (cs := #[.string p.1, .string p.2]) (t := 58) (fr := (0, 0)) (heap_alloc_new wr _)) (by simp [Value.oneCell']) (by omega) (by unfold maxLen; omega) (by omega) (by simp; omega) _ rfl ?_
  intro g cap w' hown1 hgrow _ hlt
  refine h g cap w' ?_ hgrow hlt
  unfold OwnP
  rw [List.length_append, parCells_app]
  exact hown1
end Go.Proofs.YtoblpjknnchlmacGreatDoor

/- Whether a text is a word, by the program. -/
namespace Go.Proofs.YtoblpjknnchlmacGreatDoor
open Go.RowKit

set_option maxHeartbeats 1000000 in
theorem is_any (s : ByteArray) (hs : s.size ≤ 5000) (w : World) :
    Calls Tryz.prog 21 #[.string s] w fun e w' => e = .returned (.bool (isL s.data.toList)) ∧ w' = w := by
  by_cases h0 : s.size = 0
  · have HI : Hid (isL s.data.toList = false) := isL_empty s h0
    obtain rfl : s = ⟨#[]⟩ := by
      apply ByteArray.ext
      exact Array.eq_empty_of_size_eq_zero h0
    go_enter Tryz.func21, Tryz.ntmps21
    go_wp2
    go_ret
    exact ⟨ret_bool HI.out.symm, rfl⟩
  · have HI : Hid (isL s.data.toList = decide ((runL tokB s.data.toList : Int) = (s.size : Int))) := isL_run s (by omega)
    have hne : (s.toList == ([] : List UInt8)) = false := by
      rw [beq_eq_false_iff_ne]
      intro e
      have h5 : s.data.toList = [] := by
        rw [← ByteArray.toList_eq]
        exact e
      have h6 : s.data.toList.length = s.size := Array.length_toList
      rw [h5] at h6
      exact h0 h6.symm
    obtain ⟨n, HN⟩ : ∃ n : Int, Hid ((runL tokB s.data.toList : Int) = n) := ⟨_, rfl⟩
    go_enter Tryz.func21, Tryz.ntmps21
    go_wp2_with (go_at_call 40; refine (run_any _ _ kind_byte s (by omega) _).mono ?_; rintro e w' ⟨rfl, rfl⟩; rw [HN.out])
    go_ret
    exact ⟨ret_bool (by rw [HI.out, HN.out]; rfl), rfl⟩
end Go.Proofs.YtoblpjknnchlmacGreatDoor

/- The library's contracts that are leant on, laid at this program's numbers. -/
namespace Go.Proofs.YtoblpjknnchlmacGreatDoor
open Go.Shelf Go.RowKit
def lays146_ren : Go.Shelf.Ren := ⟨fun | 146 => 18 | 221 => 37 | 268 => 67 | 138 => 68 | 143 => 69 | 195 => 98 | 197 => 75 | 218 => 99 | 219 => 71 | 260 => 104 | 217 => 100 | 225 => 101 | 224 => 102 | 267 => 103 | 266 => 117 | 314 => 118 | n => n, fun | 9 => 9 | 31 => 47 | 3 => 3 | 4 => 4 | 0 => 0 | 105 => 109 | 21 => 21 | 5 => 5 | 46 => 104 | 119 => 146 | 139 => 149 | 138 => 148 | 146 => 144 | 51 => 126 | n => n, fun | 1 => 2 | 3 => 3 | 4 => 4 | n => n⟩
theorem lays146 : Go.Proofs.Lays.n146 Tryz.prog lays146_ren := {
  mixed := by kernel_rfl
  f138 := Tryz.func68.trans (congrArg some (by kernel_rfl))
  f143 := Tryz.func69.trans (congrArg some (by kernel_rfl))
  f146 := Tryz.func18.trans (congrArg some (by kernel_rfl))
  f195 := Tryz.func98.trans (congrArg some (by kernel_rfl))
  f197 := Tryz.func75.trans (congrArg some (by kernel_rfl))
  f217 := Tryz.func100.trans (congrArg some (by kernel_rfl))
  f218 := Tryz.func99.trans (congrArg some (by kernel_rfl))
  f219 := Tryz.func71.trans (congrArg some (by kernel_rfl))
  f221 := Tryz.func37.trans (congrArg some (by kernel_rfl))
  f224 := Tryz.func102.trans (congrArg some (by kernel_rfl))
  f225 := Tryz.func101.trans (congrArg some (by kernel_rfl))
  f260 := Tryz.func104.trans (congrArg some (by kernel_rfl))
  f266 := Tryz.func117.trans (congrArg some (by kernel_rfl))
  f267 := Tryz.func103.trans (congrArg some (by kernel_rfl))
  f268 := Tryz.func67.trans (congrArg some (by kernel_rfl))
  f314 := Tryz.func118.trans (congrArg some (by kernel_rfl))
  t0 := Tryz.underlying0
  a0 := Tryz.isAgg0
  z0 := Tryz.sizeOf0
  v0 := Tryz.zeroValue0
  t3 := Tryz.underlying3
  a3 := Tryz.isAgg3
  z3 := Tryz.sizeOf3
  v3 := Tryz.zeroValue3
  t4 := Tryz.underlying4
  a4 := Tryz.isAgg4
  z4 := Tryz.sizeOf4
  v4 := Tryz.zeroValue4
  t5 := Tryz.underlying5
  a5 := Tryz.isAgg5
  z5 := Tryz.sizeOf5
  v5 := Tryz.zeroValue5
  t9 := Tryz.underlying9
  a9 := Tryz.isAgg9
  z9 := Tryz.sizeOf9
  v9 := Tryz.zeroValue9
  t21 := Tryz.underlying21
  a21 := Tryz.isAgg21
  z21 := Tryz.sizeOf21
  v21 := Tryz.zeroValue21
  t31 := Tryz.underlying47
  a31 := Tryz.isAgg47
  z31 := Tryz.sizeOf47
  v31 := Tryz.zeroValue47
  t46 := Tryz.underlying104
  a46 := Tryz.isAgg104
  z46 := Tryz.sizeOf104
  v46 := Tryz.zeroValue104
  t51 := Tryz.underlying126
  a51 := Tryz.isAgg126
  z51 := Tryz.sizeOf126
  v51 := Tryz.zeroValue126
  t105 := Tryz.underlying109
  a105 := Tryz.isAgg109
  z105 := Tryz.sizeOf109
  v105 := Tryz.zeroValue109
  t119 := Tryz.underlying146
  a119 := Tryz.isAgg146
  z119 := Tryz.sizeOf146
  t138 := Tryz.underlying148
  a138 := Tryz.isAgg148
  z138 := Tryz.sizeOf148
  v138 := Tryz.zeroValue148
  t139 := Tryz.underlying149
  a139 := Tryz.isAgg149
  z139 := Tryz.sizeOf149
  v139 := Tryz.zeroValue149
  t146 := Tryz.underlying144
  a146 := Tryz.isAgg144
  z146 := Tryz.sizeOf144
  v146 := Tryz.zeroValue144
  g1 := by kernel_rfl
  g3 := by kernel_rfl
  g4 := by kernel_rfl }
end Go.Proofs.YtoblpjknnchlmacGreatDoor

/- strings.Split at one byte, without a word on internal/bytealg.MaxLen. -/
namespace Go.Proofs.YtoblpjknnchlmacGreatDoor
open Go.RowKit Go.Shelf

theorem indexB_ix (s : ByteArray) (c : UInt8) : Lib.indexB s ⟨#[c]⟩ = ixOf s.data.toList c := Lib.index_one s.data.toList c
theorem countB_ct (s : ByteArray) (c : UInt8) : Lib.countB s ⟨#[c]⟩ = s.data.toList.count c := Lib.count_one c s.data.toList
theorem splitB_list (c : UInt8) : ∀ (k : Nat) (s : ByteArray), s.data.toList.count c ≤ k → (Lib.splitB ⟨#[c]⟩ 0 k s).map (·.data.toList) = splitL c s.data.toList
  | k, s, hk => by
    rcases ixOf_first s.data.toList c with ⟨hi, hno⟩ | ⟨n, hn, hi, hno, hsp⟩
    · rw [Lib.splitB_miss _ _ _ _ ((indexB_ix s c).trans hi), splitL_part c _ hno]
      rfl
    · have hc : s.data.toList.count c = (s.data.toList.drop (n + 1)).count c + 1 := by
        conv => lhs; rw [hsp]
        rw [List.count_append, List.count_eq_zero.2 hno, List.count_cons_self]
        omega
      cases k with
      | zero => omega
      | succ k =>
        have hl : s.data.toList.length = s.size := Array.length_toList
        have e1 : (s.extract (n + (⟨#[c]⟩ : ByteArray).size) s.size).data.toList = s.data.toList.drop (n + 1) := by
          rw [ByteArray.data_extract, Array.toList_extract, List.extract_eq_take_drop]
          show List.take (s.size - (n + 1)) (List.drop (n + 1) s.data.toList) = _
          rw [List.take_of_length_le (by rw [List.length_drop]; omega)]
        have e0 : (s.extract 0 (n + 0)).data.toList = s.data.toList.take n := by
          rw [ByteArray.data_extract, Array.toList_extract, List.extract_eq_take_drop]
          simp
        rw [Lib.splitB_hit _ _ _ _ n ((indexB_ix s c).trans hi), List.map_cons, splitB_list c k _ (by rw [e1]; omega), e1, e0]
        conv => rhs; rw [hsp]
        rw [splitL_more c _ _ hno]

set_option maxHeartbeats 1000000 in
theorem split_one (s : ByteArray) (c : UInt8) (hs : s.size ≤ 20000) (w : World) :
    Calls Tryz.prog 18 #[.string s, .string ⟨#[c]⟩] w fun e w' => ∃ ps : List ByteArray, e = .returned (.slice (some ⟨w.heap.size, 0, none⟩) ps.length ps.length) ∧ ps.length ≤ s.size + 1 ∧ w' = w.alloc (.cells (ps.map Value.string).toArray 9) ∧ Hid (ps.map (·.data.toList) = splitL c s.data.toList) := by
  have h1 : 1 ≤ (⟨#[c]⟩ : ByteArray).size := Nat.le_refl _
  have hle := Lib.countB_le ⟨#[c]⟩ h1 s.size s (Nat.le_refl _)
  have hlen := Lib.splitB_all ⟨#[c]⟩ h1 0 _ s rfl
  have HL : Hid ((Lib.splitB ⟨#[c]⟩ 0 (Lib.countB s ⟨#[c]⟩) s).map (·.data.toList) = splitL c s.data.toList) := splitB_list c _ s (Nat.le_of_eq (countB_ct s c).symm)
  have hI : ∀ (x : ByteArray) (a : Array Value), x.size ≤ s.size → Calls Tryz.prog (lays146_ren.f 143) #[.string x, .string ⟨#[c]⟩] (w.alloc (.cells a (lays146_ren.t 9))) fun e w' => e = .returned (.int .i64 (Lib.indexB x ⟨#[c]⟩)) ∧ w' = w.alloc (.cells a (lays146_ren.t 9)) := fun x a _ => by
    rw [indexB_ix]
    exact Any.strings_Index_one { lays146 with } x c _
  have hC : Calls Tryz.prog (lays146_ren.f 138) #[.string s, .string ⟨#[c]⟩] w fun e w' => e = .returned (.int .i64 (Lib.countB s ⟨#[c]⟩)) ∧ w' = w := by
    rw [countB_ct]
    exact Any.strings_Count_one { lays146 with } s c w
  have g := Any.strings_genSplit_core { lays146 with } (by kernel_rfl) s ⟨#[c]⟩ 0 (-1) (Lib.countB s ⟨#[c]⟩ + 1) w (by omega) h1 (Nat.zero_le _) hI hC (by decide) (by decide) (by rw [if_pos (by decide)]; omega)
  rw [Nat.add_sub_cancel] at g
  have e2 : Lib.cellsOf (Lib.splitB ⟨#[c]⟩ 0 (Lib.countB s ⟨#[c]⟩) s) (Lib.countB s ⟨#[c]⟩ + 1) = ((Lib.splitB ⟨#[c]⟩ 0 (Lib.countB s ⟨#[c]⟩) s).map Value.string).toArray := by rw [← hlen]; exact Lib.cellsOf_full _
  rw [e2, ← hlen] at g
  have hl2 : (Lib.splitB ⟨#[c]⟩ 0 (Lib.countB s ⟨#[c]⟩) s).length ≤ s.size + 1 := by omega
  clear e2 hI hC hle hlen
  generalize Lib.splitB ⟨#[c]⟩ 0 (Lib.countB s ⟨#[c]⟩) s = ps at g HL hl2
  have g2 : Calls Tryz.prog 37 #[.string s, .string ⟨#[c]⟩, .int .i64 0, .int .i64 (-1)] w fun e w' => e = .returned (.slice (some ⟨w.heap.size, 0, none⟩) ps.length ps.length) ∧ w' = w.alloc (.cells (ps.map Value.string).toArray 9) := g
  clear g
  go_enter Tryz.func18, Tryz.ntmps18
  go_wp2_with (go_at_call 37; refine g2.mono ?_; rintro e w' ⟨rfl, hw⟩; rw [hw])
  go_ret
  exact ⟨ps, rfl, hl2, rfl, HL⟩

end Go.Proofs.YtoblpjknnchlmacGreatDoor
