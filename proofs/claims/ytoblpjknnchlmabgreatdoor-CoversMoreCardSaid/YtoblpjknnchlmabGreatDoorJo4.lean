/- Texts of one claim, joined: each begins with what it proves. -/
import Derived.Test.YtoblpjknnchlmabGreatDoorJo2
import Derived.Test.YtoblpjknnchlmabGreatDoorJo1
import Derived.Test.YtoblpjknnchlmabGreatDoorJo3
import Derived.Shelf.Strings.Split
import Derived.Deep.Onto
import Derived.Deep.LoopGhost
import Derived.Laws.OwnMore
import Derived.Laws.IdiomCopy
import Derived.Deep.Upon
import Derived.Below
import Derived.Shelf.SlicesQ.Load
import Derived.Deep.QuietTactic
import Derived.BigQuiet
/- The lines of an answer. -/
namespace Go.Proofs.YtoblpjknnchlmabGreatDoor

/-- A line without what ends it. -/
def lineT (l : List UInt8) : List UInt8 := Lib.trimSuffix l [13]
/-- The name and the value of a line. -/
def lineF (l : List UInt8) : Option Par := if (cutL 58 l).2.2 && isL (cutL 58 l).1 then some (bs (cutL 58 l).1, bs (trimW (cutL 58 l).2.1)) else none
/-- What lines tell, from line number i on; or the line that tells none, or that there are too many. -/
def runF : Nat → List Par → List (List UInt8) → Except (Option Nat) (List Par)
  | _, acc, [] => .ok acc
  | i, acc, l :: r => if lineT l = [] then runF (i + 1) acc r else match lineF (lineT l) with
    | none => .error (some i)
    | some x => if acc.length = 40 then .error none else runF (i + 1) (acc ++ [x]) r
def fieldsF (s : List UInt8) : Except (Option Nat) (List Par) := runF 0 [] (splitL 10 s)
theorem runF_skip {i : Nat} {acc : List Par} {l : List UInt8} {r : List (List UInt8)} (h : lineT l = []) : runF i acc (l :: r) = runF (i + 1) acc r := by
  rw [runF, if_pos h]
theorem runF_bad {i : Nat} {acc : List Par} {l : List UInt8} {r : List (List UInt8)} (h : lineT l ≠ []) (hl : lineF (lineT l) = none) : runF i acc (l :: r) = .error (some i) := by
  rw [runF, if_neg h, hl]
theorem runF_many {i : Nat} {acc : List Par} {l : List UInt8} {r : List (List UInt8)} {x : Par} (h : lineT l ≠ []) (hl : lineF (lineT l) = some x) (ha : acc.length = 40) : runF i acc (l :: r) = .error none := by
  rw [runF, if_neg h, hl]
  show (if acc.length = 40 then _ else _) = _
  rw [if_pos ha]
theorem runF_next {i : Nat} {acc : List Par} {l : List UInt8} {r : List (List UInt8)} {x : Par} (h : lineT l ≠ []) (hl : lineF (lineT l) = some x) (ha : acc.length ≠ 40) : runF i acc (l :: r) = runF (i + 1) (acc ++ [x]) r := by
  rw [runF, if_neg h, hl]
  show (if acc.length = 40 then _ else _) = _
  rw [if_neg ha]
theorem lineF_none1 {l a b : List UInt8} (h : cutL 58 l = (a, b, false)) : lineF l = none := by unfold lineF; rw [h]; rfl
theorem lineF_none2 {l a b : List UInt8} (h : cutL 58 l = (a, b, true)) (hi : isL a = false) : lineF l = none := by unfold lineF; rw [h]; simp [hi]
theorem lineF_some {l a b : List UInt8} (h : cutL 58 l = (a, b, true)) (hi : isL a = true) : lineF l = some (bs a, bs (trimW b)) := by unfold lineF; rw [h]; simp [hi]
end Go.Proofs.YtoblpjknnchlmabGreatDoor

/- One parameter more at a row of parameters that a call owns. -/
namespace Go.Proofs.YtoblpjknnchlmabGreatDoor
open Go.RowKit

theorem infoP : (Tryz.prog.info? 37).map (fun i => (i.zero, i.size, i.bytes)) = some (some (.agg #[.string ⟨#[]⟩, .string ⟨#[]⟩]), 2, 32) := by kernel_rfl
def parCells : List Par → List Value
  | [] => []
  | p :: r => .string p.1 :: .string p.2 :: parCells r
theorem parCells_app (a b : List Par) : parCells (a ++ b) = parCells a ++ parCells b := by
  induction a with
  | nil => rfl
  | cons p r ih => simp [parCells, ih]
theorem parCells_at : ∀ (ps : List Par) (j : Nat) (p : Par), ps[j]? = some p → (parCells ps)[j * 2]? = some (.string p.1) ∧ (parCells ps)[j * 2 + 1]? = some (.string p.2)
  | [], j, p, h => by simp at h
  | q :: r, 0, p, h => by
    simp at h
    subst h
    exact ⟨rfl, rfl⟩
  | q :: r, j + 1, p, h => by
    have h' : r[j]? = some p := by simpa using h
    have := parCells_at r j p h'
    rw [show (j + 1) * 2 = j * 2 + 1 + 1 by omega]
    simpa [parCells] using this
/-- A value of type []api.Param that owns these, among the blocks from B on. -/
def OwnP (w : World) (B : Nat) (v : Value) (ps : List Par) : Prop := w.ownsRow B 37 2 v ps.length (parCells ps)
theorem OwnP.lt {w : World} {B : Nat} {v : Value} {ps : List Par} (h : OwnP w B v ps) : ∀ k, v.ownBlock = some k → B ≤ k ∧ k < w.heap.size := World.ownsRow.lt h
theorem OwnP.grown {w w' : World} {B b : Nat} {v : Value} {ps : List Par} (h : OwnP w B v ps) (hg : w.grownBy w' (some b)) (hb : b < B) : OwnP w' B v ps := by
  refine World.ownsRow.kept h hg (.inr ?_)
  intro e
  have := (h.lt b e).1
  omega
theorem OwnP.below {w w' : World} {B : Nat} {v : Value} {ps : List Par} (h : OwnP w B v ps) (hb : Below w.heap.size w w') : OwnP w' B v ps := by
  refine World.ownsRow.kept (row := none) h ⟨hb.os, hb.tape, hb.output, hb.size, fun i hi _ => hb.block i hi⟩ ?_
  rcases v.ownBlock with _ | k
  · exact .inl rfl
  · exact .inr (by simp)
theorem ownP_nil (w : World) (B : Nat) : OwnP w B (.slice none 0 0) [] := ⟨rfl, .inl ⟨rfl, rfl⟩⟩
theorem OwnP.pars {w : World} {B : Nat} {v : Value} {ps : List Par} (h : OwnP w B v ps) : ∃ (a : Option Addr) (cap g : Nat), v = .slice a ps.length cap ∧ Pars w a ps.length g 0 ps ∧ (0 < ps.length → B ≤ g) := by
  rcases h.2 with ⟨rfl, h0⟩ | ⟨g, cap, cur, rfl, hBg, hh, _, _, _, ht⟩
  · refine ⟨none, 0, 0, by rw [h0], ⟨rfl, fun h1 => absurd h0 (by omega), fun j x hx => ?_, fun j x hx => ?_⟩, fun h1 => by omega⟩
    · have := (List.getElem?_eq_some_iff.1 hx).1; omega
    · have := (List.getElem?_eq_some_iff.1 hx).1; omega
  · refine ⟨_, cap, g, rfl, ⟨rfl, fun _ => ⟨rfl, (Array.getElem?_eq_some_iff.1 hh).1⟩, fun j x hx => ?_, fun j x hx => ?_⟩, fun _ => hBg⟩
    · have hj := World.ownsRow.cells h (g := g) rfl (j * 2) (.string x.1) (parCells_at ps j x hx).1
      rw [WideShapes.add_plain] at hj
      exact hj
    · have hj := World.ownsRow.cells h (g := g) rfl (j * 2 + 1) (.string x.2) (parCells_at ps j x hx).2
      rw [WideShapes.add_plain] at hj
      rw [Nat.add_assoc]
      exact hj
theorem wp_appp {ops : Array Oper} {rest : List Oper} {o : Oper} {a : Act} {Q : Exit → Act → World → Prop} (hgd : o.guard = none) (s x : Operand)
    (ho : o.op = .call { callee := .builtin .append, args := #[s, x], argTypes := #[26, 26] })
    (B : Nat) (wr : World) (v : Value) (ps : List Par) (n : Nat) (hs : a.eval s = v) (hown : OwnP wr B v ps) (hn : ps.length = n) (hl : n ≤ 100000) (hB : B ≤ wr.heap.size)
    (p : Par) (H : Nat) (hH : wr.heap.size = H) (hx : a.eval x = .slice (some ⟨H, 0, none⟩) 1 1)
    (h : ∀ g cap w', OwnP w' B (.slice (some ⟨g, 0, none⟩) (n + 1) cap) (ps ++ [p]) → (wr.alloc (.cells #[.string p.1, .string p.2] 37)).grownBy w' v.ownBlock → g < w'.heap.size → wpList Tryz.prog ops Q rest (a.put o.dst (.slice (some ⟨g, 0, none⟩) (n + 1) cap)) w') :
    wpList Tryz.prog ops Q (o :: rest) a (wr.alloc (.cells #[.string p.1, .string p.2] 37)) := by
  subst hn hH
  obtain ⟨i0, hi0, hz0, hz1, hz2⟩ := info_parts infoP
  refine wpList_append_lies _ hgd s x 26 ho B 37 i0 (.agg #[.string ⟨#[]⟩, .string ⟨#[]⟩]) 2 32 Tryz.underlying26 hi0 hz0 hz1 hz2 rfl (by omega) v ps.length _ hs (World.ownsRow.alloc hown _) ⟨wr.heap.size, 0, none⟩ 1 1 [.string p.1, .string p.2] hx rfl
    (World.news_of_block (cs := #[.string p.1, .string p.2]) (t := 37) (fr := (0, 0)) (heap_alloc_new wr _)) (by simp [Value.oneCell']) (by omega) (by unfold maxLen; omega) (by omega) (by simp; omega) _ rfl ?_
  intro g cap w' hown1 hgrow _ hlt
  refine h g cap w' ?_ hgrow hlt
  unfold OwnP
  rw [List.length_append, parCells_app]
  exact hown1
end Go.Proofs.YtoblpjknnchlmabGreatDoor

/- How many bytes of a kind stand at a text's beginning, by the program; digits. -/
namespace Go.Proofs.YtoblpjknnchlmabGreatDoor
open Go.RowKit

theorem digB_yes (c : UInt8) (h1 : 48 ≤ (c.toNat : Int)) (h2 : (c.toNat : Int) ≤ 57) : digB c = true := decide_eq_true ⟨by omega, by omega⟩
theorem digB_no (c : UInt8) (h : ¬ (48 ≤ (c.toNat : Int) ∧ (c.toNat : Int) ≤ 57)) : digB c = false := decide_eq_false (by omega)
theorem tdigit_any (c : UInt8) (w : World) : Calls Tryz.prog 71 #[.int .u8 (c.toNat : Int)] w fun e w' => e = .returned (.bool (digB c)) ∧ w' = w := by
  by_cases h : 48 ≤ (c.toNat : Int)
  · by_cases h2 : (c.toNat : Int) ≤ 57
    · rw [digB_yes c h h2]
      go_enter Tryz.func71, Tryz.ntmps71
      go_wp2
      go_ret
      exact ⟨rfl, rfl⟩
    · rw [digB_no c (by omega)]
      go_enter Tryz.func71, Tryz.ntmps71
      go_wp2
      go_ret
      exact ⟨rfl, rfl⟩
  · rw [digB_no c (by omega)]
    go_enter Tryz.func71, Tryz.ntmps71
    go_wp2
    go_ret
    exact ⟨rfl, rfl⟩

theorem kind_digit : Kind 71 digB := ⟨tdigit_any, enters_at Tryz.func71 (by kernel_rfl) rfl⟩
set_option maxHeartbeats 1000000 in
theorem run_any (K : Nat) (f : UInt8 → Bool) (hK : Kind K f) (s : ByteArray) (hs : s.size ≤ 20000) (w : World) :
    Calls Tryz.prog 56 #[.string s, .func (.func K) #[] #[]] w fun e w' => e = .returned (.int .i64 (runL f s.data.toList : Int)) ∧ w' = w := by
  have HK0 : Hid (Kind K f) := hK
  have hen := hK.enters
  clear hK
  go_enter Tryz.func56, Tryz.ntmps56
  go_wp2
  go_loop [8] (fun i => ∃ (k : Nat), k ≤ s.size ∧ i = .int .i64 k ∧ Hid ((s.data.toList.take k).all f = true)) (fun i => s.size - (intOf i).toNat)
  case atStart => exact ⟨0, Nat.zero_le _, rfl, rfl⟩
  case round =>
    obtain ⟨k, hk, rfl, HK⟩ := hrel
    by_cases hlt : k < s.size
    · obtain ⟨c, hcd⟩ : ∃ c : UInt8, s[k] = c := ⟨_, rfl⟩
      have hcl : (c.toNat : Int) < 256 := by have := c.toNat_lt; omega
      have HC : Hid (s[k] = c) := hcd
      cases hf : f c
      · have HR : Hid (runL f s.data.toList = k) := run_part f s k hlt c hcd HK hf
        go_wp2_with fail
        refine (HK0.out.says c _).mono ?_
        rintro e w' ⟨rfl, rfl⟩
        rw [hf]
        go_wp2
        go_ret
        exact ⟨ret_i64 (by rw [HR.out]), rfl⟩
      · have HS : Hid ((s.data.toList.take (k + 1)).all f = true) := all_snoc f s k hlt c hcd HK hf
        go_wp2_with fail
        refine (HK0.out.says c _).mono ?_
        rintro e w' ⟨rfl, rfl⟩
        rw [hf]
        go_wp2
        go_round
        case rel => exact ⟨k + 1, by omega, by go_num, HS⟩
        case measure => simp [intOf]; omega
    · have HR : Hid (runL f s.data.toList = s.size) := run_full f s k (by omega) HK
      go_wp2
      go_ret
      exact ⟨ret_i64 (by rw [HR.out]), rfl⟩
end Go.Proofs.YtoblpjknnchlmabGreatDoor

/- Whether a byte may be one of a word, and a text is a word, by the program. -/
namespace Go.Proofs.YtoblpjknnchlmabGreatDoor
open Go.RowKit

theorem tokB_small (c : UInt8) (h : 97 ≤ (c.toNat : Int) ∧ (c.toNat : Int) ≤ 122) : tokB c = true := by
  unfold tokB
  rw [decide_eq_true (show 97 ≤ c.toNat ∧ c.toNat ≤ 122 by omega)]
  rfl
theorem tokB_great (c : UInt8) (h : 65 ≤ (c.toNat : Int) ∧ (c.toNat : Int) ≤ 90) : tokB c = true := by
  unfold tokB
  rw [decide_eq_true (show 65 ≤ c.toNat ∧ c.toNat ≤ 90 by omega)]
  simp
theorem tokB_digit (c : UInt8) (h : digB c = true) : tokB c = true := by
  unfold tokB
  unfold digB at h
  rw [h]
  simp
theorem tokB_rest (c : UInt8) (h1 : ¬ (97 ≤ (c.toNat : Int) ∧ (c.toNat : Int) ≤ 122)) (h2 : ¬ (65 ≤ (c.toNat : Int) ∧ (c.toNat : Int) ≤ 90)) (h3 : digB c = false) : tokB c = tsigns.contains c := by
  unfold tokB
  unfold digB at h3
  rw [decide_eq_false (show ¬ (97 ≤ c.toNat ∧ c.toNat ≤ 122) by omega), decide_eq_false (show ¬ (65 ≤ c.toNat ∧ c.toNat ≤ 90) by omega), h3]
  rfl
def ixT (c : UInt8) : Int := ixOf tsigns c
theorem ix_tsigns (c : UInt8) (w : World) :
    Calls Tryz.prog 90 #[.string { data := #[33, 35, 36, 37, 38, 39, 42, 43, 45, 46, 94, 95, 124, 126, 96] }, .int .u8 (c.toNat : Int)] w fun e w' => e = .returned (.int .i64 (ixT c)) ∧ w' = w := ix_of _ c _ rfl w
set_option maxHeartbeats 1000000 in
theorem byte_any (c : UInt8) (w : World) : Calls Tryz.prog 57 #[.int .u8 (c.toNat : Int)] w fun e w' => e = .returned (.bool (tokB c)) ∧ w' = w := by
  by_cases h1 : 97 ≤ (c.toNat : Int) ∧ (c.toNat : Int) ≤ 122
  · rw [tokB_small c h1]
    obtain ⟨h1, h2⟩ := h1
    go_enter Tryz.func57, Tryz.ntmps57
    go_wp2
    go_ret
    exact ⟨rfl, rfl⟩
  by_cases h2 : 65 ≤ (c.toNat : Int) ∧ (c.toNat : Int) ≤ 90
  · rw [tokB_great c h2]
    obtain ⟨h2, h3⟩ := h2
    have h4 : ¬ 97 ≤ (c.toNat : Int) := by omega
    clear h1
    go_enter Tryz.func57, Tryz.ntmps57
    go_wp2
    go_ret
    exact ⟨rfl, rfl⟩
  have key : (∃ x : Bool, digB c = true ∧ tokB c = true) ∨ (digB c = false ∧ tokB c = tsigns.contains c) := by
    cases h3 : digB c
    · exact .inr ⟨rfl, tokB_rest c h1 h2 h3⟩
    · exact .inl ⟨true, rfl, tokB_digit c h3⟩
  rcases key with ⟨_, hd, ht⟩ | ⟨hd, ht⟩
  · rw [ht]
    clear ht
    by_cases a1 : 97 ≤ (c.toNat : Int)
    · have a2 : ¬ (c.toNat : Int) ≤ 122 := by omega
      have a3 : 65 ≤ (c.toNat : Int) := by omega
      have a4 : ¬ (c.toNat : Int) ≤ 90 := by omega
      clear h1 h2
      go_enter Tryz.func57, Tryz.ntmps57
      go_wp2_with (go_at_call 71; refine (tdigit_any c _).mono ?_; rintro e w' ⟨rfl, rfl⟩; rw [hd])
      go_ret
      exact ⟨rfl, rfl⟩
    · by_cases a3 : 65 ≤ (c.toNat : Int)
      · have a4 : ¬ (c.toNat : Int) ≤ 90 := by omega
        clear h1 h2
        go_enter Tryz.func57, Tryz.ntmps57
        go_wp2_with (go_at_call 71; refine (tdigit_any c _).mono ?_; rintro e w' ⟨rfl, rfl⟩; rw [hd])
        go_ret
        exact ⟨rfl, rfl⟩
      · clear h1 h2
        go_enter Tryz.func57, Tryz.ntmps57
        go_wp2_with (go_at_call 71; refine (tdigit_any c _).mono ?_; rintro e w' ⟨rfl, rfl⟩; rw [hd])
        go_ret
        exact ⟨rfl, rfl⟩
  · obtain ⟨x, hx, hx2⟩ : ∃ x : Int, ixT c = x ∧ Hid (tokB c = decide (0 ≤ x)) := by
      refine ⟨_, rfl, ?_⟩
      show _ = _
      rw [ht]
      unfold ixT
      rcases ixOf_in tsigns c with ⟨e1, e2⟩ | ⟨n, _, e1, e2⟩
      · rw [e1, e2]; rfl
      · rw [e1, e2]; simp
    clear ht
    rw [hx2.out]
    by_cases a1 : 97 ≤ (c.toNat : Int)
    · have a2 : ¬ (c.toNat : Int) ≤ 122 := by omega
      have a3 : 65 ≤ (c.toNat : Int) := by omega
      have a4 : ¬ (c.toNat : Int) ≤ 90 := by omega
      clear h1 h2
      go_enter Tryz.func57, Tryz.ntmps57
      go_wp2_with (first | (go_at_call 71; refine (tdigit_any c _).mono ?_; rintro e w' ⟨rfl, rfl⟩; rw [hd]) | (go_at_call 90; refine (ix_tsigns c _).mono ?_; rintro e w' ⟨rfl, rfl⟩; rw [hx]))
      go_ret
      exact ⟨rfl, rfl⟩
    · by_cases a3 : 65 ≤ (c.toNat : Int)
      · have a4 : ¬ (c.toNat : Int) ≤ 90 := by omega
        clear h1 h2
        go_enter Tryz.func57, Tryz.ntmps57
        go_wp2_with (first | (go_at_call 71; refine (tdigit_any c _).mono ?_; rintro e w' ⟨rfl, rfl⟩; rw [hd]) | (go_at_call 90; refine (ix_tsigns c _).mono ?_; rintro e w' ⟨rfl, rfl⟩; rw [hx]))
        go_ret
        exact ⟨rfl, rfl⟩
      · clear h1 h2
        go_enter Tryz.func57, Tryz.ntmps57
        go_wp2_with (first | (go_at_call 71; refine (tdigit_any c _).mono ?_; rintro e w' ⟨rfl, rfl⟩; rw [hd]) | (go_at_call 90; refine (ix_tsigns c _).mono ?_; rintro e w' ⟨rfl, rfl⟩; rw [hx]))
        go_ret
        exact ⟨rfl, rfl⟩
theorem kind_byte : Kind 57 tokB := ⟨byte_any, enters_at Tryz.func57 (by kernel_rfl) rfl⟩
theorem isL_empty (s : ByteArray) (h : s.size = 0) : isL s.data.toList = false := by
  have : s.data.toList = [] := by
    apply List.eq_nil_of_length_eq_zero
    simpa using h
  rw [this]
  rfl
theorem isL_run (s : ByteArray) (h : 0 < s.size) : isL s.data.toList = decide ((runL tokB s.data.toList : Int) = (s.size : Int)) := by
  unfold isL
  have h1 : s.data.toList.isEmpty = false := by
    cases e : s.data.toList with
    | nil =>
      have h5 : s.data.toList.length = s.size := Array.length_toList
      rw [e] at h5
      simp only [List.length_nil] at h5
      omega
    | cons c t => rfl
  have h2 := runL_all tokB s.data.toList
  have h3 : s.data.toList.length = s.size := Array.length_toList
  rw [h1, Bool.eq_iff_iff]
  simp only [Bool.not_false, Bool.true_and, decide_eq_true_eq]
  rw [← h2, h3]
  omega
theorem u8_is {c : UInt8} {n : Nat} (hn : n < 256) : (c.toNat : Int) = n ↔ c = UInt8.ofNat n := by
  constructor
  · intro h
    apply UInt8.toNat_inj.1
    simp only [UInt8.toNat_ofNat']
    omega
  · rintro rfl
    simp only [UInt8.toNat_ofNat']
    omega

end Go.Proofs.YtoblpjknnchlmabGreatDoor

/- Whether a text is a word, by the program. -/
namespace Go.Proofs.YtoblpjknnchlmabGreatDoor
open Go.RowKit

set_option maxHeartbeats 1000000 in
theorem is_any (s : ByteArray) (hs : s.size ≤ 5000) (w : World) :
    Calls Tryz.prog 30 #[.string s] w fun e w' => e = .returned (.bool (isL s.data.toList)) ∧ w' = w := by
  by_cases h0 : s.size = 0
  · have HI : Hid (isL s.data.toList = false) := isL_empty s h0
    obtain rfl : s = ⟨#[]⟩ := by
      apply ByteArray.ext
      exact Array.eq_empty_of_size_eq_zero h0
    go_enter Tryz.func30, Tryz.ntmps30
    go_wp2
    go_ret
    exact ⟨ret_bool HI.out.symm, rfl⟩
  · have HI : Hid (isL s.data.toList = decide ((runL tokB s.data.toList : Int) = (s.size : Int))) := isL_run s (by omega)
    have hne : (s.toList == ([] : List UInt8)) = false := by
      rw [beq_eq_false_iff_ne]
      intro e
      have h5 : s.data.toList = [] := by
        rw [← ByteArray.toList_eq]
        exact e
      have h6 : s.data.toList.length = s.size := Array.length_toList
      rw [h5] at h6
      exact h0 h6.symm
    obtain ⟨n, HN⟩ : ∃ n : Int, Hid ((runL tokB s.data.toList : Int) = n) := ⟨_, rfl⟩
    go_enter Tryz.func30, Tryz.ntmps30
    go_wp2_with (go_at_call 56; refine (run_any _ _ kind_byte s (by omega) _).mono ?_; rintro e w' ⟨rfl, rfl⟩; rw [HN.out])
    go_ret
    exact ⟨ret_bool (by rw [HI.out, HN.out]; rfl), rfl⟩
end Go.Proofs.YtoblpjknnchlmabGreatDoor

/- The library's contracts that are leant on, laid at this program's numbers. -/
namespace Go.Proofs.YtoblpjknnchlmabGreatDoor
open Go.Shelf Go.RowKit
def lays146_ren : Go.Shelf.Ren := ⟨fun | 146 => 27 | 221 => 53 | 268 => 85 | 138 => 86 | 143 => 87 | 195 => 118 | 197 => 92 | 218 => 119 | 219 => 89 | 260 => 124 | 217 => 120 | 225 => 121 | 224 => 122 | 267 => 123 | 266 => 146 | 314 => 147 | n => n, fun | 9 => 9 | 31 => 57 | 3 => 3 | 4 => 4 | 0 => 0 | 105 => 119 | 21 => 21 | 5 => 5 | 46 => 80 | 119 => 161 | 139 => 164 | 138 => 163 | 146 => 159 | 51 => 153 | n => n, fun | 1 => 2 | 3 => 3 | 4 => 4 | n => n⟩
theorem lays146 : Go.Proofs.Lays.n146 Tryz.prog lays146_ren := {
  mixed := by kernel_rfl
  f138 := Tryz.func86.trans (congrArg some (by kernel_rfl))
  f143 := Tryz.func87.trans (congrArg some (by kernel_rfl))
  f146 := Tryz.func27.trans (congrArg some (by kernel_rfl))
  f195 := Tryz.func118.trans (congrArg some (by kernel_rfl))
  f197 := Tryz.func92.trans (congrArg some (by kernel_rfl))
  f217 := Tryz.func120.trans (congrArg some (by kernel_rfl))
  f218 := Tryz.func119.trans (congrArg some (by kernel_rfl))
  f219 := Tryz.func89.trans (congrArg some (by kernel_rfl))
  f221 := Tryz.func53.trans (congrArg some (by kernel_rfl))
  f224 := Tryz.func122.trans (congrArg some (by kernel_rfl))
  f225 := Tryz.func121.trans (congrArg some (by kernel_rfl))
  f260 := Tryz.func124.trans (congrArg some (by kernel_rfl))
  f266 := Tryz.func146.trans (congrArg some (by kernel_rfl))
  f267 := Tryz.func123.trans (congrArg some (by kernel_rfl))
  f268 := Tryz.func85.trans (congrArg some (by kernel_rfl))
  f314 := Tryz.func147.trans (congrArg some (by kernel_rfl))
  t0 := Tryz.underlying0
  a0 := Tryz.isAgg0
  z0 := Tryz.sizeOf0
  v0 := Tryz.zeroValue0
  t3 := Tryz.underlying3
  a3 := Tryz.isAgg3
  z3 := Tryz.sizeOf3
  v3 := Tryz.zeroValue3
  t4 := Tryz.underlying4
  a4 := Tryz.isAgg4
  z4 := Tryz.sizeOf4
  v4 := Tryz.zeroValue4
  t5 := Tryz.underlying5
  a5 := Tryz.isAgg5
  z5 := Tryz.sizeOf5
  v5 := Tryz.zeroValue5
  t9 := Tryz.underlying9
  a9 := Tryz.isAgg9
  z9 := Tryz.sizeOf9
  v9 := Tryz.zeroValue9
  t21 := Tryz.underlying21
  a21 := Tryz.isAgg21
  z21 := Tryz.sizeOf21
  v21 := Tryz.zeroValue21
  t31 := Tryz.underlying57
  a31 := Tryz.isAgg57
  z31 := Tryz.sizeOf57
  v31 := Tryz.zeroValue57
  t46 := Tryz.underlying80
  a46 := Tryz.isAgg80
  z46 := Tryz.sizeOf80
  v46 := Tryz.zeroValue80
  t51 := Tryz.underlying153
  a51 := Tryz.isAgg153
  z51 := Tryz.sizeOf153
  v51 := Tryz.zeroValue153
  t105 := Tryz.underlying119
  a105 := Tryz.isAgg119
  z105 := Tryz.sizeOf119
  v105 := Tryz.zeroValue119
  t119 := Tryz.underlying161
  a119 := Tryz.isAgg161
  z119 := Tryz.sizeOf161
  t138 := Tryz.underlying163
  a138 := Tryz.isAgg163
  z138 := Tryz.sizeOf163
  v138 := Tryz.zeroValue163
  t139 := Tryz.underlying164
  a139 := Tryz.isAgg164
  z139 := Tryz.sizeOf164
  v139 := Tryz.zeroValue164
  t146 := Tryz.underlying159
  a146 := Tryz.isAgg159
  z146 := Tryz.sizeOf159
  v146 := Tryz.zeroValue159
  g1 := by kernel_rfl
  g3 := by kernel_rfl
  g4 := by kernel_rfl }
end Go.Proofs.YtoblpjknnchlmabGreatDoor

/- strings.Split at one byte, without a word on internal/bytealg.MaxLen. -/
namespace Go.Proofs.YtoblpjknnchlmabGreatDoor
open Go.RowKit Go.Shelf

theorem indexB_ix (s : ByteArray) (c : UInt8) : Lib.indexB s ⟨#[c]⟩ = ixOf s.data.toList c := Lib.index_one s.data.toList c
theorem countB_ct (s : ByteArray) (c : UInt8) : Lib.countB s ⟨#[c]⟩ = s.data.toList.count c := Lib.count_one c s.data.toList
theorem splitB_list (c : UInt8) : ∀ (k : Nat) (s : ByteArray), s.data.toList.count c ≤ k → (Lib.splitB ⟨#[c]⟩ 0 k s).map (·.data.toList) = splitL c s.data.toList
  | k, s, hk => by
    rcases ixOf_first s.data.toList c with ⟨hi, hno⟩ | ⟨n, hn, hi, hno, hsp⟩
    · rw [Lib.splitB_miss _ _ _ _ ((indexB_ix s c).trans hi), splitL_part c _ hno]
      rfl
    · have hc : s.data.toList.count c = (s.data.toList.drop (n + 1)).count c + 1 := by
        conv => lhs; rw [hsp]
        rw [List.count_append, List.count_eq_zero.2 hno, List.count_cons_self]
        omega
      cases k with
      | zero => omega
      | succ k =>
        have hl : s.data.toList.length = s.size := Array.length_toList
        have e1 : (s.extract (n + (⟨#[c]⟩ : ByteArray).size) s.size).data.toList = s.data.toList.drop (n + 1) := by
          rw [ByteArray.data_extract, Array.toList_extract, List.extract_eq_take_drop]
          show List.take (s.size - (n + 1)) (List.drop (n + 1) s.data.toList) = _
          rw [List.take_of_length_le (by rw [List.length_drop]; omega)]
        have e0 : (s.extract 0 (n + 0)).data.toList = s.data.toList.take n := by
          rw [ByteArray.data_extract, Array.toList_extract, List.extract_eq_take_drop]
          simp
        rw [Lib.splitB_hit _ _ _ _ n ((indexB_ix s c).trans hi), List.map_cons, splitB_list c k _ (by rw [e1]; omega), e1, e0]
        conv => rhs; rw [hsp]
        rw [splitL_more c _ _ hno]

set_option maxHeartbeats 1000000 in
theorem split_one (s : ByteArray) (c : UInt8) (hs : s.size ≤ 20000) (w : World) :
    Calls Tryz.prog 27 #[.string s, .string ⟨#[c]⟩] w fun e w' => ∃ ps : List ByteArray, e = .returned (.slice (some ⟨w.heap.size, 0, none⟩) ps.length ps.length) ∧ ps.length ≤ s.size + 1 ∧ w' = w.alloc (.cells (ps.map Value.string).toArray 9) ∧ Hid (ps.map (·.data.toList) = splitL c s.data.toList) := by
  have h1 : 1 ≤ (⟨#[c]⟩ : ByteArray).size := Nat.le_refl _
  have hle := Lib.countB_le ⟨#[c]⟩ h1 s.size s (Nat.le_refl _)
  have hlen := Lib.splitB_all ⟨#[c]⟩ h1 0 _ s rfl
  have HL : Hid ((Lib.splitB ⟨#[c]⟩ 0 (Lib.countB s ⟨#[c]⟩) s).map (·.data.toList) = splitL c s.data.toList) := splitB_list c _ s (Nat.le_of_eq (countB_ct s c).symm)
  have hI : ∀ (x : ByteArray) (a : Array Value), x.size ≤ s.size → Calls Tryz.prog (lays146_ren.f 143) #[.string x, .string ⟨#[c]⟩] (w.alloc (.cells a (lays146_ren.t 9))) fun e w' => e = .returned (.int .i64 (Lib.indexB x ⟨#[c]⟩)) ∧ w' = w.alloc (.cells a (lays146_ren.t 9)) := fun x a _ => by
    rw [indexB_ix]
    exact Any.strings_Index_one { lays146 with } x c _
  have hC : Calls Tryz.prog (lays146_ren.f 138) #[.string s, .string ⟨#[c]⟩] w fun e w' => e = .returned (.int .i64 (Lib.countB s ⟨#[c]⟩)) ∧ w' = w := by
    rw [countB_ct]
    exact Any.strings_Count_one { lays146 with } s c w
  have g := Any.strings_genSplit_core { lays146 with } (by kernel_rfl) s ⟨#[c]⟩ 0 (-1) (Lib.countB s ⟨#[c]⟩ + 1) w (by omega) h1 (Nat.zero_le _) hI hC (by decide) (by decide) (by rw [if_pos (by decide)]; omega)
  rw [Nat.add_sub_cancel] at g
  have e2 : Lib.cellsOf (Lib.splitB ⟨#[c]⟩ 0 (Lib.countB s ⟨#[c]⟩) s) (Lib.countB s ⟨#[c]⟩ + 1) = ((Lib.splitB ⟨#[c]⟩ 0 (Lib.countB s ⟨#[c]⟩) s).map Value.string).toArray := by rw [← hlen]; exact Lib.cellsOf_full _
  rw [e2, ← hlen] at g
  have hl2 : (Lib.splitB ⟨#[c]⟩ 0 (Lib.countB s ⟨#[c]⟩) s).length ≤ s.size + 1 := by omega
  clear e2 hI hC hle hlen
  generalize Lib.splitB ⟨#[c]⟩ 0 (Lib.countB s ⟨#[c]⟩) s = ps at g HL hl2
  have g2 : Calls Tryz.prog 53 #[.string s, .string ⟨#[c]⟩, .int .i64 0, .int .i64 (-1)] w fun e w' => e = .returned (.slice (some ⟨w.heap.size, 0, none⟩) ps.length ps.length) ∧ w' = w.alloc (.cells (ps.map Value.string).toArray 9) := g
  clear g
  go_enter Tryz.func27, Tryz.ntmps27
  go_wp2_with (go_at_call 53; refine g2.mono ?_; rintro e w' ⟨rfl, hw⟩; rw [hw])
  go_ret
  exact ⟨ps, rfl, hl2, rfl, HL⟩

end Go.Proofs.YtoblpjknnchlmabGreatDoor

/- A text without what it ends with, by the library's own functions. -/
namespace Go.Proofs.YtoblpjknnchlmabGreatDoor
open Go.RowKit

set_option maxHeartbeats 1000000 in
theorem trim_any (s p : ByteArray) (w : World) (hs : s.size ≤ 1000000) :
    Calls Tryz.prog 28 #[.string s, .string p] w fun e w' => e = .returned (.string (bs (Lib.trimSuffix s.data.toList p.data.toList))) ∧ w' = w := by
  go_enter Tryz.func28, Tryz.ntmps28
  go_wp2
  · have h1 : p.size ≤ s.size := by assumption
    have h2 : ((s.extract (s.size - p.size) s.size).toList == p.toList) = true := by assumption
    go_ret
    refine ⟨?_, rfl⟩
    have := Lib.trimSuffix_hit s p h1 h2
    unfold bs
    rw [this]
    rfl
  · have h2 : ((s.extract (s.size - p.size) s.size).toList == p.toList) = false := by assumption
    go_ret
    refine ⟨?_, rfl⟩
    have := Lib.trimSuffix_miss s p (by rw [h2]; simp)
    unfold bs
    rw [this]
    rfl
  · have h1 : ¬ p.size ≤ s.size := by assumption
    go_ret
    refine ⟨?_, rfl⟩
    have := Lib.trimSuffix_miss s p (by simp [h1])
    unfold bs
    rw [this]
    rfl
end Go.Proofs.YtoblpjknnchlmabGreatDoor

/- Cells of a block. -/
namespace Go.Proofs.YtoblpjknnchlmabGreatDoor
open Go.RowKit

theorem cells_of {w : World} {k : Nat} {cs : Array Value} {T : TypeId} {fz : Nat × Nat} (hk : w.heap[k]? = some (.cells cs T fz)) (j : Nat) (v : Value) (hj : cs[j]? = some v) : w.cell? ⟨k, j, none⟩ = some v := by
  simp [World.cell?, hk, hj]
theorem below_block {w w' : World} {k : Nat} {o : Obj} (hb : Below w.heap.size w w') (hk : w.heap[k]? = some o) : w'.heap[k]? = some o := by
  rw [hb.block k (Array.getElem?_eq_some_iff.1 hk).1]
  exact hk
end Go.Proofs.YtoblpjknnchlmabGreatDoor

/- Fields: the lines of an answer, by the program. -/
namespace Go.Proofs.YtoblpjknnchlmabGreatDoor
open Go.RowKit

/-- What Fields answers. -/
def FldAns (o : Except (Option Nat) (List Par)) (B : Nat) (e : Ending) (w' : World) : Prop :=
  (∃ acc v, o = .ok acc ∧ acc.length ≤ 40 ∧ e = .returned (.tuple #[v, .nilIface]) ∧ OwnP w' B v acc) ∨
  (o = .error none ∧ e = .returned (.tuple #[.slice none 0 0, .iface 56 (.int .i64 4)])) ∨
  (∃ i g : Nat, o = .error (some i) ∧ e = .returned (.tuple #[.slice none 0 0, .iface 63 (.pointer (some ⟨g, 0, none⟩))]) ∧ w'.cell? ⟨g, 0, none⟩ = some (.int .i64 3) ∧ w'.cell? ⟨g, 1, none⟩ = some (.int .i64 (i : Int)) ∧ B ≤ g)
theorem drop_at9 {α : Type} {l : List α} {k : Nat} {x : α} (h : l[k]? = some x) : l.drop k = x :: l.drop (k + 1) := by
  obtain ⟨hl, e⟩ := List.getElem?_eq_some_iff.1 h
  rw [List.drop_eq_getElem_cons hl, e]
theorem OwnP.mono9 {w : World} {B B' : Nat} {v : Value} {ps : List Par} (h : OwnP w B v ps) (hb : B' ≤ B) : OwnP w B' v ps := World.ownsRow.mono h hb
set_option maxRecDepth 100000 in
set_option maxHeartbeats 8000000 in
theorem fields9_any (s : ByteArray) (hs : s.size ≤ 3000) (w : World) :
    Calls Tryz.prog 13 #[.string s] w fun e w' => FldAns (fieldsF s.data.toList) w.heap.size e w' ∧ Below w.heap.size w w' := by
  obtain ⟨o, HO⟩ : ∃ o, Hid (fieldsF s.data.toList = o) := ⟨_, rfl⟩
  rw [HO.out]
  go_enter Tryz.func13, Tryz.ntmps13
  go_wp2_with fail
  refine (split_one s 10 (by omega) _).mono ?_
  rintro e w1 ⟨ls, rfl, hn, hw1, hsp⟩
  have HSP : Hid (ls.map (·.data.toList) = splitL 10 s.data.toList) := hsp
  have HB1 : Hid (Below w.heap.size w w1) := by show Below _ _ _; rw [hw1]; exact (Below.refl _ _).alloc (Nat.le_refl _) _
  have HR1 : Hid (w1.heap[w.heap.size]? = some (.cells (ls.map Value.string).toArray 9 (0, 0)) ∧ w1.heap.size = w.heap.size + 1) := by show _ ∧ _; rw [hw1]; exact ⟨heap_alloc_new _ _, by simp⟩
  have HLZ : Hid (∀ l ∈ ls, l.size ≤ 3000) := fun l hl => by
    have h1 : l.data.toList ∈ splitL 10 s.data.toList := by rw [← hsp]; exact List.mem_map.2 ⟨l, hl, rfl⟩
    have h2 := splitL_lens 10 _ _ h1
    have h3 : s.data.toList.length = s.size := Array.length_toList
    have h4 : l.data.toList.length = l.size := Array.length_toList
    omega
  have HFF : Hid (fieldsF s.data.toList = runF 0 [] (ls.map (·.data.toList))) := by show _ = _; unfold fieldsF; rw [hsp]
  obtain ⟨n, HN⟩ : ∃ n, Hid (ls.length = n) := ⟨_, rfl⟩
  have hn1 : n ≤ 3001 := by have := HN.out; omega
  rw [HN.out]
  clear hw1 hsp hn
  go_wp2
  go_loopw [4, 17] (fun v i wr => ∃ (k : Nat) (acc : List Par) (a : Option Addr) (m c : Nat), k ≤ n ∧ i = .int .i64 k ∧ v = .slice a m c ∧ m ≤ 40 ∧ Hid (acc.length = m) ∧ Hid (runF 0 [] (ls.map (·.data.toList)) = runF k acc ((ls.map (·.data.toList)).drop k)) ∧ Hid (OwnP wr (w.heap.size + 1) (.slice a m c) acc ∧ Below (w.heap.size + 1) w1 wr)) (fun _ i _ => n - (intOf i).toNat)
  case atStart => exact ⟨0, [], none, 0, 0, Nat.zero_le _, rfl, rfl, by omega, rfl, rfl, ownP_nil _ _, Below.refl _ _⟩
  case round =>
    obtain ⟨k, acc, a, m, c, hk, rfl, rfl, hm, HAC, HK, HI⟩ := hrel
    have HBW : Hid (Below w.heap.size w wr) := HB1.out.trans (HI.out.2.mono (by omega))
    have HZR : Hid (w.heap.size + 1 ≤ wr.heap.size) := by have := HI.out.2.size; have := HR1.out.2; show _ ≤ _; omega
    by_cases hlt : k < n
    · have hltz : (k : Int) < (n : Int) := by omega
      obtain ⟨l, hl⟩ : ∃ l, ls[k]? = some l := ⟨ls[k]'(by have := HN.out; omega), List.getElem?_eq_getElem _⟩
      have hlz := HLZ.out l (List.mem_of_getElem? hl)
      have cl : wr.cell? ⟨w.heap.size, k, none⟩ = some (.string l) := by
        have hr : wr.heap[w.heap.size]? = some (.cells (ls.map Value.string).toArray 9 (0, 0)) := by rw [HI.out.2.block _ (by omega)]; exact HR1.out.1
        exact cells_of hr k _ (by simp [hl])
      have HD : Hid ((ls.map (·.data.toList)).drop k = l.data.toList :: (ls.map (·.data.toList)).drop (k + 1)) := drop_at9 (by rw [List.getElem?_map, hl]; rfl)
      obtain ⟨t, HT⟩ : ∃ t, Hid (bs (lineT l.data.toList) = t) := ⟨_, rfl⟩
      have htz : t.size ≤ 3000 := by
        rw [← HT.out, bs_size]
        have h4 : l.data.toList.length = l.size := Array.length_toList
        have h5 : (lineT l.data.toList).length ≤ l.data.toList.length := by
          unfold lineT Lib.trimSuffix
          split <;> simp
        omega
      have HTL : Hid (lineT l.data.toList = t.data.toList) := by show _ = _; rw [← HT.out, bs_data]
      have htr := fun W => trim_any l ⟨#[13]⟩ W (by omega)
      have e13 : bs (Lib.trimSuffix l.data.toList (⟨#[13]⟩ : ByteArray).data.toList) = t := HT.out
      rw [e13] at htr
      clear hl e13
      go_wp2_with fail
      refine (htr _).mono ?_
      rintro e w2 ⟨rfl, hw2⟩
      obtain rfl := hw2.symm
      clear htr cl
      by_cases h0 : t.size = 0
      · have HNX : Hid (runF 0 [] (ls.map (·.data.toList)) = runF (k + 1) acc ((ls.map (·.data.toList)).drop (k + 1))) := by
          show _ = _
          rw [HK.out, HD.out]
          refine runF_skip ?_
          rw [HTL.out]
          exact List.eq_nil_of_length_eq_zero (by rw [Array.length_toList]; exact h0)
        have he : t.toList.isEmpty = true := by
          rw [ByteArray.toList_eq, List.isEmpty_iff]
          exact List.eq_nil_of_length_eq_zero (by rw [Array.length_toList]; exact h0)
        go_wp2
        go_roundw
        case rel => exact ⟨k + 1, acc, a, m, c, by omega, by go_num, rfl, hm, HAC, HNX, HI.out⟩
        case measure => simp [intOf]; omega
      · have HNE : Hid (lineT l.data.toList ≠ []) := by
          show _ ≠ _
          rw [HTL.out]
          intro e
          have h4 : t.data.toList.length = t.size := Array.length_toList
          rw [e] at h4
          exact h0 h4.symm
        have he : t.toList.isEmpty = false := by
          rw [ByteArray.toList_eq, ← HTL.out, List.isEmpty_eq_false_iff]
          exact HNE.out
        go_wp2_with fail
        refine (cut_any t 58 (by omega) _).mono ?_
        rintro e w3 ⟨x, y, f, rfl, hx, hy, hcut, hb3⟩
        have HB3 : Hid (Below wr.heap.size wr w3) := hb3
        clear hb3
        cases f
        · have HEE : Hid (o = .error (some k)) := by
            show _ = _
            rw [← HO.out, HFF.out, HK.out, HD.out]
            exact runF_bad HNE.out (by rw [HTL.out]; exact lineF_none1 hcut.out)
          have HBZ : Hid (Below w.heap.size w w3) := HBW.out.trans (HB3.out.mono HBW.out.size)
          go_wp2
          go_ret2
          exact ⟨.inr (.inr ⟨k, _, HEE.out, rfl, World.cell?_alloc_mark _ _ _ _ _, World.cell?_alloc_mark _ _ _ _ _, HBZ.out.size⟩), HBZ.out.alloc HBZ.out.size _⟩
        · obtain ⟨q, HQ⟩ : ∃ q, Hid (isL x.data.toList = q) := ⟨_, rfl⟩
          have his := fun W => is_any x (by omega) W
          rw [HQ.out] at his
          go_wp2_with fail
          refine (his _).mono ?_
          rintro e w4 ⟨rfl, hw4⟩
          obtain rfl := hw4.symm
          clear his
          cases q
          · have HEE : Hid (o = .error (some k)) := by
              show _ = _
              rw [← HO.out, HFF.out, HK.out, HD.out]
              exact runF_bad HNE.out (by rw [HTL.out]; exact lineF_none2 hcut.out HQ.out)
            have HBZ : Hid (Below w.heap.size w w3) := HBW.out.trans (HB3.out.mono HBW.out.size)
            go_wp2
            go_ret2
            exact ⟨.inr (.inr ⟨k, _, HEE.out, rfl, World.cell?_alloc_mark _ _ _ _ _, World.cell?_alloc_mark _ _ _ _ _, HBZ.out.size⟩), HBZ.out.alloc HBZ.out.size _⟩
          · have HLF : Hid (lineF (lineT l.data.toList) = some (x, bs (trimW y.data.toList))) := by
              show _ = _
              rw [HTL.out, lineF_some hcut.out HQ.out, bs_self]
            by_cases h40 : m = 40
            · have HEE : Hid (o = .error none) := by
                show _ = _
                rw [← HO.out, HFF.out, HK.out, HD.out]
                exact runF_many HNE.out HLF.out (by rw [HAC.out]; exact h40)
              have HBZ : Hid (Below w.heap.size w w3) := HBW.out.trans (HB3.out.mono HBW.out.size)
              have h40z : (m : Int) = 40 := by omega
              go_wp2
              go_ret2
              exact ⟨.inr (.inl ⟨HEE.out, rfl⟩), HBZ.out⟩
            · have HNX : Hid (runF 0 [] (ls.map (·.data.toList)) = runF (k + 1) (acc ++ [(x, bs (trimW y.data.toList))]) ((ls.map (·.data.toList)).drop (k + 1))) := by
                show _ = _
                rw [HK.out, HD.out]
                exact runF_next HNE.out HLF.out (by rw [HAC.out]; exact h40)
              have h40z : ¬ (m : Int) = 40 := by omega
              have HI3 : Hid (OwnP w3 (w.heap.size + 1) (.slice a m c) acc ∧ Below (w.heap.size + 1) w1 w3) := ⟨HI.out.1.below HB3.out, HI.out.2.trans (HB3.out.mono HZR.out)⟩
              clear hcut HB3
              go_wp2_with fail
              refine (clone_any x (by omega) _).mono ?_
              rintro e w4 ⟨rfl, hb4⟩
              go_wp2_with fail
              refine (trimBoth_any y (by omega) _).mono ?_
              rintro e w5 ⟨u, rfl, hu, huz, hb5⟩
              have HU : Hid (bs (trimW y.data.toList) = u) := by show _ = _; rw [← hu.out, bs_self]
              rw [HU.out] at HNX
              go_wp2_with fail
              refine (clone_any u (by omega) _).mono ?_
              rintro e w6 ⟨rfl, hb6⟩
              have HI6 : Hid (OwnP w6 (w.heap.size + 1) (.slice a m c) acc ∧ Below (w.heap.size + 1) w1 w6 ∧ w.heap.size + 1 ≤ w6.heap.size) := by
                have hz : w.heap.size + 1 ≤ w3.heap.size := by have := HI3.out.2.size; have := HR1.out.2; omega
                have b6 := hb4.trans ((hb5.trans (hb6.mono hb5.size)).mono hb4.size)
                exact ⟨HI3.out.1.below b6, HI3.out.2.trans (b6.mono hz), Nat.le_trans hz b6.size⟩
              clear hu hb4 hb5 hb6 HI3
              go_wp2_with (at_builtin; refine wp_appp rfl _ _ rfl (w.heap.size + 1) w6 (.slice a m c) acc m rfl HI6.out.1 HAC.out (by omega) HI6.out.2.2 (x, u) _ rfl rfl ?_; intro g7 cap7 w7 hown7 hg7 hlt7; have HI7 : Hid (OwnP w7 (w.heap.size + 1) (.slice (some ⟨g7, 0, none⟩) (m + 1) cap7) (acc ++ [(x, u)]) ∧ Below (w.heap.size + 1) w1 w7) := ⟨hown7, (HI6.out.2.1.alloc HI6.out.2.2 _).grown hg7 (by have := HI6.out.2.2; simp; omega) (fun i hi => (HI6.out.1.lt i hi).1)⟩; clear hown7 hg7 hlt7)
              go_roundw
              case rel => exact ⟨k + 1, acc ++ [(x, u)], _, m + 1, _, by omega, by go_num, rfl, by omega, (by show _ = _; rw [List.length_append, HAC.out]; rfl), HNX, HI7.out⟩
              case measure => simp [intOf]; omega
    · have hltz : ¬ (k : Int) < (n : Int) := by omega
      have HE : Hid (o = .ok acc) := by
        show _ = _
        rw [← HO.out, HFF.out, HK.out, List.drop_of_length_le (by rw [List.length_map]; have := HN.out; omega)]
        rfl
      go_wp2
      go_ret2
      exact ⟨.inl ⟨acc, _, HE.out, by rw [HAC.out]; exact hm, rfl, HI.out.1.mono9 (by omega)⟩, HBW.out⟩
end Go.Proofs.YtoblpjknnchlmabGreatDoor

/- Rows of elements of some cells each that a call owns, and how they are written into. -/
namespace Go.Proofs.YtoblpjknnchlmabGreatDoor
open Go.RowKit

theorem heap_setCells (g : Nat) (t : TypeId) : ∀ (vs : List Value) (o : Nat) (w : World) (cur : Array Value), w.heap[g]? = some (.cells cur t (0, 0)) →
    ∃ cur', (w.setCells g o vs).heap[g]? = some (.cells cur' t (0, 0)) ∧ cur'.size = cur.size ∧ (o + vs.length ≤ cur.size → cur'.toList = cur.toList.take o ++ vs ++ cur.toList.drop (o + vs.length))
  | [], o, w, cur, h => ⟨cur, h, rfl, fun _ => by simp⟩
  | v :: r, o, w, cur, h => by
    obtain ⟨cur', h1, h2, h3⟩ := heap_setCells g t r (o + 1) (w.setCell ⟨g, o, none⟩ v) (cur.setIfInBounds o v) (heap_setCell_same w g o cur t v h)
    refine ⟨cur', h1, by rw [h2]; simp, fun hl => ?_⟩
    simp only [List.length_cons] at hl
    rw [h3 (by simp; omega), Array.toList_setIfInBounds]
    have ho : o < cur.toList.length := by rw [Array.length_toList]; omega
    have e1 : (cur.toList.set o v).take (o + 1) = cur.toList.take o ++ [v] := by
      apply List.ext_getElem?
      intro i
      simp only [List.getElem?_take, List.getElem?_set, List.getElem?_append, List.length_take]
      by_cases h1 : i < o
      · rw [if_pos (by omega), if_neg (by omega), if_pos (by omega), if_pos h1]
      · by_cases h2 : i = o
        · subst h2
          rw [if_pos (by omega), if_pos rfl, if_pos ho, if_neg (by omega)]
          rw [show i - min i cur.toList.length = 0 by omega]
          rfl
        · rw [if_neg (by omega), if_neg (by omega)]
          symm
          rw [List.getElem?_eq_none]
          simp
          omega
    have e2 : (cur.toList.set o v).drop (o + 1 + r.length) = cur.toList.drop (o + (v :: r).length) := by
      rw [List.drop_set_of_lt (by omega)]
      congr 1
      simp
      omega
    rw [e1, e2]
    simp
theorem grown_setCells (w : World) (g o : Nat) (vs : List Value) : w.grownBy (w.setCells g o vs) (some g) :=
  ⟨World.os_setCells w g o vs, by
    induction vs generalizing o w with
    | nil => rfl
    | cons v r ih => exact (ih (w.setCell ⟨g, o, none⟩ v) (o + 1)).trans rfl, World.output_setCells w g o vs, by
    induction vs generalizing o w with
    | nil => exact Nat.le_refl _
    | cons v r ih => exact Nat.le_trans (by simp [World.setCell]) (ih (w.setCell ⟨g, o, none⟩ v) (o + 1)), fun k hk hne => World.heap_setCells_other w g o vs hk (fun e => hne (by rw [e]))⟩

theorem gtrans {a b c : World} {row : Option Nat} (h : a.grownBy b row) (k : b.grownBy c row) : a.grownBy c row :=
  ⟨k.os.trans h.os, k.tape.trans h.tape, k.output.trans h.output, Nat.le_trans h.size k.size, fun i hi hne => (k.block i (Nat.lt_of_lt_of_le hi h.size) hne).trans (h.block i hi hne)⟩
theorem flat_len {k : Nat} : ∀ {xs : List (List Value)}, (∀ x ∈ xs, x.length = k) → xs.flatten.length = xs.length * k
  | [], _ => by simp
  | x :: r, h => by
    rw [List.flatten_cons, List.length_append, h x (by simp), flat_len (fun y hy => h y (by simp [hy])), List.length_cons, Nat.succ_mul, Nat.add_comm]
theorem flat_take {k : Nat} : ∀ {xs : List (List Value)} (_ : ∀ x ∈ xs, x.length = k) (i : Nat), xs.flatten.take (i * k) = (xs.take i).flatten
  | [], _, i => by simp
  | x :: r, h, 0 => by simp
  | x :: r, h, i + 1 => by
    have hx := h x (by simp)
    rw [List.flatten_cons, List.take_succ_cons, List.flatten_cons, ← flat_take (fun y hy => h y (by simp [hy])) i, Nat.succ_mul, Nat.add_comm, List.take_append]
    rw [hx, Nat.add_sub_cancel_left, List.take_of_length_le (by omega)]
theorem flat_drop {k : Nat} : ∀ {xs : List (List Value)} (_ : ∀ x ∈ xs, x.length = k) (i : Nat), xs.flatten.drop (i * k) = (xs.drop i).flatten
  | [], _, i => by simp
  | x :: r, h, 0 => by simp
  | x :: r, h, i + 1 => by
    have hx := h x (by simp)
    rw [List.flatten_cons, List.drop_succ_cons, ← flat_drop (fun y hy => h y (by simp [hy])) i, Nat.succ_mul, Nat.add_comm, List.drop_append]
    rw [hx, Nat.add_sub_cancel_left, List.drop_of_length_le (by omega), List.nil_append]
theorem flat_at {k : Nat} {xs : List (List Value)} (h : ∀ x ∈ xs, x.length = k) {j i : Nat} {x : List Value} {u : Value} (hj : xs[j]? = some x) (hi : x[i]? = some u) : xs.flatten[j * k + i]? = some u := by
  have e := flat_drop h j
  obtain ⟨hjl, hx⟩ := List.getElem?_eq_some_iff.1 hj
  rw [List.drop_eq_getElem_cons hjl, hx, List.flatten_cons] at e
  have e2 : (xs.flatten.drop (j * k))[i]? = some u := by
    rw [e, List.getElem?_append_left (List.getElem?_eq_some_iff.1 hi).1]
    exact hi
  rwa [List.getElem?_drop] at e2

/-- A value of slice type that owns these elements, of k cells each, among the blocks from B on. -/
structure OwnK (k : Nat) (t : TypeId) (w : World) (B : Nat) (v : Value) (xs : List (List Value)) : Prop where
  row : w.ownsRow B t k v xs.length xs.flatten
  len : ∀ x ∈ xs, x.length = k
  one : ∀ x ∈ xs, ∀ u ∈ x, u.oneCell' = true
theorem ownK_nil (k : Nat) (t : TypeId) (w : World) (B : Nat) : OwnK k t w B (.slice none 0 0) [] := ⟨⟨by simp, .inl ⟨rfl, rfl⟩⟩, fun x hx => (by cases hx), fun x hx => (by cases hx)⟩
section
variable {k n cap g B : Nat} {t : TypeId} {w : World} {v : Value} {xs : List (List Value)}
theorem OwnK.lt (h : OwnK k t w B v xs) : ∀ b, v.ownBlock = some b → B ≤ b ∧ b < w.heap.size := World.ownsRow.lt h.row
theorem OwnK.mono {B' : Nat} (h : OwnK k t w B v xs) (hb : B' ≤ B) : OwnK k t w B' v xs := ⟨World.ownsRow.mono h.row hb, h.len, h.one⟩
theorem OwnK.kept {w' : World} {row : Option Nat} (h : OwnK k t w B v xs) (hg : w.grownBy w' row) (hne : v.ownBlock = none ∨ v.ownBlock ≠ row) : OwnK k t w' B v xs := ⟨World.ownsRow.kept h.row hg hne, h.len, h.one⟩
theorem OwnK.below {w' : World} (h : OwnK k t w B v xs) (hb : Below w.heap.size w w') : OwnK k t w' B v xs := by
  refine h.kept (row := none) ⟨hb.os, hb.tape, hb.output, hb.size, fun i hi _ => hb.block i hi⟩ ?_
  rcases v.ownBlock with _ | k
  · exact .inl rfl
  · exact .inr (by simp)
theorem OwnK.drewN (h : OwnK k t w B v xs) (q : Nat) : OwnK k t (w.drewN q) B v xs := ⟨h.row, h.len, h.one⟩
/-- What it looks like. -/
theorem OwnK.forms (h : OwnK k t w B v xs) : (v = .slice none 0 0 ∧ xs = []) ∨ ∃ g cap, v = .slice (some ⟨g, 0, none⟩) xs.length cap ∧ B ≤ g ∧ g < w.heap.size ∧ xs.length ≤ cap ∧ cap ≤ maxLen := by
  rcases h.row.2 with ⟨e, h0⟩ | ⟨g, cap, cur, e, hB, hh, h1, h2, _⟩
  · exact .inl ⟨e, List.eq_nil_of_length_eq_zero h0⟩
  · exact .inr ⟨g, cap, e, hB, (Array.getElem?_eq_some_iff.1 hh).1, h1, h2⟩
theorem OwnK.cell (h : OwnK k t w B (.slice (some ⟨g, 0, none⟩) n cap) xs) {j i : Nat} {x : List Value} {u : Value} (hj : xs[j]? = some x) (hi : x[i]? = some u) : w.cell? ⟨g, j * k + i, none⟩ = some u := by
  have hc := World.ownsRow.cells h.row (g := g) rfl (j * k + i) u (flat_at h.len hj hi)
  rw [Addr.add_lit, Nat.zero_add] at hc
  exact hc
theorem OwnK.load (P : Program) (h : OwnK k t w B (.slice (some ⟨g, 0, none⟩) n cap) xs) {j : Nat} {x : List Value} (hj : xs[j]? = some x) : Sem.run P (loadCellsFrom ⟨g, j * k, none⟩ 0 k #[]) w = .ok x.toArray w :=
  run_loadCellsFrom_list P w _ x k (h.len x (List.mem_of_getElem? hj)) (fun i u hi => by rw [Addr.add_lit]; exact h.cell hj hi)
theorem OwnK.frozen (h : OwnK k t w B (.slice (some ⟨g, 0, none⟩) n cap) xs) (j : Nat) : w.frozen? ⟨g, j, none⟩ = false := by
  rcases h.row.2 with ⟨e, _⟩ | ⟨g', cap', cur, e, _, hh, _⟩
  · cases e
  · injection e with e1 _ _
    injection e1 with e1
    injection e1 with e1
    subst e1
    simp [World.frozen?, hh]
theorem OwnK.there (h : OwnK k t w B (.slice (some ⟨g, 0, none⟩) n cap) xs) (j : Nat) (hj : j < cap * k) : (w.cell? ⟨g, j, none⟩).isSome = true := by
  rcases h.row.2 with ⟨e, _⟩ | ⟨g', cap', cur, e, _, hh, _, _, hs, _⟩
  · cases e
  · injection e with e1 e2 e3
    injection e1 with e1
    injection e1 with e1
    subst e1 e3
    rw [cell_of_row w g j cur t (0, 0) hh, Array.getElem?_eq_getElem (by omega)]
    rfl
/-- Elements are written at a place. -/
theorem OwnK.put (h : OwnK k t w B (.slice (some ⟨g, 0, none⟩) n cap) xs) (i : Nat) (ys : List (List Value)) (hy : ∀ y ∈ ys, y.length = k) (hy1 : ∀ y ∈ ys, ∀ u ∈ y, u.oneCell' = true) (hi : i ≤ xs.length) (hc : i + ys.length ≤ cap) :
    OwnK k t (w.setCells g (i * k) ys.flatten) B (.slice (some ⟨g, 0, none⟩) (xs.take i ++ ys ++ xs.drop (i + ys.length)).length cap) (xs.take i ++ ys ++ xs.drop (i + ys.length)) := by
  have hall : ∀ x ∈ xs.take i ++ ys ++ xs.drop (i + ys.length), x ∈ xs ∨ x ∈ ys := fun x hx => by
    rcases List.mem_append.1 hx with hx | hx
    · rcases List.mem_append.1 hx with hx | hx
      · exact .inl (List.mem_of_mem_take hx)
      · exact .inr hx
    · exact .inl (List.mem_of_mem_drop hx)
  have hlen : ∀ x ∈ xs.take i ++ ys ++ xs.drop (i + ys.length), x.length = k := fun x hx => (hall x hx).elim (h.len x) (hy x)
  refine ⟨⟨flat_len hlen, ?_⟩, hlen, fun x hx => (hall x hx).elim (h.one x) (hy1 x)⟩
  rcases h.row.2 with ⟨e, _⟩ | ⟨g', cap', cur, e, hB, hh, hn, hm, hs, ht⟩
  · cases e
  · injection e with e1 e2 e3
    injection e1 with e1
    injection e1 with e1
    subst e1 e3
    obtain ⟨cur', h1, h2, h3⟩ := heap_setCells g t ys.flatten (i * k) w cur hh
    have hyl := flat_len hy
    have hck : i * k + ys.flatten.length ≤ cur.size := by
      rw [hyl, hs, ← Nat.add_mul]
      exact Nat.mul_le_mul_right _ hc
    have h3 := h3 hck
    have hLl : (xs.take i ++ ys ++ xs.drop (i + ys.length)).length ≤ cap := by simp; omega
    refine .inr ⟨g, cap, cur', rfl, hB, h1, hLl, hm, by rw [h2, hs], ?_⟩
    rw [h3]
    have hd : (xs.drop (i + ys.length)).flatten = (cur.toList.drop (i * k + ys.flatten.length)).take ((xs.length - (i + ys.length)) * k) := by
      rw [← flat_drop h.len, ← ht, hyl, ← Nat.add_mul, List.drop_take, Nat.sub_mul]
    have htk : (xs.take i).flatten = cur.toList.take (i * k) := by
      rw [← flat_take h.len, ← ht, List.take_take, Nat.min_eq_left (Nat.mul_le_mul_right _ hi)]
    have hl1 : (cur.toList.take (i * k)).length = i * k := by rw [List.length_take, Array.length_toList]; omega
    rw [List.flatten_append, List.flatten_append, hd, htk]
    have hT : (xs.take i ++ ys ++ xs.drop (i + ys.length)).length = i + ys.length + (xs.length - (i + ys.length)) := by simp; omega
    rw [hT, Nat.add_mul, Nat.add_mul, ← hyl, List.take_append, List.length_append, hl1]
    rw [List.take_of_length_le (by rw [List.length_append, hl1]; omega)]
    congr 2
    omega
theorem OwnK.set (h : OwnK k t w B (.slice (some ⟨g, 0, none⟩) n cap) xs) (i : Nat) (x : List Value) (hx : x.length = k) (hx1 : ∀ u ∈ x, u.oneCell' = true) (hi : i < xs.length) :
    OwnK k t (w.setCells g (i * k) x) B (.slice (some ⟨g, 0, none⟩) n cap) (xs.set i x) := by
  have hn : n = xs.length ∧ xs.length ≤ cap := by
    rcases h.forms with ⟨e, _⟩ | ⟨g', cap', e, _, _, h1, _⟩
    · cases e
    · injection e with e1 e2 e3
      subst e2 e3
      exact ⟨rfl, h1⟩
  have h2 := h.put i [x] (fun y hy => by rw [List.mem_singleton.1 hy]; exact hx) (fun y hy => by rw [List.mem_singleton.1 hy]; exact hx1) (by omega) (by simp; omega)
  have e1 : xs.take i ++ [x] ++ xs.drop (i + [x].length) = xs.set i x := by rw [List.set_eq_take_append_cons_drop, if_pos hi]; simp
  have e2 : [x].flatten = x := by simp
  rw [e1, e2, List.length_set, ← hn.1] at h2
  exact h2
theorem OwnK.cut (h : OwnK k t w B (.slice (some ⟨g, 0, none⟩) n cap) xs) (i : Nat) (hi : i ≤ xs.length) : OwnK k t w B (.slice (some ⟨g, 0, none⟩) i cap) (xs.take i) := by
  have hlen : ∀ x ∈ xs.take i, x.length = k := fun x hx => h.len x (List.mem_of_mem_take hx)
  have hl : (xs.take i).length = i := by rw [List.length_take]; omega
  refine ⟨⟨flat_len hlen, ?_⟩, hlen, fun x hx => h.one x (List.mem_of_mem_take hx)⟩
  rcases h.row.2 with ⟨e, _⟩ | ⟨g', cap', cur, e, hB, hh, hn, hm, hs, ht⟩
  · cases e
  · injection e with e1 e2 e3
    injection e1 with e1
    injection e1 with e1
    subst e1 e3
    refine .inr ⟨g, cap, cur, by rw [hl], hB, hh, by omega, hm, hs, ?_⟩
    rw [← flat_take h.len, ← ht, List.take_take, hl, Nat.min_eq_left (Nat.mul_le_mul_right _ hi)]
/-- What stands behind a place is written over, and cut off. -/
theorem OwnK.wipe (h : OwnK k t w B (.slice (some ⟨g, 0, none⟩) n cap) xs) (i : Nat) (hi : i ≤ xs.length) (vs : List Value) (hv : i * k + vs.length ≤ cap * k) : OwnK k t (w.setCells g (i * k) vs) B (.slice (some ⟨g, 0, none⟩) i cap) (xs.take i) := by
  have hc := h.cut i hi
  refine ⟨⟨hc.row.1, ?_⟩, hc.len, hc.one⟩
  rcases hc.row.2 with ⟨e, _⟩ | ⟨g', cap', cur, e, hB, hh, hn, hm, hs, ht⟩
  · cases e
  · injection e with e1 e2 e3
    injection e1 with e1
    injection e1 with e1
    subst e1 e3
    obtain ⟨cur', h1, h2, h3⟩ := heap_setCells g t vs (i * k) w cur hh
    have hl : (xs.take i).length = i := by rw [List.length_take]; omega
    refine .inr ⟨g, cap, cur', by rw [hl], hB, h1, hn, hm, by rw [h2, hs], ?_⟩
    rw [h3 (by rw [hs]; exact hv), ← ht, hl, List.take_append, List.take_append, List.take_take]
    rw [List.length_take, Array.length_toList]
    have hik : i * k ≤ cur.size := by omega
    rw [show i * k - min (i * k) cur.size = 0 by omega, Nat.min_self, List.length_append, List.length_take, Array.length_toList]
    rw [show i * k - (min (i * k) cur.size + vs.length) = 0 by omega]
    simp
end
end Go.Proofs.YtoblpjknnchlmabGreatDoor

/- Two passes held against each other. -/
namespace Go.Proofs.YtoblpjknnchlmabGreatDoor
open Go.RowKit

theorem eqO9 (k : Nat) (a : Bool) (x : ByteArray) (n : Int) (w : World) :
    (Op.equalIn (k + 2) 23 (.agg #[.bool a, .string x, .int .i64 n]) (.agg #[.bool a, .string x, .int .i64 n])).run Tryz.prog w = .ok true w := by
  have u3 := Tryz.underlying3
  have u4 := Tryz.underlying4
  have u9 := Tryz.underlying9
  have a3 := Tryz.isAgg3
  have z3 := Tryz.sizeOf3
  have hS : Tryz.prog.underlying 23 = some (.struct (Tryz.prog.fieldsOf 23)) := by kernel_rfl
  have hp : Tryz.prog.stoodInHeld 23 = false := by kernel_rfl
  rw [run_equalIn_agg w (k + 1) 23 _ _ hS hp]
  simp only [Program.fieldsOf, Tryz.underlying23]
  go_simp
theorem eqU9 (k : Nat) (a : Bool) (x : ByteArray) (n : Int) (p q : ByteArray) (w : World) :
    (Op.equalIn (k + 3) 25 (.agg #[.bool a, .string x, .int .i64 n, .string p, .string q]) (.agg #[.bool a, .string x, .int .i64 n, .string p, .string q])).run Tryz.prog w = .ok true w := by
  have u3 := Tryz.underlying3
  have u4 := Tryz.underlying4
  have u9 := Tryz.underlying9
  have a3 := Tryz.isAgg3
  have z3 := Tryz.sizeOf3
  have hS : Tryz.prog.underlying 25 = some (.struct (Tryz.prog.fieldsOf 25)) := by kernel_rfl
  have hp : Tryz.prog.stoodInHeld 25 = false := by kernel_rfl
  have eo := fun w => eqO9 k a x n w
  rw [run_equalIn_agg w (k + 2) 25 _ _ hS hp]
  simp only [Program.fieldsOf, Tryz.underlying25]
  go_simp
theorem eqP9 (fs : Bool) (fh : ByteArray) (fp : Int) (us : Bool) (uh : ByteArray) (up : Int) (pa qu : ByteArray) (wi : Bool) (un : Int) (m1 h1 m2 h2 : ByteArray) (E : Bool) (hE : (m1.toList == m2.toList && h1.toList == h2.toList) = E) (w : World) :
    (Op.equalIn 10000 50 (.agg #[.bool fs, .string fh, .int .i64 fp, .bool us, .string uh, .int .i64 up, .string pa, .string qu, .bool wi, .string m1, .string h1, .int .i64 un]) (.agg #[.bool fs, .string fh, .int .i64 fp, .bool us, .string uh, .int .i64 up, .string pa, .string qu, .bool wi, .string m2, .string h2, .int .i64 un])).run Tryz.prog w = .ok E w := by
  have u3 := Tryz.underlying3
  have u4 := Tryz.underlying4
  have u9 := Tryz.underlying9
  have a3 := Tryz.isAgg3
  have z3 := Tryz.sizeOf3
  have hS : Tryz.prog.underlying 50 = some (.struct (Tryz.prog.fieldsOf 50)) := by kernel_rfl
  have hp : Tryz.prog.stoodInHeld 50 = false := by kernel_rfl
  have eo := fun w => eqO9 9997 fs fh fp w
  have eu := fun w => eqU9 9996 us uh up pa qu w
  rw [show (10000 : Nat) = 9999 + 1 from rfl, run_equalIn_agg w 9999 50 _ _ hS hp, ← hE]
  simp only [Program.fieldsOf, Tryz.underlying50]
  go_simp
  rw [← hE]
  by_cases h1' : m1.toList = m2.toList <;> by_cases h2' : h1.toList = h2.toList <;> simp [h1', h2']
end Go.Proofs.YtoblpjknnchlmabGreatDoor

/- New blocks: what they hold, and that nothing older has turned. -/
namespace Go.Proofs.YtoblpjknnchlmabGreatDoor
open Go.RowKit

theorem cells_new (W : World) (cs : Array Value) (t : TypeId) (j : Nat) : (W.alloc (.cells cs t)).cell? ⟨W.heap.size, j, none⟩ = cs[j]? := World.cell?_alloc_mark _ _ _ _ _
theorem drewN_below {B : Nat} {a w : World} (h : Below B a w) (n : Nat) : Below B a (w.drewN n) := h.trans ⟨rfl, rfl, rfl, Nat.le_refl _, fun _ _ => rfl⟩
end Go.Proofs.YtoblpjknnchlmabGreatDoor

/- Whether a pass stands in a row of passes that differ by method and header alone, by the library's own functions. -/
namespace Go.Proofs.YtoblpjknnchlmabGreatDoor
open Go.RowKit

/-- A pass with this method and this header. -/
def PsV.of (p : PsV) (x : ByteArray × ByteArray) : PsV := ⟨p.fs, p.fh, p.fp, p.us, p.uh, p.up, p.pa, p.qu, p.wi, x.1, x.2, p.un⟩
def sameX (x y : ByteArray × ByteArray) : Bool := x.1.toList == y.1.toList && x.2.toList == y.2.toList
set_option maxRecDepth 100000 in
set_option maxHeartbeats 4000000 in
theorem indexX_any (p : PsV) (x : ByteArray × ByteArray) (l : List (ByteArray × ByteArray)) (a0 : Option Addr) (len cap b off : Nat) (hlen : len ≤ 1000000) (w : World) (hx : Pss w a0 len b off (l.map p.of)) :
    Calls Tryz.prog 103 #[.slice a0 len cap, .agg #[.bool p.fs, .string p.fh, .int .i64 p.fp, .bool p.us, .string p.uh, .int .i64 p.up, .string p.pa, .string p.qu, .bool p.wi, .string x.1, .string x.2, .int .i64 p.un]] w fun e w' => (∃ r : Int, e = .returned (.int .i64 r) ∧ Hid (decide (0 ≤ r) = l.any (sameX x))) ∧ Below w.heap.size w w' := by
  have hl : l.length = len := by have := hx.len_eq; simpa using this
  have HL : Hid (l.length = len) := hl
  have HQ : Hid (BoxQ 50 w #[.bool p.fs, .string p.fh, .int .i64 p.fp, .bool p.us, .string p.uh, .int .i64 p.up, .string p.pa, .string p.qu, .bool p.wi, .string x.1, .string x.2, .int .i64 p.un] (w.alloc (.cells #[.bool p.fs, .string p.fh, .int .i64 p.fp, .bool p.us, .string p.uh, .int .i64 p.up, .string p.pa, .string p.qu, .bool p.wi, .string x.1, .string x.2, .int .i64 p.un] 50))) := BoxQ.new _ _ _
  have HX : Hid (Pss (w.alloc (.cells #[.bool p.fs, .string p.fh, .int .i64 p.fp, .bool p.us, .string p.uh, .int .i64 p.up, .string p.pa, .string p.qu, .bool p.wi, .string x.1, .string x.2, .int .i64 p.un] 50)) a0 len b off (l.map p.of)) := hx.below HQ.out.bel
  have HB : Hid (Below w.heap.size w (w.alloc (.cells #[.bool p.fs, .string p.fh, .int .i64 p.fp, .bool p.us, .string p.uh, .int .i64 p.up, .string p.pa, .string p.qu, .bool p.wi, .string x.1, .string x.2, .int .i64 p.un] 50))) := HQ.out.bel
  clear hx hl
  obtain ⟨fs, fh, fp, us, uh, up, pa, qu, wi, me, he, un⟩ := p
  obtain ⟨xm, xh⟩ := x
  simp only at HQ HX HB ⊢
  go_enter Tryz.func103, Tryz.ntmps103
  go_wp2
  generalize hW0 : w.alloc (.cells #[.bool fs, .string fh, .int .i64 fp, .bool us, .string uh, .int .i64 up, .string pa, .string qu, .bool wi, .string xm, .string xh, .int .i64 un] 50) = W0 at HQ HX HB ⊢
  clear hW0
  have b0 := HQ.out.at 0 _ rfl
  have b1 := HQ.out.at 1 _ rfl
  have b2 := HQ.out.at 2 _ rfl
  have b3 := HQ.out.at 3 _ rfl
  have b4 := HQ.out.at 4 _ rfl
  have b5 := HQ.out.at 5 _ rfl
  have b6 := HQ.out.at 6 _ rfl
  have b7 := HQ.out.at 7 _ rfl
  have b8 := HQ.out.at 8 _ rfl
  have b9 := HQ.out.at 9 _ rfl
  have b10 := HQ.out.at 10 _ rfl
  have b11 := HQ.out.at 11 _ rfl
  go_loopw [8] (fun i wr => ∃ (k q : Nat), k ≤ len ∧ i = .int .i64 k ∧ wr = W0.drewN q ∧ Hid ((l.take k).any (sameX (xm, xh)) = false)) (fun i _ => len - (intOf i).toNat)
  case atStart => exact ⟨0, 0, Nat.zero_le _, rfl, rfl, rfl⟩
  case round =>
    obtain ⟨k, q, hk, rfl, rfl, HK⟩ := hrel
    by_cases hlt : k < len
    · have hltz : (k : Int) < (len : Int) := by omega
      obtain ⟨y, hy⟩ : ∃ y, l[k]? = some y := ⟨l[k]'(by have := HL.out; omega), List.getElem?_eq_getElem (by have := HL.out; omega)⟩
      have HYK : Hid (l[k]? = some y) := hy
      obtain ⟨ha0, _⟩ := HX.out.lies (by omega)
      subst ha0
      obtain ⟨c0, c1, c2, c3, c4, c5, c6, c7, c8, c9, c10, c11⟩ := HX.out.all (j := k) (v := PsV.of ⟨fs, fh, fp, us, uh, up, pa, qu, wi, me, he, un⟩ y) (by rw [List.getElem?_map, hy]; rfl)
      obtain ⟨ym, yh⟩ := y
      simp only [PsV.of] at c0 c1 c2 c3 c4 c5 c6 c7 c8 c9 c10 c11
      obtain ⟨t, HT⟩ : ∃ t, Hid (sameX (xm, xh) (ym, yh) = t) := ⟨_, rfl⟩
      have ep := fun W => eqP9 fs fh fp us uh up pa qu wi un xm xh ym yh t HT.out W
      clear hy
      cases t
      · have HS : Hid ((l.take (k + 1)).any (sameX (xm, xh)) = false) := take_any HK.out HYK.out HT.out
        go_wp2
        go_quiet (fail)
        go_wp2
        go_roundw
        case rel => exact ⟨k + 1, _, by omega, by go_num, rfl, HS⟩
        case measure => simp [intOf]; omega
      · have HS : Hid (l.any (sameX (xm, xh)) = true) := List.any_eq_true.2 ⟨_, List.mem_of_getElem? HYK.out, HT.out⟩
        go_wp2
        go_quiet (fail)
        go_wp2
        go_ret
        exact ⟨⟨_, rfl, by show _ = _; rw [HS.out]; exact decide_eq_true (Int.natCast_nonneg _)⟩, drewN_below (drewN_below HB.out _) _⟩
    · have hltz : ¬ (k : Int) < (len : Int) := by omega
      have HS : Hid (l.any (sameX (xm, xh)) = false) := by
        have := HK.out
        rw [List.take_of_length_le (by have := HL.out; omega)] at this
        exact this
      go_wp2
      go_ret
      exact ⟨⟨_, rfl, by show _ = _; rw [HS.out]; rfl⟩, drewN_below HB.out _⟩
set_option maxRecDepth 100000 in
set_option maxHeartbeats 4000000 in
theorem containsX_any (p : PsV) (x : ByteArray × ByteArray) (l : List (ByteArray × ByteArray)) (a0 : Option Addr) (len cap b off : Nat) (hlen : len ≤ 1000000) (w : World) (hx : Pss w a0 len b off (l.map p.of)) :
    Calls Tryz.prog 76 #[.slice a0 len cap, .agg #[.bool p.fs, .string p.fh, .int .i64 p.fp, .bool p.us, .string p.uh, .int .i64 p.up, .string p.pa, .string p.qu, .bool p.wi, .string x.1, .string x.2, .int .i64 p.un]] w fun e w' => e = .returned (.bool (l.any (sameX x))) ∧ Below w.heap.size w w' := by
  have HQ : Hid (BoxQ 50 w #[.bool p.fs, .string p.fh, .int .i64 p.fp, .bool p.us, .string p.uh, .int .i64 p.up, .string p.pa, .string p.qu, .bool p.wi, .string x.1, .string x.2, .int .i64 p.un] (w.alloc (.cells #[.bool p.fs, .string p.fh, .int .i64 p.fp, .bool p.us, .string p.uh, .int .i64 p.up, .string p.pa, .string p.qu, .bool p.wi, .string x.1, .string x.2, .int .i64 p.un] 50))) := BoxQ.new _ _ _
  have HI : Hid (Calls Tryz.prog 103 #[.slice a0 len cap, .agg #[.bool p.fs, .string p.fh, .int .i64 p.fp, .bool p.us, .string p.uh, .int .i64 p.up, .string p.pa, .string p.qu, .bool p.wi, .string x.1, .string x.2, .int .i64 p.un]] (w.alloc (.cells #[.bool p.fs, .string p.fh, .int .i64 p.fp, .bool p.us, .string p.uh, .int .i64 p.up, .string p.pa, .string p.qu, .bool p.wi, .string x.1, .string x.2, .int .i64 p.un] 50)) fun e w' => (∃ r : Int, e = .returned (.int .i64 r) ∧ Hid (decide (0 ≤ r) = l.any (sameX x))) ∧ Below (w.alloc (.cells #[.bool p.fs, .string p.fh, .int .i64 p.fp, .bool p.us, .string p.uh, .int .i64 p.up, .string p.pa, .string p.qu, .bool p.wi, .string x.1, .string x.2, .int .i64 p.un] 50)).heap.size (w.alloc (.cells #[.bool p.fs, .string p.fh, .int .i64 p.fp, .bool p.us, .string p.uh, .int .i64 p.up, .string p.pa, .string p.qu, .bool p.wi, .string x.1, .string x.2, .int .i64 p.un] 50)) w') :=
    indexX_any p x l a0 len cap b off hlen _ (hx.below HQ.out.bel)
  have b0 := HQ.out.at 0 _ rfl
  have b1 := HQ.out.at 1 _ rfl
  have b2 := HQ.out.at 2 _ rfl
  have b3 := HQ.out.at 3 _ rfl
  have b4 := HQ.out.at 4 _ rfl
  have b5 := HQ.out.at 5 _ rfl
  have b6 := HQ.out.at 6 _ rfl
  have b7 := HQ.out.at 7 _ rfl
  have b8 := HQ.out.at 8 _ rfl
  have b9 := HQ.out.at 9 _ rfl
  have b10 := HQ.out.at 10 _ rfl
  have b11 := HQ.out.at 11 _ rfl
  clear hx
  go_enter Tryz.func76, Tryz.ntmps76
  go_wp2_with fail
  refine HI.out.mono ?_
  rintro e w1 ⟨⟨r, rfl, HR⟩, hb⟩
  have HB1 : Hid (Below w.heap.size w w1) := HQ.out.inB hb
  clear hb HI
  go_wp2
  go_ret
  exact ⟨ret_bool HR.out, HB1.out⟩
end Go.Proofs.YtoblpjknnchlmabGreatDoor
