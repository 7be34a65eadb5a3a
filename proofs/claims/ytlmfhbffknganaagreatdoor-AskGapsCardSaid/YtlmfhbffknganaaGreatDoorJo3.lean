/- Texts of one claim, joined: each begins with what it proves. -/
import Derived.Test.YtlmfhbffknganaaGreatDoorJo2
import Derived.Test.YtlmfhbffknganaaGreatDoorJo1
import Derived.Deep.LoopGhost
import Derived.Deep.Cut
import Derived.Deep.DeepCutAuto
import Derived.Deep.Draws
import Derived.Deep.Onto
import Derived.Shelf.Strings.Prefix
import Derived.Shelf.Strings.SlTrimAscii
import Derived.Deep.QuietTactic
import Derived.BigQuiet
/- Challenges as the document says them, over lists of bytes. -/
namespace Go.Proofs.YtlmfhbffknganaaGreatDoor

def gapB (c : UInt8) : Bool := blankB c || c == 44
def eqB (c : UInt8) : Bool := c == 61
/-- A byte of a Token. -/
def tkB (c : UInt8) : Bool := decide (97 ≤ c.toNat ∧ c.toNat ≤ 122) || decide (65 ≤ c.toNat ∧ c.toNat ≤ 90) || decide (48 ≤ c.toNat ∧ c.toNat ≤ 57) || ([45, 46, 95, 126, 43, 47] : List UInt8).contains c
/-- The end or a comma stands there. -/
def stopsL : List UInt8 → Bool
  | [] => true
  | c :: _ => c == 44
/-- The Token there, and what stands behind it and its blanks. -/
def tokenL (r : List UInt8) : Option (ByteArray × List UInt8) :=
  if (r.dropWhile tkB).length < r.length ∧ stopsL (((r.dropWhile tkB).dropWhile eqB).dropWhile blankB) = true then
    some (bs (r.take (r.length - ((r.dropWhile tkB).dropWhile eqB).length)), ((r.dropWhile tkB).dropWhile eqB).dropWhile blankB)
  else none
/-- Behind = . -/
def markL : List UInt8 → Option (List UInt8)
  | [] => none
  | c :: t => if c = 61 then some t else none
/-- A name and = , and what stands behind. -/
def nameL (r : List UInt8) : Option (ByteArray × List UInt8) :=
  if r.takeWhile tokB = [] then none else (markL ((r.dropWhile tokB).dropWhile blankB)).map fun t => (bs (r.takeWhile tokB), t)
/-- Where what is missing of a name should stand. -/
def nameE (r : List UInt8) : List UInt8 := if r.takeWhile tokB = [] then r else (r.dropWhile tokB).dropWhile blankB
def valueL (r : List UInt8) : Option (ByteArray × List UInt8) :=
  if r.takeWhile tokB = [] then (quotedL r).map fun x => (bs x.1, r.drop x.2) else some (bs (r.takeWhile tokB), r.dropWhile tokB)
def toldL (acc : List Par) (n : ByteArray) : Bool := acc.any fun p => sameL p.1.data.toList n.data.toList
/-- A parameter and what stands behind it, or an error and how many bytes are left where it stands. -/
def paramL (acc : List Par) (r : List UInt8) : Except (Nat × Nat) (Par × List UInt8) :=
  match nameL r with
  | none => .error (3, (nameE r).length)
  | some (n, t) => match valueL (t.dropWhile blankB) with
    | none => .error (3, (t.dropWhile blankB).length)
    | some (v, u) => if toldL acc n then .error (9, r.length) else if 16 ≤ acc.length then .error (4, r.length) else .ok ((n, v), u)
def paramsL : Nat → List Par → List UInt8 → Except (Nat × Nat) (List Par × List UInt8)
  | 0, _, r => .error (3, r.length)
  | f + 1, acc, r => match paramL acc r with
    | .error e => .error e
    | .ok (p, u) =>
      if stopsL (u.dropWhile blankB) then
        if (nameL ((u.dropWhile blankB).dropWhile gapB)).isSome then paramsL f (acc ++ [p]) ((u.dropWhile blankB).dropWhile gapB)
        else .ok (acc ++ [p], (u.dropWhile blankB).dropWhile gapB)
      else .error (3, (u.dropWhile blankB).length)
/-- What stands behind a scheme and its blanks. -/
def insideL (w : ByteArray) (r : List UInt8) : Except (Nat × Nat) (Chal × List UInt8) :=
  match tokenL r with
  | some (t, u) => .ok (⟨w, t, []⟩, u)
  | none => (paramsL (r.length + 1) [] r).map fun x => (⟨w, ⟨#[]⟩, x.1⟩, x.2)
def chalL (ahead : Nat) (r : List UInt8) : Except (Nat × Nat) (Chal × List UInt8) :=
  if r.takeWhile tokB = [] then .error (3, r.length)
  else if 8 ≤ ahead then .error (4, r.length)
  else if stopsL ((r.dropWhile tokB).dropWhile blankB) then .ok (⟨bs (r.takeWhile tokB), ⟨#[]⟩, []⟩, (r.dropWhile tokB).dropWhile blankB)
  else if runL blankB (r.dropWhile tokB) = 0 then .error (3, ((r.dropWhile tokB).dropWhile blankB).length)
  else insideL (bs (r.takeWhile tokB)) ((r.dropWhile tokB).dropWhile blankB)
def parseL : Nat → List Chal → List UInt8 → Except (Nat × Nat) (List Chal)
  | 0, _, r => .error (3, r.length)
  | f + 1, acc, r =>
    if r.dropWhile gapB = [] then .ok acc
    else match chalL acc.length (r.dropWhile gapB) with
      | .error e => .error e
      | .ok (x, u) => parseL f (acc ++ [x]) u
/-- A header's challenges (of at most MaxText bytes). -/
def askL (s : List UInt8) : Except (Nat × Nat) (List Chal) := parseL (s.length + 1) [] s

theorem dw_len (f : UInt8 → Bool) (l : List UInt8) : (l.dropWhile f).length ≤ l.length := (List.dropWhile_sublist f).length_le
theorem dw_tw (f : UInt8 → Bool) (l : List UInt8) : (l.dropWhile f).length + (l.takeWhile f).length = l.length := by
  conv => rhs; rw [← List.takeWhile_append_dropWhile (p := f) (l := l), List.length_append]
  omega
theorem dw_lt (f : UInt8 → Bool) (l : List UInt8) (h : l.takeWhile f ≠ []) : (l.dropWhile f).length < l.length := by
  have := dw_tw f l
  have : 0 < (l.takeWhile f).length := List.length_pos_iff.2 h
  omega
theorem markL_len (l t : List UInt8) (h : markL l = some t) : t.length < l.length := by
  cases l with
  | nil => cases h
  | cons c r =>
    rw [markL] at h
    by_cases hc : c = 61
    · rw [if_pos hc] at h
      cases h
      simp
    · rw [if_neg hc] at h
      cases h
theorem nameL_len (r t : List UInt8) (n : ByteArray) (h : nameL r = some (n, t)) : t.length + 2 ≤ r.length := by
  unfold nameL at h
  split at h
  · cases h
  · rename_i h0
    rcases hm : markL ((r.dropWhile tokB).dropWhile blankB) with _ | u
    · rw [hm] at h; cases h
    · rw [hm] at h
      cases h
      have := markL_len _ _ hm
      have := dw_len blankB (r.dropWhile tokB)
      have := dw_lt tokB r h0
      omega
theorem valueL_len (r u : List UInt8) (v : ByteArray) (h : valueL r = some (v, u)) : u.length < r.length := by
  unfold valueL at h
  split at h
  · rcases hq : quotedL r with _ | ⟨t, n⟩
    · rw [hq] at h; cases h
    · rw [hq] at h
      cases h
      have := quoted_size r t n hq
      simp
      omega
  · rename_i h0
    cases h
    exact dw_lt tokB r h0
theorem paramL_len (acc : List Par) (r u : List UInt8) (p : Par) (h : paramL acc r = .ok (p, u)) : u.length + 3 ≤ r.length := by
  unfold paramL at h
  rcases hn : nameL r with _ | ⟨n, t⟩
  · rw [hn] at h; cases h
  · rw [hn] at h
    rcases hv : valueL (t.dropWhile blankB) with _ | ⟨v, u'⟩
    · simp only [hv] at h; cases h
    · simp only [hv] at h
      split at h
      · cases h
      · split at h
        · cases h
        · cases h
          have := nameL_len _ _ _ hn
          have := valueL_len _ _ _ hv
          have := dw_len blankB t
          omega
theorem paramsL_len : ∀ (f : Nat) (acc : List Par) (r : List UInt8) (ps : List Par) (u : List UInt8), paramsL f acc r = .ok (ps, u) → u.length + 3 ≤ r.length
  | 0, acc, r, ps, u, h => by cases h
  | f + 1, acc, r, ps, u, h => by
    unfold paramsL at h
    rcases hp : paramL acc r with e | ⟨p, v⟩
    · rw [hp] at h; cases h
    · rw [hp] at h
      have h1 := paramL_len _ _ _ _ hp
      have h2 := dw_len blankB v
      have h3 := dw_len gapB (v.dropWhile blankB)
      simp only at h
      split at h
      · split at h
        · have := paramsL_len f _ _ _ _ h
          omega
        · cases h
          omega
      · cases h
theorem tokenL_len (r u : List UInt8) (t : ByteArray) (h : tokenL r = some (t, u)) : u.length < r.length := by
  unfold tokenL at h
  split at h
  · rename_i h0
    cases h
    have h1 := dw_len eqB (r.dropWhile tkB)
    have h2 := dw_len blankB ((r.dropWhile tkB).dropWhile eqB)
    omega
  · cases h
theorem chalL_len (a : Nat) (r u : List UInt8) (x : Chal) (h : chalL a r = .ok (x, u)) : u.length < r.length := by
  unfold chalL at h
  split at h
  · cases h
  · rename_i h0
    have h1 := dw_lt tokB r h0
    have h2 := dw_len blankB (r.dropWhile tokB)
    split at h
    · cases h
    · split at h
      · cases h; omega
      · split at h
        · cases h
        · unfold insideL at h
          rcases ht : tokenL ((r.dropWhile tokB).dropWhile blankB) with _ | ⟨t, v⟩
          · rw [ht] at h
            simp only at h
            rcases hp : paramsL (((r.dropWhile tokB).dropWhile blankB).length + 1) [] ((r.dropWhile tokB).dropWhile blankB) with e | ⟨ps, v⟩
            · rw [hp] at h; cases h
            · rw [hp] at h
              cases h
              have := paramsL_len _ _ _ _ _ hp
              show v.length < _
              omega
          · rw [ht] at h
            cases h
            have := tokenL_len _ _ _ ht
            omega
end Go.Proofs.YtlmfhbffknganaaGreatDoor

/- The reader of a header: gaps, ends, names and values, by the program. -/
namespace Go.Proofs.YtlmfhbffknganaaGreatDoor
open Go.RowKit

theorem gap_blank (l : List UInt8) : (l.dropWhile blankB).dropWhile gapB = l.dropWhile gapB := by
  induction l with
  | nil => rfl
  | cons c t ih =>
    by_cases h : blankB c = true
    · have h2 : gapB c = true := by unfold gapB; rw [h]; rfl
      rw [List.dropWhile_cons_of_pos h, List.dropWhile_cons_of_pos h2, ih]
    · rw [List.dropWhile_cons_of_neg h]
theorem gap_comma (t : List UInt8) : (44 :: t).dropWhile gapB = t.dropWhile gapB := List.dropWhile_cons_of_pos (by decide)
theorem gap_none (l : List UInt8) (h : runL blankB l = 0) (h2 : ∀ t, l ≠ 44 :: t) : l.dropWhile gapB = l := by
  cases l with
  | nil => rfl
  | cons c t =>
    have h3 : blankB c = false := by
      cases hb : blankB c
      · rfl
      · unfold runL at h
        rw [List.takeWhile_cons_of_pos hb] at h
        cases h
    have h4 : gapB c = false := by
      unfold gapB
      rw [h3, Bool.false_or, beq_eq_false_iff_ne]
      intro e
      exact h2 t (by rw [e])
    rw [List.dropWhile_cons_of_neg (by rw [h4]; simp)]
theorem run_zero (l : List UInt8) (f : UInt8 → Bool) (h : ¬ 0 < runL f l) : l.dropWhile f = l := by
  cases l with
  | nil => rfl
  | cons c t =>
    cases hb : f c
    · rw [List.dropWhile_cons_of_neg (by rw [hb]; simp)]
    · unfold runL at h
      rw [List.takeWhile_cons_of_pos hb] at h
      simp at h
theorem box_reader {w w' : World} {b : Nat} {s : ByteArray} {row : Option Nat} (hg : (w.alloc (.cells #[.pointer (some ⟨b, 0, none⟩), .string s] 78)).grownBy w' row) (hr : some w.heap.size ≠ row) :
    w'.cell? ⟨w.heap.size, 0, none⟩ = some (.pointer (some ⟨b, 0, none⟩)) ∧ w'.cell? ⟨w.heap.size, 1, none⟩ = some (.string s) :=
  ⟨hg.cell (World.cell?_alloc_mark _ _ _ _ _) hr, hg.cell (World.cell?_alloc_mark _ _ _ _ _) hr⟩
theorem grown_alloc (w : World) (o : Obj) (row : Option Nat) : w.grownBy (w.alloc o) row := grown_below ((Below.refl _ _).alloc (Nat.le_refl _) _) row
set_option maxRecDepth 100000 in
set_option maxHeartbeats 2000000 in
theorem gaps_any (b : Nat) (s : ByteArray) (hs : s.size ≤ 3000) (r : List UInt8) (w : World) (hc : CurR w b s r) :
    Calls Tryz.prog 35 #[.agg #[.pointer (some ⟨b, 0, none⟩), .string s]] w fun e w' => e = .returned (.tuple #[]) ∧ CurR w' b s (r.dropWhile gapB) ∧ w.grownBy w' (some b) := by
  have hbl := hc.lt
  have HC1 : Hid (CurR (w.alloc (.cells #[.pointer (some ⟨b, 0, none⟩), .string s] 78)) b s r) := hc.below ((Below.refl _ _).alloc (Nat.le_refl _) _)
  have HG1 : Hid (w.grownBy (w.alloc (.cells #[.pointer (some ⟨b, 0, none⟩), .string s] 78)) (some b)) := grown_alloc _ _ _
  have hne : some w.heap.size ≠ some b := by intro e; injection e with e; omega
  clear hc
  go_enter Tryz.func35, Tryz.ntmps35
  go_wp2
  go_loopg [] r.length (fun gh wr => ∃ r', r'.length = gh ∧ Hid (CurR wr b s r' ∧ r'.dropWhile gapB = r.dropWhile gapB ∧ (w.alloc (.cells #[.pointer (some ⟨b, 0, none⟩), .string s] 78)).grownBy wr (some b)))
  case atStart => exact ⟨r, rfl, HC1.out, rfl, grown_drewN _ 0 _⟩
  case round =>
    obtain ⟨r', hr', HI⟩ := hrel
    obtain ⟨hx0, hx1⟩ := box_reader HI.out.2.2 hne
    by_cases hbk : 0 < runL blankB r'
    · have hdw := run_dw blankB r'
      go_wp2_with fail
      refine (rd_blanks b s hs r' _ HI.out.1).mono ?_
      rintro e w2 ⟨rfl, hc2, hg2⟩
      rw [decide_eq_true hbk]
      have HI2 : Hid (CurR w2 b s (r'.dropWhile blankB) ∧ (r'.dropWhile blankB).dropWhile gapB = r.dropWhile gapB ∧ (w.alloc (.cells #[.pointer (some ⟨b, 0, none⟩), .string s] 78)).grownBy w2 (some b)) := ⟨hc2, (gap_blank r').trans HI.out.2.1, grown_trans HI.out.2.2 hg2⟩
      clear hc2 hg2
      go_wp2
      go_roundg (r'.dropWhile blankB).length
      case measure => omega
      case rel => exact ⟨_, rfl, HI2⟩
    · have hdw := run_zero r' blankB hbk
      have HNB : Hid (runL blankB r' = 0) := by show _ = _; omega
      go_wp2_with fail
      refine (rd_blanks b s hs r' _ HI.out.1).mono ?_
      rintro e w2 ⟨rfl, hc2, hg2⟩
      rw [decide_eq_false hbk]
      rw [hdw] at hc2
      have HI2 : Hid (CurR w2 b s r' ∧ (w.alloc (.cells #[.pointer (some ⟨b, 0, none⟩), .string s] 78)).grownBy w2 (some b)) := ⟨hc2, grown_trans HI.out.2.2 hg2⟩
      obtain ⟨hy0, hy1⟩ := box_reader HI2.out.2 hne
      clear hc2 hg2 hdw hbk hx0 hx1
      by_cases hcm : ∃ t, r' = 44 :: t
      · obtain ⟨t, rfl⟩ := hcm
        have HL : Hid (t.length < (44 :: t : List UInt8).length) := by show _ < _; simp
        go_wp2_with fail
        refine (rd_mark_yes b s hs 44 t _ HI2.out.1).mono ?_
        rintro e w3 ⟨rfl, hc3, hg3⟩
        have HI3 : Hid (CurR w3 b s t ∧ t.dropWhile gapB = r.dropWhile gapB ∧ (w.alloc (.cells #[.pointer (some ⟨b, 0, none⟩), .string s] 78)).grownBy w3 (some b)) := ⟨hc3, (gap_comma t).symm.trans HI.out.2.1, grown_trans HI2.out.2 hg3⟩
        clear hc3 hg3
        go_wp2
        go_roundg t.length
        case measure => have := HL.out; omega
        case rel => exact ⟨_, rfl, HI3⟩
      · have HE : Hid (r.dropWhile gapB = r') := by
          have h1 := gap_none r' HNB.out (fun t e => hcm ⟨t, e⟩)
          show _ = _
          rw [← HI.out.2.1, h1]
        go_wp2_with fail
        refine (rd_mark_no b s 44 r' (fun t e => hcm ⟨t, e⟩) _ HI2.out.1).mono ?_
        rintro e w3 ⟨rfl, n, rfl⟩
        go_wp2
        refine bodyPost_end (v := .tuple #[]) (by simp [results, Tryz.f35]) rfl ⟨rfl, ?_, ?_⟩
        · rw [HE.out]; exact HI2.out.1.drewN _
        · exact grown_trans HG1.out (grown_trans HI2.out.2 (grown_drewN _ _ _))
set_option maxRecDepth 100000 in
set_option maxHeartbeats 2000000 in
theorem over_at (b : Nat) (s : ByteArray) (r : List UInt8) (w : World) (hc : CurR w b s r) :
    Calls Tryz.prog 69 #[.agg #[.pointer (some ⟨b, 0, none⟩), .string s]] w fun e w' => e = .returned (.bool (stopsL r)) ∧ CurR w' b s r ∧ w.grownBy w' (some b) := by
  have hbl := hc.lt
  have HC1 : Hid (CurR (w.alloc (.cells #[.pointer (some ⟨b, 0, none⟩), .string s] 78)) b s r) := hc.below ((Below.refl _ _).alloc (Nat.le_refl _) _)
  have HG1 : Hid (w.grownBy (w.alloc (.cells #[.pointer (some ⟨b, 0, none⟩), .string s] 78)) (some b)) := grown_alloc _ _ _
  have hend : ∀ n, Calls Tryz.prog 36 #[.pointer (some ⟨b, 0, none⟩)] ((w.alloc (.cells #[.pointer (some ⟨b, 0, none⟩), .string s] 78)).drewN n) fun e w' => e = .returned (.bool r.isEmpty) ∧ ∃ m, w' = ((w.alloc (.cells #[.pointer (some ⟨b, 0, none⟩), .string s] 78)).drewN n).drewN m := fun n => rd_end b s r _ (HC1.out.drewN n)
  have hat : ∀ n, Calls Tryz.prog 26 #[.pointer (some ⟨b, 0, none⟩)] ((w.alloc (.cells #[.pointer (some ⟨b, 0, none⟩), .string s] 78)).drewN n) fun e w' => e = .returned (.int .i64 ((s.size - r.length : Nat) : Int)) ∧ w' = (w.alloc (.cells #[.pointer (some ⟨b, 0, none⟩), .string s] 78)).drewN n := fun n => rd_at b s r _ (HC1.out.drewN n)
  cases r with
  | nil =>
    have hend' : ∀ n, Calls Tryz.prog 36 #[.pointer (some ⟨b, 0, none⟩)] ((w.alloc (.cells #[.pointer (some ⟨b, 0, none⟩), .string s] 78)).drewN n) fun e w' => e = .returned (.bool true) ∧ ∃ m, w' = ((w.alloc (.cells #[.pointer (some ⟨b, 0, none⟩), .string s] 78)).drewN n).drewN m := hend
    clear hend hat hc
    go_enter Tryz.func69, Tryz.ntmps69
    go_wp2
    go_quiet ((go_at_call 36; exact Calls.quiet_of (hend' _)))
    go_wp2
    go_ret
    exact ⟨rfl, HC1.out.drewN _, grown_trans HG1.out (grown_drewN _ _ _)⟩
  | cons c t =>
    have hend' : ∀ n, Calls Tryz.prog 36 #[.pointer (some ⟨b, 0, none⟩)] ((w.alloc (.cells #[.pointer (some ⟨b, 0, none⟩), .string s] 78)).drewN n) fun e w' => e = .returned (.bool false) ∧ ∃ m, w' = ((w.alloc (.cells #[.pointer (some ⟨b, 0, none⟩), .string s] 78)).drewN n).drewN m := hend
    obtain ⟨hk, he⟩ := curR_cons hc
    obtain ⟨k, HK⟩ : ∃ k, Hid (s.size - (c :: t).length = k) := ⟨_, rfl⟩
    rw [HK.out] at hat
    have hk2 : k < s.size := by rw [← HK.out]; exact hk
    have he2 : s[k] = c := by
      have := he
      simp only [HK.out] at this
      exact this
    have HS : Hid (stopsL (c :: t) = ((c.toNat : Int) == 44)) := by
      show _ = _
      unfold stopsL
      rw [Bool.eq_iff_iff, beq_iff_eq, beq_iff_eq]
      constructor
      · rintro rfl; rfl
      · intro e; exact UInt8.toNat_inj.1 (by have : (44 : UInt8).toNat = 44 := rfl; omega)
    clear hend hc hk he
    have hkS : (k : Int) < (s.size : Int) := by omega
    go_enter Tryz.func69, Tryz.ntmps69
    go_wp2
    go_quiet (first | (go_at_call 36; exact Calls.quiet_of (hend' _)) | (go_at_call 26; exact Calls.quiet_of_same (hat _)))
    go_wp2
    go_ret
    exact ⟨ret_bool HS.out.symm, HC1.out.drewN _, grown_trans HG1.out (grown_drewN _ _ _)⟩
end Go.Proofs.YtlmfhbffknganaaGreatDoor

/- The reader's names, values and tokens, by the program. -/
namespace Go.Proofs.YtlmfhbffknganaaGreatDoor
open Go.RowKit

theorem markL_cons (t : List UInt8) : markL (61 :: t) = some t := rfl
theorem markL_no (r : List UInt8) (h : ∀ t, r ≠ 61 :: t) : markL r = none := by
  cases r with
  | nil => rfl
  | cons c t =>
    rw [markL, if_neg]
    intro e
    exact h t (by rw [e])
/-- What the reader's name answers. -/
def NmAns (b : Nat) (s : ByteArray) (r : List UInt8) (e : Ending) (w' : World) : Prop :=
  (∃ (n : ByteArray) (t : List UInt8), nameL r = some (n, t) ∧ n.size ≤ 3000 ∧ e = .returned (.tuple #[.string n, .bool true]) ∧ CurR w' b s t) ∨
  (nameL r = none ∧ (∃ n : ByteArray, e = .returned (.tuple #[.string n, .bool false])) ∧ CurR w' b s (nameE r))
set_option maxRecDepth 100000 in
set_option maxHeartbeats 2000000 in
theorem name_any (b : Nat) (s : ByteArray) (hs : s.size ≤ 3000) (r : List UInt8) (w : World) (hc : CurR w b s r) :
    Calls Tryz.prog 117 #[.agg #[.pointer (some ⟨b, 0, none⟩), .string s]] w fun e w' => NmAns b s r e w' ∧ w.grownBy w' (some b) := by
  have hbl := hc.lt
  have hrl := hc.len
  have hrun := runL_le tokB r
  have HC1 : Hid (CurR (w.alloc (.cells #[.pointer (some ⟨b, 0, none⟩), .string s] 78)) b s r) := hc.below ((Below.refl _ _).alloc (Nat.le_refl _) _)
  have HG1 : Hid (w.grownBy (w.alloc (.cells #[.pointer (some ⟨b, 0, none⟩), .string s] 78)) (some b)) := grown_alloc _ _ _
  have hne : some w.heap.size ≠ some b := by intro e; injection e with e; omega
  clear hc
  go_enter Tryz.func117, Tryz.ntmps117
  go_wp2_with fail
  refine (rd_word b s hs r _ HC1.out).mono ?_
  rintro e w2 ⟨t, rfl, htz, HT, hc2, hg2⟩
  obtain ⟨hx0, hx1⟩ := box_reader hg2 hne
  have HC2 : Hid (CurR w2 b s (r.dropWhile tokB) ∧ (w.alloc (.cells #[.pointer (some ⟨b, 0, none⟩), .string s] 78)).grownBy w2 (some b)) := ⟨hc2, hg2⟩
  have ht3 : t.size ≤ 3000 := by omega
  clear hc2 hg2 HC1
  by_cases h0 : r.takeWhile tokB = []
  · have HN : Hid (nameL r = none ∧ nameE r = r) := by unfold nameL nameE; rw [if_pos h0, if_pos h0]; exact ⟨rfl, rfl⟩
    have HD : Hid (r.dropWhile tokB = r) := run_zero r tokB (by unfold runL; rw [h0]; simp)
    have ht0 : t.size = 0 := by rw [htz]; unfold runL; rw [h0]; rfl
    obtain rfl : t = ⟨#[]⟩ := ByteArray.ext (Array.eq_empty_of_size_eq_zero ht0)
    clear h0 htz
    go_wp2
    go_ret2
    exact ⟨.inr ⟨HN.out.1, ⟨_, rfl⟩, by rw [HN.out.2, ← HD.out]; exact HC2.out.1⟩, grown_trans HG1.out HC2.out.2⟩
  · have HN0 : Hid (r.takeWhile tokB ≠ []) := h0
    have hte : t.toList.isEmpty = false := by
      rw [HT.out, ByteArray.toList_eq, bs_data]
      cases h : r.takeWhile tokB with
      | nil => exact absurd h h0
      | cons x y => rfl
    clear h0 htz
    go_wp2_with fail
    refine (rd_blanks b s hs _ _ HC2.out.1).mono ?_
    rintro e w3 ⟨rfl, hc3, hg3⟩
    have HC3 : Hid (CurR w3 b s ((r.dropWhile tokB).dropWhile blankB) ∧ (w.alloc (.cells #[.pointer (some ⟨b, 0, none⟩), .string s] 78)).grownBy w3 (some b)) := ⟨hc3, grown_trans HC2.out.2 hg3⟩
    obtain ⟨hy0, hy1⟩ := box_reader HC3.out.2 hne
    clear hc3 hg3 hx0 hx1 HC2
    by_cases hm : ∃ u, (r.dropWhile tokB).dropWhile blankB = 61 :: u
    · obtain ⟨u, hu⟩ := hm
      have HN : Hid (nameL r = some (t, u)) := by show _ = _; unfold nameL; rw [if_neg HN0.out, hu, markL_cons, HT.out]; rfl
      rw [hu] at HC3
      clear hu
      go_wp2_with fail
      refine (rd_mark_yes b s hs 61 u _ HC3.out.1).mono ?_
      rintro e w4 ⟨rfl, hc4, hg4⟩
      have HC4 : Hid (CurR w4 b s u ∧ w.grownBy w4 (some b)) := ⟨hc4, grown_trans HG1.out (grown_trans HC3.out.2 hg4)⟩
      clear hc4 hg4
      go_wp2
      go_ret2
      exact ⟨.inl ⟨t, u, HN, ht3, rfl, HC4.out.1⟩, HC4.out.2⟩
    · have HN : Hid (nameL r = none ∧ nameE r = (r.dropWhile tokB).dropWhile blankB) := by unfold nameL nameE; rw [if_neg HN0.out, if_neg HN0.out, markL_no _ (fun u e => hm ⟨u, e⟩)]; exact ⟨rfl, rfl⟩
      go_wp2_with fail
      refine (rd_mark_no b s 61 _ (fun u e => hm ⟨u, e⟩) _ HC3.out.1).mono ?_
      rintro e w4 ⟨rfl, q, rfl⟩
      go_wp2
      go_ret2
      exact ⟨.inr ⟨HN.out.1, ⟨t, rfl⟩, by rw [HN.out.2]; exact HC3.out.1.drewN _⟩, grown_trans HG1.out (grown_trans HC3.out.2 (grown_drewN _ _ _))⟩
set_option maxRecDepth 100000 in
set_option maxHeartbeats 2000000 in
theorem nameAhead_any (b : Nat) (s : ByteArray) (hs : s.size ≤ 3000) (r : List UInt8) (w : World) (hc : CurR w b s r) :
    Calls Tryz.prog 98 #[.agg #[.pointer (some ⟨b, 0, none⟩), .string s]] w fun e w' => e = .returned (.bool (nameL r).isSome) ∧ CurR w' b s r ∧ w.grownBy w' (some b) := by
  have hbl := hc.lt
  have HSF : Hid (r <:+ s.data.toList) := hc.2
  have HC1 : Hid (CurR (w.alloc (.cells #[.pointer (some ⟨b, 0, none⟩), .string s] 78)) b s r) := hc.below ((Below.refl _ _).alloc (Nat.le_refl _) _)
  have HG1 : Hid (w.grownBy (w.alloc (.cells #[.pointer (some ⟨b, 0, none⟩), .string s] 78)) (some b)) := grown_alloc _ _ _
  have hne : some w.heap.size ≠ some b := by intro e; injection e with e; omega
  obtain ⟨k, HK⟩ : ∃ k, Hid (s.size - r.length = k) := ⟨_, rfl⟩
  have hat := rd_at b s r _ HC1.out
  rw [HK.out] at hat
  clear hc
  go_enter Tryz.func98, Tryz.ntmps98
  go_wp2_with (go_at_call 26; refine hat.mono ?_; rintro e w1 ⟨rfl, hw1⟩; obtain rfl := hw1.symm; clear hw1 hat)
  refine (name_any b s hs r _ HC1.out).mono ?_
  rintro e w2 ⟨hn, hg2⟩
  obtain ⟨hx0, hx1⟩ := box_reader hg2 hne
  have HG2 : Hid (w.grownBy w2 (some b)) := grown_trans HG1.out hg2
  clear hg2
  rcases hn with ⟨n, t, h1, _, rfl, hc2⟩ | ⟨h1, ⟨n, rfl⟩, hc2⟩
  · have HN : Hid ((nameL r).isSome = true) := by show _ = _; rw [h1]; rfl
    have HC2 : Hid (CurR w2 b s t) := hc2
    clear h1 hc2
    go_wp2_with fail
    refine (rd_go b s t r HSF.out _ (by rw [HK.out]) _ HC2.out).mono ?_
    rintro e w3 ⟨rfl, hc3, hg3⟩
    go_wp2
    go_ret
    exact ⟨ret_bool HN.out.symm, hc3, grown_trans HG2.out hg3⟩
  · have HN : Hid ((nameL r).isSome = false) := by show _ = _; rw [h1]; rfl
    have HC2 : Hid (CurR w2 b s (nameE r)) := hc2
    clear h1 hc2
    go_wp2_with fail
    refine (rd_go b s _ r HSF.out _ (by rw [HK.out]) _ HC2.out).mono ?_
    rintro e w3 ⟨rfl, hc3, hg3⟩
    go_wp2
    go_ret
    exact ⟨ret_bool HN.out.symm, hc3, grown_trans HG2.out hg3⟩
/-- What the reader's value answers. -/
def VlAns (b : Nat) (s : ByteArray) (r : List UInt8) (e : Ending) (w' : World) : Prop :=
  (∃ (v : ByteArray) (t : List UInt8), valueL r = some (v, t) ∧ v.size ≤ 3000 ∧ e = .returned (.tuple #[.string v, .bool true]) ∧ CurR w' b s t) ∨
  (valueL r = none ∧ e = .returned (.tuple #[.string ⟨#[]⟩, .bool false]) ∧ CurR w' b s r)
set_option maxRecDepth 100000 in
set_option maxHeartbeats 2000000 in
theorem val_any (b : Nat) (s : ByteArray) (hs : s.size ≤ 3000) (r : List UInt8) (w : World) (hc : CurR w b s r) :
    Calls Tryz.prog 118 #[.agg #[.pointer (some ⟨b, 0, none⟩), .string s]] w fun e w' => VlAns b s r e w' ∧ w.grownBy w' (some b) := by
  have hbl := hc.lt
  have hrl := hc.len
  have hrun := runL_le tokB r
  have HC1 : Hid (CurR (w.alloc (.cells #[.pointer (some ⟨b, 0, none⟩), .string s] 78)) b s r) := hc.below ((Below.refl _ _).alloc (Nat.le_refl _) _)
  have HG1 : Hid (w.grownBy (w.alloc (.cells #[.pointer (some ⟨b, 0, none⟩), .string s] 78)) (some b)) := grown_alloc _ _ _
  have hne : some w.heap.size ≠ some b := by intro e; injection e with e; omega
  clear hc
  go_enter Tryz.func118, Tryz.ntmps118
  go_wp2_with fail
  refine (rd_word b s hs r _ HC1.out).mono ?_
  rintro e w2 ⟨t, rfl, htz, HT, hc2, hg2⟩
  obtain ⟨hx0, hx1⟩ := box_reader hg2 hne
  have HC2 : Hid (CurR w2 b s (r.dropWhile tokB) ∧ w.grownBy w2 (some b)) := ⟨hc2, grown_trans HG1.out hg2⟩
  have ht3 : t.size ≤ 3000 := by omega
  clear hc2 hg2 HC1
  by_cases h0 : r.takeWhile tokB = []
  · have HN : Hid (valueL r = (quotedL r).map fun x => (bs x.1, r.drop x.2)) := by show _ = _; unfold valueL; rw [if_pos h0]
    have HD : Hid (r.dropWhile tokB = r) := run_zero r tokB (by unfold runL; rw [h0]; simp)
    have ht0 : t.size = 0 := by rw [htz]; unfold runL; rw [h0]; rfl
    obtain rfl : t = ⟨#[]⟩ := ByteArray.ext (Array.eq_empty_of_size_eq_zero ht0)
    rw [HD.out] at HC2
    clear h0 htz
    go_wp2_with fail
    refine (rd_quoted b s hs r _ HC2.out.1).mono ?_
    rintro e w3 ⟨⟨v, n, hq, rfl, hc3⟩ | ⟨hq, rfl, hc3⟩, hg3⟩
    · have HV : Hid (valueL r = some (bs v, r.drop n)) := by show _ = _; rw [HN.out, hq]; rfl
      have hvz : (bs v).size ≤ 3000 := by
        have := quoted_size _ _ _ hq
        rw [bs_size]
        omega
      have HC3 : Hid (CurR w3 b s (r.drop n) ∧ w.grownBy w3 (some b)) := ⟨hc3, grown_trans HC2.out.2 hg3⟩
      have HVZ : Hid ((bs v).size ≤ 3000) := hvz
      obtain ⟨x, HX⟩ : ∃ x, Hid (bs v = x) := ⟨_, rfl⟩
      rw [HX.out] at HV HVZ ⊢
      clear hq hc3 hg3 hvz HN
      go_wp2
      go_ret2
      exact ⟨.inl ⟨x, _, HV, HVZ, rfl, HC3.out.1⟩, HC3.out.2⟩
    · have HV : Hid (valueL r = none) := by show _ = _; rw [HN.out, hq]; rfl
      have HC3 : Hid (CurR w3 b s r ∧ w.grownBy w3 (some b)) := ⟨hc3, grown_trans HC2.out.2 hg3⟩
      clear hq hc3 hg3 HN
      go_wp2
      go_ret2
      exact ⟨.inr ⟨HV, rfl, HC3.out.1⟩, HC3.out.2⟩
  · have HN : Hid (valueL r = some (t, r.dropWhile tokB)) := by show _ = _; unfold valueL; rw [if_neg h0, HT.out]
    have hte : t.toList.isEmpty = false := by
      rw [HT.out, ByteArray.toList_eq, bs_data]
      cases h : r.takeWhile tokB with
      | nil => exact absurd h h0
      | cons x y => rfl
    clear h0 htz
    go_wp2
    go_ret2
    exact ⟨.inl ⟨t, _, HN, ht3, rfl, HC2.out.1⟩, HC2.out.2⟩
end Go.Proofs.YtlmfhbffknganaaGreatDoor

/- Rows of parameters that lie somewhere. -/
namespace Go.Proofs.YtlmfhbffknganaaGreatDoor
open Go.RowKit

/-- A row of parameters that lies somewhere. -/
structure Pars (w : World) (a0 : Option Addr) (len b off : Nat) (ps : List Par) : Prop where
  len_eq : ps.length = len
  lies : 0 < len → a0 = some ⟨b, off, none⟩ ∧ b < w.heap.size
  one : ∀ (j : Nat) (p : Par), ps[j]? = some p → w.cell? ⟨b, off + j * 2, none⟩ = some (.string p.1)
  two : ∀ (j : Nat) (p : Par), ps[j]? = some p → w.cell? ⟨b, off + j * 2 + 1, none⟩ = some (.string p.2)
theorem Pars.grown {w w' : World} {a0 : Option Addr} {len b off : Nat} {ps : List Par} {row : Option Nat} (h : Pars w a0 len b off ps) (hg : w.grownBy w' row) (hr : 0 < len → some b ≠ row) : Pars w' a0 len b off ps := by
  have hpos : ∀ (j : Nat) (p : Par), ps[j]? = some p → 0 < len := fun j p hp => by
    have := (List.getElem?_eq_some_iff.1 hp).1
    have := h.len_eq
    omega
  exact ⟨h.len_eq, fun h0 => ⟨(h.lies h0).1, Nat.lt_of_lt_of_le (h.lies h0).2 hg.size⟩, fun j p hp => hg.cell (h.one j p hp) (hr (hpos j p hp)), fun j p hp => hg.cell (h.two j p hp) (hr (hpos j p hp))⟩
theorem Pars.below {w w' : World} {a0 : Option Addr} {len b off : Nat} {ps : List Par} (h : Pars w a0 len b off ps) (hb : Below w.heap.size w w') : Pars w' a0 len b off ps :=
  h.grown (row := none) ⟨hb.os, hb.tape, hb.output, hb.size, fun i hi _ => hb.block i hi⟩ (fun _ => by simp)
theorem Pars.belowB {w w' : World} {a0 : Option Addr} {len b off : Nat} {ps : List Par} {B : Nat} (h : Pars w a0 len b off ps) (hb : Below B w w') (hB : 0 < len → b < B) : Pars w' a0 len b off ps := by
  have hpos : ∀ (j : Nat) (p : Par), ps[j]? = some p → b < B := fun j p hp => by
    have := (List.getElem?_eq_some_iff.1 hp).1
    have := h.len_eq
    exact hB (by omega)
  exact ⟨h.len_eq, fun h0 => ⟨(h.lies h0).1, Nat.lt_of_lt_of_le (h.lies h0).2 hb.size⟩, fun j p hp => (hb.cell (p := ⟨b, off + j * 2, none⟩) (hpos j p hp)).trans (h.one j p hp), fun j p hp => (hb.cell (p := ⟨b, off + j * 2 + 1, none⟩) (hpos j p hp)).trans (h.two j p hp)⟩
end Go.Proofs.YtlmfhbffknganaaGreatDoor

/- The first parameter of a kind, by the library's own function. -/
namespace Go.Proofs.YtlmfhbffknganaaGreatDoor
open Go.RowKit

theorem find_take {f : Par → Bool} {ps : List Par} {k : Nat} {p : Par} (h : (ps.take k).find? f = none) (hk : ps[k]? = some p) : (f p = false → (ps.take (k + 1)).find? f = none) ∧ (f p = true → ps.find? f = some p) := by
  obtain ⟨hk1, e⟩ := List.getElem?_eq_some_iff.1 hk
  refine ⟨fun hf => ?_, fun hf => ?_⟩
  · rw [List.take_succ_eq_append_getElem hk1, List.find?_append, h, e]
    simp [hf]
  · have e2 : ps = ps.take k ++ p :: ps.drop (k + 1) := by rw [← e, ← List.drop_eq_getElem_cons hk1, List.take_append_drop]
    rw [e2, List.find?_append, h]
    simp [hf]
set_option maxRecDepth 100000 in
set_option maxHeartbeats 2000000 in
theorem indexP_any (K : Nat) (c : Value) (f : Par → Bool) (ps : List Par) (a0 : Option Addr) (len cap b off : Nat) (hlen : len ≤ 1000000) (w : World) (hx : Pars w a0 len b off ps)
    (says : ∀ w', Below w.heap.size w w' → ∀ p ∈ ps, Calls Tryz.prog K #[.agg #[.string p.1, .string p.2], c] w' fun e w'' => e = .returned (.bool (f p)) ∧ Below w'.heap.size w' w'')
    (hen : ∀ (args : Array Value) (w : World), (callFunc K args).run Tryz.prog w = .ok (.enter K args) w) :
    Calls Tryz.prog 64 #[.slice a0 len cap, .func (.func K) #[] #[c]] w fun e w' => (∃ r : Int, e = .returned (.int .i64 r) ∧ Hid (r = -1 ∧ ps.find? f = none ∨ ∃ (k : Nat) (p : Par), r = k ∧ ps[k]? = some p ∧ ps.find? f = some p)) ∧ Below w.heap.size w w' := by
  have HX : Hid (Pars w a0 len b off ps) := hx
  have hl := hx.len_eq
  clear hx
  go_enter Tryz.func64, Tryz.ntmps64
  go_wp2
  go_loopw [8] (fun i wr => ∃ (k : Nat), k ≤ len ∧ i = .int .i64 k ∧ Hid ((ps.take k).find? f = none) ∧ Below w.heap.size w wr) (fun i _ => len - (intOf i).toNat)
  case atStart => exact ⟨0, Nat.zero_le _, rfl, rfl, Below.refl _ _⟩
  case round =>
    obtain ⟨k, hk, rfl, HK, hb⟩ := hrel
    by_cases hlt : k < len
    · obtain ⟨p, hpk⟩ : ∃ p, ps[k]? = some p := ⟨ps[k]'(by omega), List.getElem?_eq_getElem (by omega)⟩
      have HP : Hid (ps[k]? = some p) := hpk
      have hs := says wr hb p (List.mem_of_getElem? hpk)
      obtain ⟨ha0, hbl⟩ := HX.out.lies (by omega)
      subst ha0
      have hc1 : wr.cell? ⟨b, off + k * 2, none⟩ = some (.string p.1) := (hb.cell (p := ⟨b, off + k * 2, none⟩) hbl).trans (HX.out.one k p hpk)
      have hc2 : wr.cell? ⟨b, off + k * 2 + 1, none⟩ = some (.string p.2) := (hb.cell (p := ⟨b, off + k * 2 + 1, none⟩) hbl).trans (HX.out.two k p hpk)
      clear hpk
      obtain ⟨hF, hT⟩ := find_take HK.out HP.out
      have hbs : w.heap.size ≤ wr.heap.size := hb.size
      cases hf : f p
      · have HS : Hid ((ps.take (k + 1)).find? f = none) := hF hf
        clear hF hT
        go_wp2_with fail
        refine hs.mono ?_
        rintro e w2 ⟨rfl, hb2⟩
        rw [hf]
        go_wp2
        go_roundw
        case rel => exact ⟨k + 1, by omega, by go_num, HS, hb.trans (hb2.mono hbs)⟩
        case measure => simp [intOf]; omega
      · have HS : Hid (ps.find? f = some p) := hT hf
        clear hF hT
        go_wp2_with fail
        refine hs.mono ?_
        rintro e w2 ⟨rfl, hb2⟩
        rw [hf]
        go_wp2
        go_ret
        exact ⟨⟨_, rfl, .inr ⟨k, p, rfl, HP, HS⟩⟩, hb.trans (hb2.mono hbs)⟩
    · have HS : Hid (ps.find? f = none) := by
        have := HK.out
        rw [List.take_of_length_le (by omega)] at this
        exact this
      go_wp2
      go_ret
      exact ⟨⟨_, rfl, .inl ⟨rfl, HS⟩⟩, hb⟩
set_option maxHeartbeats 1000000 in
theorem findOne_any (p : Par) (n : ByteArray) (hp : p.1.size ≤ 4000) (hn : n.size ≤ 4000) (c : Nat) (w : World) (hc : w.cell? ⟨c, 0, none⟩ = some (.string n)) :
    Calls Tryz.prog 106 #[.agg #[.string p.1, .string p.2], .pointer (some ⟨c, 0, none⟩)] w fun e w' => e = .returned (.bool (sameL p.1.data.toList n.data.toList)) ∧ Below w.heap.size w w' := by
  have hcl : c < w.heap.size := by
    rcases Nat.lt_or_ge c w.heap.size with h1 | h1
    · exact h1
    · simp [World.cell?, Array.getElem?_eq_none h1] at hc
  go_enter Tryz.func106, Tryz.ntmps106
  go_wp2_with fail
  refine (same_any _ _ hp hn _).mono ?_
  rintro e w2 ⟨rfl, hb2⟩
  go_wp2
  go_ret
  exact ⟨rfl, ((Below.refl _ _).alloc (Nat.le_refl _) _).trans (hb2.mono (by simp))⟩
set_option maxHeartbeats 1000000 in
theorem find_any (ps : List Par) (n : ByteArray) (hps : ∀ p ∈ ps, p.1.size ≤ 4000) (hn : n.size ≤ 4000) (a0 : Option Addr) (len cap b off : Nat) (hlen : len ≤ 1000000) (w : World) (hx : Pars w a0 len b off ps) :
    Calls Tryz.prog 83 #[.slice a0 len cap, .string n] w fun e w' => (∃ r : Int, e = .returned (.int .i64 r) ∧ Hid (r = -1 ∧ ps.find? (fun p => sameL p.1.data.toList n.data.toList) = none ∨ ∃ (k : Nat) (p : Par), r = k ∧ ps[k]? = some p ∧ ps.find? (fun p => sameL p.1.data.toList n.data.toList) = some p)) ∧ Below w.heap.size w w' := by
  have hb1 : Below w.heap.size w (w.alloc (.cells #[.string n] 9)) := (Below.refl _ _).alloc (Nat.le_refl _) _
  have HX : Hid (Pars (w.alloc (.cells #[.string n] 9)) a0 len b off ps) := hx.below hb1
  have hcell : (w.alloc (.cells #[.string n] 9)).cell? ⟨w.heap.size, 0, none⟩ = some (.string n) := World.cell?_alloc_mark _ _ _ _ _
  have HS : Hid (∀ w', Below (w.alloc (.cells #[.string n] 9)).heap.size (w.alloc (.cells #[.string n] 9)) w' → ∀ p ∈ ps, Calls Tryz.prog 106 #[.agg #[.string p.1, .string p.2], .pointer (some ⟨w.heap.size, 0, none⟩)] w' fun e w'' => e = .returned (.bool (sameL p.1.data.toList n.data.toList)) ∧ Below w'.heap.size w' w'') := by
    intro w' hb p hp
    refine findOne_any p n (hps p hp) hn _ w' ?_
    rw [hb.cell (p := ⟨w.heap.size, 0, none⟩) (by simp)]
    exact hcell
  clear hx hcell
  go_enter Tryz.func83, Tryz.ntmps83
  go_wp2_with fail
  refine (indexP_any _ _ _ ps a0 len cap b off hlen _ HX.out HS.out (enters_at Tryz.func106 (by kernel_rfl) rfl)).mono ?_
  rintro e w2 ⟨⟨r, rfl, HR⟩, hb2⟩
  go_wp2
  go_ret
  exact ⟨⟨r, rfl, HR⟩, hb1.trans (hb2.mono (by simp))⟩
end Go.Proofs.YtlmfhbffknganaaGreatDoor

/- The reader's parameter, by the program. -/
namespace Go.Proofs.YtlmfhbffknganaaGreatDoor
open Go.RowKit

/-- An error at a place, among the blocks from B on. -/
def IsAt (w : World) (v : Value) (B : Nat) (n p : Int) : Prop :=
  ∃ g : Nat, v = .iface 73 (.pointer (some ⟨g, 0, none⟩)) ∧ w.cell? ⟨g, 0, none⟩ = some (.int .i64 n) ∧ w.cell? ⟨g, 1, none⟩ = some (.int .i64 p) ∧ B ≤ g ∧ g < w.heap.size
theorem IsAt.grown {w w' : World} {v : Value} {B : Nat} {n p : Int} {row : Option Nat} (h : IsAt w v B n p) (hg : w.grownBy w' row) (hr : ∀ k, row = some k → k < B) : IsAt w' v B n p := by
  obtain ⟨g, h1, h2, h3, h4, h5⟩ := h
  have hne : some g ≠ row := fun e => by have := hr g e.symm; omega
  exact ⟨g, h1, hg.cell h2 hne, hg.cell h3 hne, h4, Nat.lt_of_lt_of_le h5 hg.size⟩
theorem IsAt.below {w w' : World} {v : Value} {B : Nat} {n p : Int} (h : IsAt w v B n p) (hb : Below w.heap.size w w') : IsAt w' v B n p :=
  h.grown (row := none) ⟨hb.os, hb.tape, hb.output, hb.size, fun i hi _ => hb.block i hi⟩ (fun k e => by cases e)
theorem IsAt.mono {w : World} {v : Value} {B C : Nat} {n p : Int} (h : IsAt w v B n p) (hC : C ≤ B) : IsAt w v C n p := by
  obtain ⟨g, h1, h2, h3, h4, h5⟩ := h
  exact ⟨g, h1, h2, h3, Nat.le_trans hC h4, h5⟩
theorem wrong_any (n p : Int) (w : World) : Calls Tryz.prog 68 #[.int .i64 n, .int .i64 p] w fun e w' => (∃ g : Nat, e = .returned (.iface 73 (.pointer (some ⟨g, 0, none⟩))) ∧ w'.cell? ⟨g, 0, none⟩ = some (.int .i64 n) ∧ w'.cell? ⟨g, 1, none⟩ = some (.int .i64 p) ∧ w.heap.size ≤ g ∧ g < w'.heap.size) ∧ Below w.heap.size w w' := by
  go_enter Tryz.func68, Tryz.ntmps68
  go_wp2
  go_ret
  exact ⟨⟨w.heap.size, rfl, World.cell?_alloc_mark _ _ _ _ _, World.cell?_alloc_mark _ _ _ _ _, Nat.le_refl _, by simp⟩, (Below.refl _ _).alloc (Nat.le_refl _) _⟩
theorem told_find (acc : List Par) (n : ByteArray) : toldL acc n = (acc.find? fun p => sameL p.1.data.toList n.data.toList).isSome := by
  unfold toldL
  rw [Bool.eq_iff_iff, List.any_eq_true, List.find?_isSome]
/-- What the reader's param answers. -/
def ParAns (b : Nat) (s : ByteArray) (acc : List Par) (r : List UInt8) (B : Nat) (e : Ending) (w' : World) : Prop :=
  (∃ (p : Par) (u : List UInt8), paramL acc r = .ok (p, u) ∧ p.1.size ≤ 3000 ∧ p.2.size ≤ 3000 ∧ e = .returned (.tuple #[.agg #[.string p.1, .string p.2], .nilIface]) ∧ CurR w' b s u) ∨
  (∃ (n left : Nat) (v : Value), paramL acc r = .error (n, left) ∧ e = .returned (.tuple #[.agg #[.string ⟨#[]⟩, .string ⟨#[]⟩], v]) ∧ IsAt w' v B n ((s.size - left : Nat) : Int))
theorem box_two {w w' : World} {b : Nat} {s : ByteArray} {x y : Value} {T : TypeId} {row : Option Nat} (hg : ((w.alloc (.cells #[.pointer (some ⟨b, 0, none⟩), .string s] 78)).alloc (.cells #[x, y] T)).grownBy w' row) (hr : ∀ k, row = some k → k < w.heap.size) :
    (w'.cell? ⟨w.heap.size, 0, none⟩ = some (.pointer (some ⟨b, 0, none⟩)) ∧ w'.cell? ⟨w.heap.size, 1, none⟩ = some (.string s)) ∧ (w'.cell? ⟨w.heap.size + 1, 0, none⟩ = some x ∧ w'.cell? ⟨w.heap.size + 1, 1, none⟩ = some y) ∧ (w'.frozen? ⟨w.heap.size + 1, 0, none⟩ = false ∧ w'.frozen? ⟨w.heap.size + 1, 1, none⟩ = false) ∧ w.heap.size + 1 < w'.heap.size := by
  have h1 : some w.heap.size ≠ row := fun e => by have := hr _ e.symm; omega
  have h2 : some (w.heap.size + 1) ≠ row := fun e => by have := hr _ e.symm; omega
  have hz : (w.alloc (.cells #[.pointer (some ⟨b, 0, none⟩), .string s] 78)).heap.size = w.heap.size + 1 := by simp
  have ha : ∀ j, ((w.alloc (.cells #[.pointer (some ⟨b, 0, none⟩), .string s] 78)).alloc (.cells #[x, y] T)).cell? ⟨w.heap.size, j, none⟩ = #[.pointer (some ⟨b, 0, none⟩), .string s][j]? := fun j => by
    rw [World.cell?_alloc_lt _ _ ⟨w.heap.size, j, none⟩ (by simp)]
    exact World.cell?_alloc_mark _ _ _ _ _
  have hb : ∀ j, ((w.alloc (.cells #[.pointer (some ⟨b, 0, none⟩), .string s] 78)).alloc (.cells #[x, y] T)).cell? ⟨w.heap.size + 1, j, none⟩ = #[x, y][j]? := fun j => by
    rw [← hz]
    exact World.cell?_alloc_mark _ _ _ _ _
  have hf : ∀ j, w'.frozen? ⟨w.heap.size + 1, j, none⟩ = false := fun j => by
    have e1 : w'.heap[w.heap.size + 1]? = some (.cells #[x, y] T (0, 0)) := by
      rw [hg.block (w.heap.size + 1) (by simp) h2, ← hz]
      exact heap_alloc_new _ _
    simp [World.frozen?, e1]
  refine ⟨⟨hg.cell (ha 0) h1, hg.cell (ha 1) h1⟩, ⟨hg.cell (hb 0) h2, hg.cell (hb 1) h2⟩, ⟨hf 0, hf 1⟩, ?_⟩
  exact Nat.lt_of_lt_of_le (by simp) hg.size
theorem res_end {w : World} {b : Nat} {u v : Value} (h0 : w.cell? ⟨b, 0, none⟩ = some u) (h1 : w.cell? ⟨b, 1, none⟩ = some v) (x y : Value) :
    ((w.setCell ⟨b, 0, none⟩ x).setCell ⟨b, 1, none⟩ y).cell? ⟨b, 0, none⟩ = some x ∧ ((w.setCell ⟨b, 0, none⟩ x).setCell ⟨b, 1, none⟩ y).cell? ⟨b, 1, none⟩ = some y := by
  have e1 : (w.setCell ⟨b, 0, none⟩ x).cell? ⟨b, 1, none⟩ = some v := by
    rw [World.cell?_setCell_other _ _ _ _ (by intro e; injection e with _ e2; omega)]
    exact h1
  refine ⟨?_, World.cell?_setCell_same _ _ _ e1⟩
  rw [World.cell?_setCell_other _ _ _ _ (by intro e; injection e with _ e2; omega)]
  exact World.cell?_setCell_same _ _ _ h0
theorem grown_setNew {w w' : World} {row : Option Nat} (h : w.grownBy w' row) {blk : Nat} (hb : w.heap.size ≤ blk) (j : Nat) (v : Value) : w.grownBy (w'.setCell ⟨blk, j, none⟩ v) row :=
  ⟨h.os, h.tape, h.output, by simp [World.setCell]; exact h.size, fun i hi hr => (Below.heap_setCell _ _ _ _ (by show i ≠ blk; omega)).trans (h.block i hi hr)⟩
theorem fin_err {w w6 : World} {b rb C : Nat} {n p : Int} {v : Value} (hB : w.heap.size ≤ rb) (hrb : rb < C) (hat : IsAt w6 v C n p) (hg : w.grownBy w6 (some b)) (x y : Value) :
    IsAt ((w6.setCell ⟨rb, 0, none⟩ x).setCell ⟨rb, 1, none⟩ y) v w.heap.size n p ∧ w.grownBy ((w6.setCell ⟨rb, 0, none⟩ x).setCell ⟨rb, 1, none⟩ y) (some b) :=
  ⟨(((hat.grown (grown_set _ rb 0 x) (fun k e => by injection e with e; omega)).grown (grown_set _ rb 1 y) (fun k e => by injection e with e; omega))).mono (by omega), grown_setNew (grown_setNew hg hB 0 x) hB 1 y⟩
theorem fin_ok {w w6 : World} {b rb : Nat} {s : ByteArray} {u : List UInt8} (hB : w.heap.size ≤ rb) (hrb : rb ≠ b) (hc : CurR w6 b s u) (hg : w.grownBy w6 (some b)) (x y : Value) :
    CurR ((w6.setCell ⟨rb, 0, none⟩ x).setCell ⟨rb, 1, none⟩ y) b s u ∧ w.grownBy ((w6.setCell ⟨rb, 0, none⟩ x).setCell ⟨rb, 1, none⟩ y) (some b) :=
  ⟨(hc.grown (grown_set _ rb 0 x) (by intro e; injection e with e; omega)).grown (grown_set _ rb 1 y) (by intro e; injection e with e; omega), grown_setNew (grown_setNew hg hB 0 x) hB 1 y⟩
set_option maxRecDepth 100000 in
set_option maxHeartbeats 4000000 in
theorem param_any (b : Nat) (s : ByteArray) (hs : s.size ≤ 3000) (r : List UInt8) (acc : List Par) (hacc : ∀ p ∈ acc, p.1.size ≤ 3000) (a0 : Option Addr) (len cap pb off : Nat) (hlen : len ≤ 1000) (w : World) (hc : CurR w b s r) (hp : Pars w a0 len pb off acc) (hpb : 0 < len → pb ≠ b) :
    Calls Tryz.prog 99 #[.agg #[.pointer (some ⟨b, 0, none⟩), .string s], .slice a0 len cap] w fun e w' => ParAns b s acc r w.heap.size e w' ∧ w.grownBy w' (some b) := by
  have hbl := hc.lt
  have hrl := hc.len
  have hal := hp.len_eq
  have HACC : Hid (∀ p ∈ acc, p.1.size ≤ 3000) := hacc
  have HPB : Hid (0 < len → pb ≠ b) := hpb
  have hB1 : Below w.heap.size w ((w.alloc (.cells #[.pointer (some ⟨b, 0, none⟩), .string s] 78)).alloc (.cells #[.string ⟨#[]⟩, .string ⟨#[]⟩] 44)) := ((Below.refl _ _).alloc (Nat.le_refl _) _).alloc (by simp) _
  generalize hW0 : ((w.alloc (.cells #[.pointer (some ⟨b, 0, none⟩), .string s] 78)).alloc (.cells #[.string ⟨#[]⟩, .string ⟨#[]⟩] 44)) = W0 at hB1
  have HBT : Hid (∀ w', W0.grownBy w' (some b) → (w'.cell? ⟨w.heap.size, 0, none⟩ = some (.pointer (some ⟨b, 0, none⟩)) ∧ w'.cell? ⟨w.heap.size, 1, none⟩ = some (.string s)) ∧ (w'.cell? ⟨w.heap.size + 1, 0, none⟩ = some (.string ⟨#[]⟩) ∧ w'.cell? ⟨w.heap.size + 1, 1, none⟩ = some (.string ⟨#[]⟩)) ∧ (w'.frozen? ⟨w.heap.size + 1, 0, none⟩ = false ∧ w'.frozen? ⟨w.heap.size + 1, 1, none⟩ = false) ∧ w.heap.size + 1 < w'.heap.size) := by
    intro w' hg
    rw [← hW0] at hg
    exact box_two hg (fun k e => by injection e with e; omega)
  have HC1 : Hid (CurR W0 b s r ∧ w.grownBy W0 (some b) ∧ Pars W0 a0 len pb off acc ∧ w.heap.size + 1 < W0.heap.size) := ⟨hc.below hB1, grown_below hB1 _, hp.below hB1, (HBT.out W0 (grown_drewN _ 0 _)).2.2.2⟩
  obtain ⟨k, HK⟩ : ∃ k, Hid (s.size - r.length = k) := ⟨_, rfl⟩
  have hat := rd_at b s r _ HC1.out.1
  rw [HK.out] at hat
  obtain ⟨⟨hx0, hx1⟩, _, _, _⟩ := HBT.out W0 (grown_drewN _ 0 _)
  clear hc hp hB1 hacc hpb
  go_enter Tryz.func99, Tryz.ntmps99
  go_upto_region 1 with fail
  clear hW0
  go_wp2_with (go_at_call 26; refine hat.mono ?_; rintro e w1 ⟨rfl, hw1⟩; obtain rfl := hw1.symm; clear hw1 hat)
  refine (name_any b s hs r _ HC1.out.1).mono ?_
  rintro e w2 ⟨hn, hg2⟩
  obtain ⟨⟨hx0, hx1⟩, ⟨hr0, hr1⟩, ⟨hf0, hf1⟩, hlt2⟩ := HBT.out w2 hg2
  rcases hn with ⟨n, t, hN, hn3, rfl, hc2⟩ | ⟨hN, ⟨n, rfl⟩, hc2⟩
  · have HN : Hid (nameL r = some (n, t)) := hN
    have HC2 : Hid (CurR w2 b s t ∧ W0.grownBy w2 (some b)) := ⟨hc2, hg2⟩
    clear hN hc2 hg2
    go_wp2_with fail
    refine (rd_blanks b s hs t _ HC2.out.1).mono ?_
    rintro e w3 ⟨rfl, hc3, hg3⟩
    have HC3 : Hid (CurR w3 b s (t.dropWhile blankB) ∧ W0.grownBy w3 (some b)) := ⟨hc3, grown_trans HC2.out.2 hg3⟩
    clear hx0 hx1 hr0 hr1 hf0 hf1 hlt2 hc3 hg3 HC2
    obtain ⟨⟨hx0, hx1⟩, ⟨hr0, hr1⟩, ⟨hf0, hf1⟩, hlt2⟩ := HBT.out w3 HC3.out.2
    go_wp2_with fail
    refine (val_any b s hs _ _ HC3.out.1).mono ?_
    rintro e w4 ⟨hv, hg4⟩
    have HG4 : Hid (W0.grownBy w4 (some b)) := grown_trans HC3.out.2 hg4
    clear hx0 hx1 hr0 hr1 hf0 hf1 hlt2 hg4
    obtain ⟨⟨hx0, hx1⟩, ⟨hr0, hr1⟩, ⟨hf0, hf1⟩, hlt2⟩ := HBT.out w4 HG4.out
    rcases hv with ⟨v, u, hV, hv3, rfl, hc4⟩ | ⟨hV, rfl, hc4⟩
    · have HV : Hid (valueL (t.dropWhile blankB) = some (v, u)) := hV
      have HC4 : Hid (CurR w4 b s u ∧ Pars w4 a0 len pb off acc) := ⟨hc4, HC1.out.2.2.1.grown HG4.out (fun h e => HPB.out h (by injection e))⟩
      clear hV hc4
      go_wp2_with fail
      refine (find_any acc n (fun p hp => Nat.le_trans (HACC.out p hp) (by omega)) (by omega) a0 len cap pb off (by omega) _ HC4.out.2).mono ?_
      rintro e w5 ⟨⟨q, rfl, HQ⟩, hb5⟩
      have HC5 : Hid (CurR w5 b s u ∧ W0.grownBy w5 (some b)) := ⟨HC4.out.1.below hb5, grown_trans HG4.out (grown_below hb5 _)⟩
      clear hx0 hx1 hr0 hr1 hf0 hf1 hlt2 hb5
      obtain ⟨⟨hx0, hx1⟩, ⟨hr0, hr1⟩, ⟨hf0, hf1⟩, hlt2⟩ := HBT.out w5 HC5.out.2
      by_cases htold : toldL acc n = true
      · have HA : Hid (paramL acc r = .error (9, r.length)) := by
          show _ = _
          unfold paramL
          rw [HN.out]
          simp only [HV.out]
          rw [if_pos htold]
        have hq0 : 0 ≤ q := by
          rcases HQ.out with ⟨_, h⟩ | ⟨j, p, h, _, _⟩
          · rw [told_find, h] at htold
            cases htold
          · omega
        go_wp2_with fail
        refine (wrong_any 9 k _).mono ?_
        rintro e w6 ⟨⟨g, rfl, hg0, hg1, hgB, hgl⟩, hbw⟩
        have HAT : Hid (IsAt w6 (.iface 73 (.pointer (some ⟨g, 0, none⟩))) w5.heap.size 9 k) := ⟨g, rfl, hg0, hg1, hgB, hgl⟩
        have HGW : Hid (w.grownBy w6 (some b)) := grown_trans HC1.out.2.1 (grown_trans HC5.out.2 (grown_below hbw _))
        have k0 := (hbw.cell (p := ⟨w.heap.size + 1, 0, none⟩) hlt2).trans hr0
        have k1 := (hbw.cell (p := ⟨w.heap.size + 1, 1, none⟩) hlt2).trans hr1
        have k2 := (hbw.frozen (p := ⟨w.heap.size + 1, 0, none⟩) hlt2).trans hf0
        have k3 := (hbw.frozen (p := ⟨w.heap.size + 1, 1, none⟩) hlt2).trans hf1
        have HLT2 : Hid (w.heap.size + 1 < w5.heap.size) := hlt2
        clear hx0 hx1 hr0 hr1 hf0 hf1 hlt2 hg0 hg1 hbw
        go_wp2
        obtain ⟨e0, e1⟩ := res_end k0 k1 (.string ⟨#[]⟩) (.string ⟨#[]⟩)
        obtain ⟨z1, z2⟩ := fin_err (b := b) (rb := w.heap.size + 1) (Nat.le_succ _) HLT2.out HAT.out HGW.out (.string ⟨#[]⟩) (.string ⟨#[]⟩)
        exact bodyPost_ret (v := .tuple #[.agg #[.string ⟨#[]⟩, .string ⟨#[]⟩], .iface 73 (.pointer (some ⟨g, 0, none⟩))]) (by simp [results, Tryz.f99, go_sem, e0, e1]) rfl ⟨.inr ⟨_, _, _, HA.out, rfl, by rw [HK.out]; exact z1⟩, z2⟩
      · have hq0 : q = -1 := by
          rcases HQ.out with ⟨h, _⟩ | ⟨j, p, h, h2, h3⟩
          · exact h
          · exfalso
            apply htold
            rw [told_find, h3]
            rfl
        subst hq0
        by_cases h16 : (16 : Int) ≤ (len : Int)
        · have HA : Hid (paramL acc r = .error (4, r.length)) := by
            show _ = _
            unfold paramL
            rw [HN.out]
            simp only [HV.out]
            rw [if_neg htold, if_pos (by omega)]
          go_wp2_with fail
          refine (wrong_any 4 k _).mono ?_
          rintro e w6 ⟨⟨g, rfl, hg0, hg1, hgB, hgl⟩, hbw⟩
          have HAT : Hid (IsAt w6 (.iface 73 (.pointer (some ⟨g, 0, none⟩))) w5.heap.size 4 k) := ⟨g, rfl, hg0, hg1, hgB, hgl⟩
          have HGW : Hid (w.grownBy w6 (some b)) := grown_trans HC1.out.2.1 (grown_trans HC5.out.2 (grown_below hbw _))
          have k0 := (hbw.cell (p := ⟨w.heap.size + 1, 0, none⟩) hlt2).trans hr0
          have k1 := (hbw.cell (p := ⟨w.heap.size + 1, 1, none⟩) hlt2).trans hr1
          have k2 := (hbw.frozen (p := ⟨w.heap.size + 1, 0, none⟩) hlt2).trans hf0
          have k3 := (hbw.frozen (p := ⟨w.heap.size + 1, 1, none⟩) hlt2).trans hf1
          have HLT2 : Hid (w.heap.size + 1 < w5.heap.size) := hlt2
          clear hx0 hx1 hr0 hr1 hf0 hf1 hlt2 hg0 hg1 hbw
          go_wp2
          obtain ⟨e0, e1⟩ := res_end k0 k1 (.string ⟨#[]⟩) (.string ⟨#[]⟩)
          obtain ⟨z1, z2⟩ := fin_err (b := b) (rb := w.heap.size + 1) (Nat.le_succ _) HLT2.out HAT.out HGW.out (.string ⟨#[]⟩) (.string ⟨#[]⟩)
          exact bodyPost_ret (v := .tuple #[.agg #[.string ⟨#[]⟩, .string ⟨#[]⟩], .iface 73 (.pointer (some ⟨g, 0, none⟩))]) (by simp [results, Tryz.f99, go_sem, e0, e1]) rfl ⟨.inr ⟨_, _, _, HA.out, rfl, by rw [HK.out]; exact z1⟩, z2⟩
        · have HA : Hid (paramL acc r = .ok ((n, v), u)) := by
            show _ = _
            unfold paramL
            rw [HN.out]
            simp only [HV.out]
            rw [if_neg htold, if_neg (by omega)]
          go_wp2
          obtain ⟨e0, e1⟩ := res_end hr0 hr1 (.string n) (.string v)
          obtain ⟨z1, z2⟩ := fin_ok (rb := w.heap.size + 1) (Nat.le_succ _) (by omega) HC5.out.1 (grown_trans HC1.out.2.1 HC5.out.2) (.string n) (.string v)
          exact bodyPost_ret (v := .tuple #[.agg #[.string n, .string v], .nilIface]) (by simp [results, Tryz.f99, go_sem, e0, e1]) rfl ⟨.inl ⟨(n, v), u, HA.out, hn3, hv3, rfl, z1⟩, z2⟩
    · have HA : Hid (paramL acc r = .error (3, (t.dropWhile blankB).length)) := by
        show _ = _
        unfold paramL
        rw [HN.out]
        simp only [hV]
      have hat2 := rd_at b s _ _ hc4
      obtain ⟨k2', HK2⟩ : ∃ k2, Hid (s.size - (t.dropWhile blankB).length = k2) := ⟨_, rfl⟩
      rw [HK2.out] at hat2
      clear hV hc4
      go_wp2_with (go_at_call 26; refine hat2.mono ?_; rintro e w1 ⟨rfl, hw1⟩; obtain rfl := hw1.symm; clear hw1 hat2)
      refine (wrong_any 3 k2' _).mono ?_
      rintro e w6 ⟨⟨g, rfl, hg0, hg1, hgB, hgl⟩, hbw⟩
      have HAT : Hid (IsAt w6 (.iface 73 (.pointer (some ⟨g, 0, none⟩))) w4.heap.size 3 k2') := ⟨g, rfl, hg0, hg1, hgB, hgl⟩
      have HGW : Hid (w.grownBy w6 (some b)) := grown_trans HC1.out.2.1 (grown_trans HG4.out (grown_below hbw _))
      have k0 := (hbw.cell (p := ⟨w.heap.size + 1, 0, none⟩) hlt2).trans hr0
      have k1 := (hbw.cell (p := ⟨w.heap.size + 1, 1, none⟩) hlt2).trans hr1
      have k2 := (hbw.frozen (p := ⟨w.heap.size + 1, 0, none⟩) hlt2).trans hf0
      have k3 := (hbw.frozen (p := ⟨w.heap.size + 1, 1, none⟩) hlt2).trans hf1
      have HLT2 : Hid (w.heap.size + 1 < w4.heap.size) := hlt2
      clear hx0 hx1 hr0 hr1 hf0 hf1 hlt2 hg0 hg1 hbw
      go_wp2
      obtain ⟨e0, e1⟩ := res_end k0 k1 (.string ⟨#[]⟩) (.string ⟨#[]⟩)
      obtain ⟨z1, z2⟩ := fin_err (b := b) (rb := w.heap.size + 1) (Nat.le_succ _) HLT2.out HAT.out HGW.out (.string ⟨#[]⟩) (.string ⟨#[]⟩)
      exact bodyPost_ret (v := .tuple #[.agg #[.string ⟨#[]⟩, .string ⟨#[]⟩], .iface 73 (.pointer (some ⟨g, 0, none⟩))]) (by simp [results, Tryz.f99, go_sem, e0, e1]) rfl ⟨.inr ⟨_, _, _, HA.out, rfl, by rw [HK2.out]; exact z1⟩, z2⟩
  · have HA : Hid (paramL acc r = .error (3, (nameE r).length)) := by
      show _ = _
      unfold paramL
      rw [hN]
    have HG2 : Hid (W0.grownBy w2 (some b)) := hg2
    have hat2 := rd_at b s _ _ hc2
    obtain ⟨k2', HK2⟩ : ∃ k2, Hid (s.size - (nameE r).length = k2) := ⟨_, rfl⟩
    rw [HK2.out] at hat2
    clear hN hc2 hg2
    go_wp2_with (go_at_call 26; refine hat2.mono ?_; rintro e w1 ⟨rfl, hw1⟩; obtain rfl := hw1.symm; clear hw1 hat2)
    refine (wrong_any 3 k2' _).mono ?_
    rintro e w6 ⟨⟨g, rfl, hg0, hg1, hgB, hgl⟩, hbw⟩
    have HAT : Hid (IsAt w6 (.iface 73 (.pointer (some ⟨g, 0, none⟩))) w2.heap.size 3 k2') := ⟨g, rfl, hg0, hg1, hgB, hgl⟩
    have HGW : Hid (w.grownBy w6 (some b)) := grown_trans HC1.out.2.1 (grown_trans HG2.out (grown_below hbw _))
    have k0 := (hbw.cell (p := ⟨w.heap.size + 1, 0, none⟩) hlt2).trans hr0
    have k1 := (hbw.cell (p := ⟨w.heap.size + 1, 1, none⟩) hlt2).trans hr1
    have k2 := (hbw.frozen (p := ⟨w.heap.size + 1, 0, none⟩) hlt2).trans hf0
    have k3 := (hbw.frozen (p := ⟨w.heap.size + 1, 1, none⟩) hlt2).trans hf1
    have HLT2 : Hid (w.heap.size + 1 < w2.heap.size) := hlt2
    clear hx0 hx1 hr0 hr1 hf0 hf1 hlt2 hg0 hg1 hbw
    go_wp2
    obtain ⟨e0, e1⟩ := res_end k0 k1 (.string ⟨#[]⟩) (.string ⟨#[]⟩)
    obtain ⟨z1, z2⟩ := fin_err (b := b) (rb := w.heap.size + 1) (Nat.le_succ _) HLT2.out HAT.out HGW.out (.string ⟨#[]⟩) (.string ⟨#[]⟩)
    exact bodyPost_ret (v := .tuple #[.agg #[.string ⟨#[]⟩, .string ⟨#[]⟩], .iface 73 (.pointer (some ⟨g, 0, none⟩))]) (by simp [results, Tryz.f99, go_sem, e0, e1]) rfl ⟨.inr ⟨_, _, _, HA.out, rfl, by rw [HK2.out]; exact z1⟩, z2⟩
end Go.Proofs.YtlmfhbffknganaaGreatDoor

/- One parameter more at a row of parameters that a call owns. -/
namespace Go.Proofs.YtlmfhbffknganaaGreatDoor
open Go.RowKit

theorem infoP : (Tryz.prog.info? 44).map (fun i => (i.zero, i.size, i.bytes)) = some (some (.agg #[.string ⟨#[]⟩, .string ⟨#[]⟩]), 2, 32) := by kernel_rfl
def parCells : List Par → List Value
  | [] => []
  | p :: r => .string p.1 :: .string p.2 :: parCells r
theorem parCells_app (a b : List Par) : parCells (a ++ b) = parCells a ++ parCells b := by
  induction a with
  | nil => rfl
  | cons p r ih => simp [parCells, ih]
theorem parCells_at : ∀ (ps : List Par) (j : Nat) (p : Par), ps[j]? = some p → (parCells ps)[j * 2]? = some (.string p.1) ∧ (parCells ps)[j * 2 + 1]? = some (.string p.2)
  | [], j, p, h => by simp at h
  | q :: r, 0, p, h => by
    simp at h
    subst h
    exact ⟨rfl, rfl⟩
  | q :: r, j + 1, p, h => by
    have h' : r[j]? = some p := by simpa using h
    have := parCells_at r j p h'
    rw [show (j + 1) * 2 = j * 2 + 1 + 1 by omega]
    simpa [parCells] using this
/-- A value of type []api.Param that owns these, among the blocks from B on. -/
def OwnP (w : World) (B : Nat) (v : Value) (ps : List Par) : Prop := w.ownsRow B 44 2 v ps.length (parCells ps)
theorem OwnP.lt {w : World} {B : Nat} {v : Value} {ps : List Par} (h : OwnP w B v ps) : ∀ k, v.ownBlock = some k → B ≤ k ∧ k < w.heap.size := World.ownsRow.lt h
theorem OwnP.grown {w w' : World} {B b : Nat} {v : Value} {ps : List Par} (h : OwnP w B v ps) (hg : w.grownBy w' (some b)) (hb : b < B) : OwnP w' B v ps := by
  refine World.ownsRow.kept h hg (.inr ?_)
  intro e
  have := (h.lt b e).1
  omega
theorem OwnP.below {w w' : World} {B : Nat} {v : Value} {ps : List Par} (h : OwnP w B v ps) (hb : Below w.heap.size w w') : OwnP w' B v ps := by
  refine World.ownsRow.kept (row := none) h ⟨hb.os, hb.tape, hb.output, hb.size, fun i hi _ => hb.block i hi⟩ ?_
  rcases v.ownBlock with _ | k
  · exact .inl rfl
  · exact .inr (by simp)
theorem ownP_nil (w : World) (B : Nat) : OwnP w B (.slice none 0 0) [] := ⟨rfl, .inl ⟨rfl, rfl⟩⟩
theorem OwnP.pars {w : World} {B : Nat} {v : Value} {ps : List Par} (h : OwnP w B v ps) : ∃ (a : Option Addr) (cap g : Nat), v = .slice a ps.length cap ∧ Pars w a ps.length g 0 ps ∧ (0 < ps.length → B ≤ g) := by
  rcases h.2 with ⟨rfl, h0⟩ | ⟨g, cap, cur, rfl, hBg, hh, _, _, _, ht⟩
  · refine ⟨none, 0, 0, by rw [h0], ⟨rfl, fun h1 => absurd h0 (by omega), fun j x hx => ?_, fun j x hx => ?_⟩, fun h1 => by omega⟩
    · have := (List.getElem?_eq_some_iff.1 hx).1; omega
    · have := (List.getElem?_eq_some_iff.1 hx).1; omega
  · refine ⟨_, cap, g, rfl, ⟨rfl, fun _ => ⟨rfl, (Array.getElem?_eq_some_iff.1 hh).1⟩, fun j x hx => ?_, fun j x hx => ?_⟩, fun _ => hBg⟩
    · have hj := World.ownsRow.cells h (g := g) rfl (j * 2) (.string x.1) (parCells_at ps j x hx).1
      rw [WideShapes.add_plain] at hj
      exact hj
    · have hj := World.ownsRow.cells h (g := g) rfl (j * 2 + 1) (.string x.2) (parCells_at ps j x hx).2
      rw [WideShapes.add_plain] at hj
      rw [Nat.add_assoc]
      exact hj
theorem wp_appp {ops : Array Oper} {rest : List Oper} {o : Oper} {a : Act} {Q : Exit → Act → World → Prop} (hgd : o.guard = none) (s x : Operand)
    (ho : o.op = .call { callee := .builtin .append, args := #[s, x], argTypes := #[32, 32] })
    (B : Nat) (wr : World) (v : Value) (ps : List Par) (n : Nat) (hs : a.eval s = v) (hown : OwnP wr B v ps) (hn : ps.length = n) (hl : n ≤ 100000) (hB : B ≤ wr.heap.size)
    (p : Par) (H : Nat) (hH : wr.heap.size = H) (hx : a.eval x = .slice (some ⟨H, 0, none⟩) 1 1)
    (h : ∀ g cap w', OwnP w' B (.slice (some ⟨g, 0, none⟩) (n + 1) cap) (ps ++ [p]) → (wr.alloc (.cells #[.string p.1, .string p.2] 44)).grownBy w' v.ownBlock → g < w'.heap.size → wpList Tryz.prog ops Q rest (a.put o.dst (.slice (some ⟨g, 0, none⟩) (n + 1) cap)) w') :
    wpList Tryz.prog ops Q (o :: rest) a (wr.alloc (.cells #[.string p.1, .string p.2] 44)) := by
  subst hn hH
  obtain ⟨i0, hi0, hz0, hz1, hz2⟩ := info_parts infoP
  refine wpList_append_lies _ hgd s x 32 ho B 44 i0 (.agg #[.string ⟨#[]⟩, .string ⟨#[]⟩]) 2 32 Tryz.underlying32 hi0 hz0 hz1 hz2 rfl (by omega) v ps.length _ hs (World.ownsRow.alloc hown _) ⟨wr.heap.size, 0, none⟩ 1 1 [.string p.1, .string p.2] hx rfl
    (World.news_of_block (cs := #[.string p.1, .string p.2]) (t := 44) (fr := (0, 0)) (heap_alloc_new wr _)) (by simp [Value.oneCell']) (by omega) (by unfold maxLen; omega) (by omega) (by simp; omega) _ rfl ?_
  intro g cap w' hown1 hgrow _ hlt
  refine h g cap w' ?_ hgrow hlt
  unfold OwnP
  rw [List.length_append, parCells_app]
  exact hown1
end Go.Proofs.YtlmfhbffknganaaGreatDoor

/- The reader's parameters, by the program. -/
namespace Go.Proofs.YtlmfhbffknganaaGreatDoor
open Go.RowKit

/-- Names and values that are not too long. -/
def Small (ps : List Par) : Prop := ps.length ≤ 16 ∧ ∀ p ∈ ps, p.1.size ≤ 3000 ∧ p.2.size ≤ 3000
theorem small_snoc {ps : List Par} {p : Par} (h : Small ps) (hl : ps.length < 16) (h1 : p.1.size ≤ 3000) (h2 : p.2.size ≤ 3000) : Small (ps ++ [p]) := by
  refine ⟨by simp; omega, fun q hq => ?_⟩
  rcases List.mem_append.1 hq with hq | hq
  · exact h.2 q hq
  · rw [List.mem_singleton.1 hq]; exact ⟨h1, h2⟩
theorem param_few {acc : List Par} {r u : List UInt8} {p : Par} (h : paramL acc r = .ok (p, u)) : acc.length < 16 := by
  unfold paramL at h
  rcases hn : nameL r with _ | ⟨n, t⟩
  · rw [hn] at h; cases h
  · rw [hn] at h
    rcases hv : valueL (t.dropWhile blankB) with _ | ⟨v, u'⟩
    · simp only [hv] at h; cases h
    · simp only [hv] at h
      split at h
      · cases h
      · split at h
        · cases h
        · omega
/-- What the reader's params answers. -/
def ParsAns (b : Nat) (s : ByteArray) (r : List UInt8) (B : Nat) (e : Ending) (w' : World) : Prop :=
  (∃ (ps : List Par) (u : List UInt8) (v : Value), paramsL (r.length + 1) [] r = .ok (ps, u) ∧ Small ps ∧ e = .returned (.tuple #[v, .nilIface]) ∧ OwnP w' B v ps ∧ CurR w' b s u) ∨
  (∃ (n left : Nat) (v : Value), paramsL (r.length + 1) [] r = .error (n, left) ∧ e = .returned (.tuple #[.slice none 0 0, v]) ∧ IsAt w' v B n ((s.size - left : Nat) : Int))
/-- What is known at the loop's head. -/
def PsAt (r : List UInt8) (more : Bool) (acc : List Par) (r' : List UInt8) : Prop :=
  match more with
  | true => ∃ f, r'.length < f ∧ paramsL (r.length + 1) [] r = paramsL f acc r'
  | false => paramsL (r.length + 1) [] r = .ok (acc, r')
theorem psAt_err {r r' : List UInt8} {acc : List Par} {x : Nat × Nat} (h : PsAt r true acc r') (hp : paramL acc r' = .error x) : paramsL (r.length + 1) [] r = .error x := by
  obtain ⟨f, hf, e⟩ := h
  obtain ⟨g, rfl⟩ : ∃ g, f = g + 1 := ⟨f - 1, by omega⟩
  rw [e, paramsL, hp]
theorem psAt_bad {r r' u : List UInt8} {acc : List Par} {p : Par} (h : PsAt r true acc r') (hp : paramL acc r' = .ok (p, u)) (hs : stopsL (u.dropWhile blankB) = false) : paramsL (r.length + 1) [] r = .error (3, (u.dropWhile blankB).length) := by
  obtain ⟨f, hf, e⟩ := h
  obtain ⟨g, rfl⟩ : ∃ g, f = g + 1 := ⟨f - 1, by omega⟩
  rw [e, paramsL, hp]
  simp only [hs]
  rfl
theorem psAt_next {r r' u : List UInt8} {acc : List Par} {p : Par} (h : PsAt r true acc r') (hp : paramL acc r' = .ok (p, u)) (hs : stopsL (u.dropWhile blankB) = true) : PsAt r (nameL ((u.dropWhile blankB).dropWhile gapB)).isSome (acc ++ [p]) ((u.dropWhile blankB).dropWhile gapB) := by
  obtain ⟨f, hf, e⟩ := h
  obtain ⟨g, rfl⟩ : ∃ g, f = g + 1 := ⟨f - 1, by omega⟩
  have e2 : paramsL (g + 1) acc r' = if (nameL ((u.dropWhile blankB).dropWhile gapB)).isSome then paramsL g (acc ++ [p]) ((u.dropWhile blankB).dropWhile gapB) else .ok (acc ++ [p], (u.dropWhile blankB).dropWhile gapB) := by
    rw [paramsL, hp]
    simp only [hs, if_true]
  rw [e2] at e
  have h1 := paramL_len _ _ _ _ hp
  have h2 := dw_len blankB u
  have h3 := dw_len gapB (u.dropWhile blankB)
  cases hn : (nameL ((u.dropWhile blankB).dropWhile gapB)).isSome
  · rw [hn] at e
    exact e
  · rw [hn] at e
    exact ⟨g, by omega, e⟩
theorem next_len {r' u : List UInt8} {acc : List Par} {p : Par} (hp : paramL acc r' = .ok (p, u)) : ((u.dropWhile blankB).dropWhile gapB).length < r'.length := by
  have h1 := paramL_len _ _ _ _ hp
  have h2 := dw_len blankB u
  have h3 := dw_len gapB (u.dropWhile blankB)
  omega
theorem grown_other {w0 w w' : World} {b : Nat} {row : Option Nat} (h : w0.grownBy w (some b)) (hg : w.grownBy w' row) (hrow : ∀ k, row = some k → w0.heap.size ≤ k) : w0.grownBy w' (some b) :=
  ⟨hg.os.trans h.os, hg.tape.trans h.tape, hg.output.trans h.output, Nat.le_trans h.size hg.size, fun i hi hr => (hg.block i (Nat.lt_of_lt_of_le hi h.size) (fun e => by have := hrow i e.symm; omega)).trans (h.block i hi hr)⟩
set_option maxRecDepth 100000 in
set_option maxHeartbeats 4000000 in
theorem params_any (b : Nat) (s : ByteArray) (hs : s.size ≤ 3000) (r : List UInt8) (w : World) (hc : CurR w b s r) :
    Calls Tryz.prog 71 #[.agg #[.pointer (some ⟨b, 0, none⟩), .string s]] w fun e w' => ParsAns b s r w.heap.size e w' ∧ w.grownBy w' (some b) := by
  have hbl := hc.lt
  have hB1 : Below w.heap.size w (w.alloc (.cells #[.pointer (some ⟨b, 0, none⟩), .string s] 78)) := (Below.refl _ _).alloc (Nat.le_refl _) _
  have hne : some w.heap.size ≠ some b := by intro e; injection e with e; omega
  generalize hW0 : (w.alloc (.cells #[.pointer (some ⟨b, 0, none⟩), .string s] 78)) = W0 at hB1
  have HBT : Hid (∀ w', W0.grownBy w' (some b) → w'.cell? ⟨w.heap.size, 0, none⟩ = some (.pointer (some ⟨b, 0, none⟩)) ∧ w'.cell? ⟨w.heap.size, 1, none⟩ = some (.string s)) := fun w' hg => box_reader (by rw [hW0]; exact hg) hne
  have HC1 : Hid (CurR W0 b s r ∧ w.grownBy W0 (some b) ∧ W0.heap.size = w.heap.size + 1) := ⟨hc.below hB1, grown_below hB1 _, by rw [← hW0]; simp⟩
  clear hc hB1
  go_enter Tryz.func71, Tryz.ntmps71
  go_wp2
  clear hW0
  go_loopg [4, 5] (r.length + 1) (fun gh v m wr => ∃ (more : Bool) (acc : List Par) (a : Option Addr) (n cap : Nat) (r' : List UInt8), (if more then r'.length + 1 else 0) ≤ gh ∧ v = .slice a n cap ∧ n ≤ 16 ∧ m = .bool more ∧ Hid (n = acc.length ∧ PsAt r more acc r' ∧ Small acc ∧ OwnP wr (w.heap.size + 1) (.slice a n cap) acc ∧ CurR wr b s r' ∧ W0.grownBy wr (some b)))
  case atStart => exact ⟨true, [], none, 0, 0, r, by simp, rfl, by omega, rfl, ⟨rfl, ⟨r.length + 1, by omega, rfl⟩, ⟨by simp, fun p hp => by cases hp⟩, ownP_nil _ _, HC1.out.1, grown_drewN _ 0 _⟩⟩
  case round =>
    obtain ⟨more, acc, a, n, cap, r', hgh, rfl, hn, rfl, HI⟩ := hrel
    cases more
    · have HA : Hid (paramsL (r.length + 1) [] r = .ok (acc, r')) := HI.out.2.1
      go_wp2
      go_ret2
      exact ⟨.inl ⟨acc, r', _, HA, HI.out.2.2.1, rfl, World.ownsRow.mono HI.out.2.2.2.1 (by omega), HI.out.2.2.2.2.1⟩, grown_trans HC1.out.2.1 HI.out.2.2.2.2.2⟩
    · obtain ⟨hx0, hx1⟩ := HBT.out wr HI.out.2.2.2.2.2
      obtain ⟨a', cap', g, hv, hP, hBg⟩ := HI.out.2.2.2.1.pars
      injection hv with hv1 hv2 hv3
      subst hv1 hv3
      have HP : Hid (Pars wr a n g 0 acc ∧ (0 < n → g ≠ b)) := by rw [HI.out.1]; exact ⟨hP, fun h => by have := hBg h; omega⟩
      clear hP hBg hv2
      go_wp2_with fail
      refine (param_any b s hs r' acc (fun p hp => (HI.out.2.2.1.2 p hp).1) a n cap g 0 (by omega) _ HI.out.2.2.2.2.1 HP.out.1 HP.out.2).mono ?_
      rintro e w2 ⟨hpa, hg2⟩
      have HG2 : Hid (W0.grownBy w2 (some b) ∧ OwnP w2 (w.heap.size + 1) (.slice a n cap) acc) := ⟨grown_trans HI.out.2.2.2.2.2 hg2, HI.out.2.2.2.1.grown hg2 (by omega)⟩
      have hwz : w.heap.size + 1 ≤ w2.heap.size := by have := HG2.out.1.size; have := HC1.out.2.2; omega
      have HWR : Hid (w.heap.size ≤ wr.heap.size) := by have := HI.out.2.2.2.2.2.size; have := HC1.out.2.2; show _ ≤ _; omega
      clear hg2 hx0 hx1
      rcases hpa with ⟨p, u, hpl, hp1, hp2, rfl, hc2⟩ | ⟨en, left, ev, hpl, rfl, hat⟩
      · have HPL : Hid (paramL acc r' = .ok (p, u)) := hpl
        have hacc16 : n < 16 := by have := param_few hpl; have := HI.out.1; omega
        have HS2 : Hid (Small (acc ++ [p])) := small_snoc HI.out.2.2.1 (param_few hpl) hp1 hp2
        have hb3 : Below w2.heap.size w2 (w2.alloc (.cells #[.string p.1, .string p.2] 44)) := (Below.refl _ _).alloc (Nat.le_refl _) _
        have HG3 : Hid (W0.grownBy (w2.alloc (.cells #[.string p.1, .string p.2] 44)) (some b) ∧ OwnP (w2.alloc (.cells #[.string p.1, .string p.2] 44)) (w.heap.size + 1) (.slice a n cap) acc ∧ CurR (w2.alloc (.cells #[.string p.1, .string p.2] 44)) b s u) := ⟨grown_trans HG2.out.1 (grown_below hb3 _), HG2.out.2.below hb3, hc2.below hb3⟩
        clear hpl hc2 hb3
        go_wp2_with (at_builtin; refine wp_appp rfl _ _ rfl (w.heap.size + 1) (w2.alloc (.cells #[.string p.1, .string p.2] 44)) (.slice a n cap) acc n rfl HG3.out.2.1 HI.out.1.symm (by omega) (by simp; omega) p (w2.heap.size + 1) (by simp) rfl ?_; intro g4 cap4 w4 hown4 hg4 hlt4; have HO4 : Hid (OwnP w4 (w.heap.size + 1) (.slice (some ⟨g4, 0, none⟩) (n + 1) cap4) (acc ++ [p]) ∧ CurR w4 b s u ∧ W0.grownBy w4 (some b)) := ⟨hown4, (HG3.out.2.2.below ((Below.refl _ _).alloc (Nat.le_refl _) _)).grown hg4 (fun e => by have := (HG3.out.2.1.lt _ e.symm).1; omega), grown_other (grown_trans HG3.out.1 (grown_alloc _ _ _)) hg4 (fun k e => by have := (HG3.out.2.1.lt _ e).1; have := HC1.out.2.2; omega)⟩; clear hown4 hg4 hlt4; obtain ⟨hy0, hy1⟩ := HBT.out w4 HO4.out.2.2)
        refine (rd_blanks b s hs u _ HO4.out.2.1).mono ?_
        rintro e w5 ⟨rfl, hc5, hg5⟩
        have HO5 : Hid (OwnP w5 (w.heap.size + 1) (.slice (some ⟨g4, 0, none⟩) (n + 1) cap4) (acc ++ [p]) ∧ CurR w5 b s (u.dropWhile blankB) ∧ W0.grownBy w5 (some b)) := ⟨HO4.out.1.grown hg5 (by omega), hc5, grown_trans HO4.out.2.2 hg5⟩
        clear hc5 hg5 HO4 hy0 hy1
        obtain ⟨hy0, hy1⟩ := HBT.out w5 HO5.out.2.2
        go_wp2_with fail
        refine (over_at b s _ _ HO5.out.2.1).mono ?_
        rintro e w6 ⟨rfl, hc6, hg6⟩
        have HO6 : Hid (OwnP w6 (w.heap.size + 1) (.slice (some ⟨g4, 0, none⟩) (n + 1) cap4) (acc ++ [p]) ∧ CurR w6 b s (u.dropWhile blankB) ∧ W0.grownBy w6 (some b)) := ⟨HO5.out.1.grown hg6 (by omega), hc6, grown_trans HO5.out.2.2 hg6⟩
        clear hc6 hg6 HO5 hy0 hy1
        obtain ⟨hy0, hy1⟩ := HBT.out w6 HO6.out.2.2
        have HW6 : Hid (w.heap.size ≤ w6.heap.size) := by have := HO6.out.2.2.size; have := HC1.out.2.2; show _ ≤ _; omega
        cases hst : stopsL (u.dropWhile blankB)
        · have HA : Hid (paramsL (r.length + 1) [] r = .error (3, (u.dropWhile blankB).length)) := psAt_bad HI.out.2.1 HPL.out hst
          have hat := rd_at b s _ _ HO6.out.2.1
          obtain ⟨k, HK⟩ : ∃ k, Hid (s.size - (u.dropWhile blankB).length = k) := ⟨_, rfl⟩
          rw [HK.out] at hat
          go_wp2_with (go_at_call 26; refine hat.mono ?_; rintro e w1 ⟨rfl, hw1⟩; obtain rfl := hw1.symm; clear hw1 hat)
          refine (wrong_any 3 k _).mono ?_
          rintro e w7 ⟨⟨g, rfl, hg0, hg1, hgB, hgl⟩, hbw⟩
          have HAT : Hid (IsAt w7 (.iface 73 (.pointer (some ⟨g, 0, none⟩))) w6.heap.size 3 k) := ⟨g, rfl, hg0, hg1, hgB, hgl⟩
          have HG7 : Hid (w.grownBy w7 (some b)) := grown_trans HC1.out.2.1 (grown_trans HO6.out.2.2 (grown_below hbw _))
          clear hg0 hg1 hbw
          go_wp2
          go_ret2
          exact ⟨.inr ⟨3, _, _, HA, rfl, by rw [HK.out]; exact HAT.out.mono HW6.out⟩, HG7⟩
        · have HN : Hid (PsAt r (nameL ((u.dropWhile blankB).dropWhile gapB)).isSome (acc ++ [p]) ((u.dropWhile blankB).dropWhile gapB)) := psAt_next HI.out.2.1 HPL.out hst
          have HNL : Hid (((u.dropWhile blankB).dropWhile gapB).length < r'.length) := next_len HPL.out
          clear hst
          go_wp2_with fail
          refine (gaps_any b s hs _ _ HO6.out.2.1).mono ?_
          rintro e w7 ⟨rfl, hc7, hg7⟩
          have HO7 : Hid (OwnP w7 (w.heap.size + 1) (.slice (some ⟨g4, 0, none⟩) (n + 1) cap4) (acc ++ [p]) ∧ CurR w7 b s ((u.dropWhile blankB).dropWhile gapB) ∧ W0.grownBy w7 (some b)) := ⟨HO6.out.1.grown hg7 (by omega), hc7, grown_trans HO6.out.2.2 hg7⟩
          clear hc7 hg7 HO6 hy0 hy1 HW6
          obtain ⟨hy0, hy1⟩ := HBT.out w7 HO7.out.2.2
          go_wp2_with fail
          refine (nameAhead_any b s hs _ _ HO7.out.2.1).mono ?_
          rintro e w8 ⟨rfl, hc8, hg8⟩
          have HO8 : Hid (OwnP w8 (w.heap.size + 1) (.slice (some ⟨g4, 0, none⟩) (n + 1) cap4) (acc ++ [p]) ∧ CurR w8 b s ((u.dropWhile blankB).dropWhile gapB) ∧ W0.grownBy w8 (some b)) := ⟨HO7.out.1.grown hg8 (by omega), hc8, grown_trans HO7.out.2.2 hg8⟩
          clear hc8 hg8 HO7 hy0 hy1
          obtain ⟨m, HM⟩ : ∃ m, Hid ((nameL ((u.dropWhile blankB).dropWhile gapB)).isSome = m) := ⟨_, rfl⟩
          rw [HM.out] at HN ⊢
          have HGH : Hid (r'.length + 1 ≤ gk) := by show _ ≤ _; simpa using hgh
          go_wp2
          go_roundg (((u.dropWhile blankB).dropWhile gapB).length + 1)
          case measure => have := HNL.out; have := HGH.out; omega
          case rel => exact ⟨m, acc ++ [p], _, n + 1, cap4, _, by split <;> omega, rfl, by omega, rfl, ⟨by rw [List.length_append, ← HI.out.1]; rfl, HN.out, HS2.out, HO8.out.1, HO8.out.2.1, HO8.out.2.2⟩⟩
      · have HA : Hid (paramsL (r.length + 1) [] r = .error (en, left)) := psAt_err HI.out.2.1 hpl
        obtain ⟨eg, rfl, eg0, eg1, egB, egl⟩ := hat
        have HAT : Hid (IsAt w2 (.iface 73 (.pointer (some ⟨eg, 0, none⟩))) wr.heap.size en ((s.size - left : Nat) : Int)) := ⟨eg, rfl, eg0, eg1, egB, egl⟩
        clear hpl eg0 eg1
        go_wp2
        go_ret2
        exact ⟨.inr ⟨en, left, _, HA, rfl, (HAT.out.below ((Below.refl _ _).alloc (Nat.le_refl _) _)).mono HWR.out⟩, grown_trans HC1.out.2.1 (grown_trans HG2.out.1 (grown_alloc _ _ _))⟩
end Go.Proofs.YtlmfhbffknganaaGreatDoor

/- The library's contract on beginnings, laid at this program's numbers. -/
namespace Go.Proofs.YtlmfhbffknganaaGreatDoor
open Go.Shelf Go.RowKit
def lays99_ren : Go.Shelf.Ren := ⟨fun | 99 => 40 | 206 => 74 | n => n, fun | 9 => 9 | 4 => 4 | 3 => 3 | n => n, fun | n => n⟩
theorem lays99 : Go.Proofs.Lays.n99 Tryz.prog lays99_ren := {
  mixed := by kernel_rfl
  f99 := Tryz.func40.trans (congrArg some (by kernel_rfl))
  f206 := Tryz.func74.trans (congrArg some (by kernel_rfl))
  t3 := Tryz.underlying3
  a3 := Tryz.isAgg3
  z3 := Tryz.sizeOf3
  v3 := Tryz.zeroValue3
  t4 := Tryz.underlying4
  a4 := Tryz.isAgg4
  z4 := Tryz.sizeOf4
  v4 := Tryz.zeroValue4
  t9 := Tryz.underlying9
  a9 := Tryz.isAgg9
  z9 := Tryz.sizeOf9
  v9 := Tryz.zeroValue9 }
end Go.Proofs.YtlmfhbffknganaaGreatDoor

/- The library's contracts that are leant on, laid at this program's numbers. -/
namespace Go.Proofs.YtlmfhbffknganaaGreatDoor
open Go.Shelf Go.RowKit
def lays160_ren : Go.Shelf.Ren := ⟨fun | 160 => 29 | 232 => 58 | 231 => 57 | 227 => 59 | 234 => 61 | 233 => 60 | 236 => 63 | 235 => 62 | 228 => 91 | 271 => 94 | 151 => 93 | 197 => 92 | 120 => 116 | 152 => 115 | 260 => 114 | 137 => 80 | 119 => 126 | 224 => 127 | 225 => 128 | 217 => 104 | 266 => 119 | n => n, fun | 9 => 9 | 4 => 4 | 3 => 3 | 5 => 5 | 117 => 99 | 116 => 98 | 0 => 0 | 124 => 102 | 21 => 21 | 105 => 135 | 46 => 82 | 119 => 165 | 139 => 168 | 138 => 167 | n => n, fun | 3 => 2 | 4 => 3 | n => n⟩
theorem lays160 : Go.Proofs.Lays.n160 Tryz.prog lays160_ren := {
  mixed := by kernel_rfl
  f119 := Tryz.func126.trans (congrArg some (by kernel_rfl))
  f120 := Tryz.func116.trans (congrArg some (by kernel_rfl))
  f137 := Tryz.func80.trans (congrArg some (by kernel_rfl))
  f151 := Tryz.func93.trans (congrArg some (by kernel_rfl))
  f152 := Tryz.func115.trans (congrArg some (by kernel_rfl))
  f160 := Tryz.func29.trans (congrArg some (by kernel_rfl))
  f197 := Tryz.func92.trans (congrArg some (by kernel_rfl))
  f217 := Tryz.func104.trans (congrArg some (by kernel_rfl))
  f224 := Tryz.func127.trans (congrArg some (by kernel_rfl))
  f225 := Tryz.func128.trans (congrArg some (by kernel_rfl))
  f227 := Tryz.func59.trans (congrArg some (by kernel_rfl))
  f228 := Tryz.func91.trans (congrArg some (by kernel_rfl))
  f231 := Tryz.func57.trans (congrArg some (by kernel_rfl))
  f232 := Tryz.func58.trans (congrArg some (by kernel_rfl))
  f233 := Tryz.func60.trans (congrArg some (by kernel_rfl))
  f234 := Tryz.func61.trans (congrArg some (by kernel_rfl))
  f235 := Tryz.func62.trans (congrArg some (by kernel_rfl))
  f236 := Tryz.func63.trans (congrArg some (by kernel_rfl))
  f260 := Tryz.func114.trans (congrArg some (by kernel_rfl))
  f266 := Tryz.func119.trans (congrArg some (by kernel_rfl))
  f271 := Tryz.func94.trans (congrArg some (by kernel_rfl))
  t0 := Tryz.underlying0
  a0 := Tryz.isAgg0
  z0 := Tryz.sizeOf0
  v0 := Tryz.zeroValue0
  t3 := Tryz.underlying3
  a3 := Tryz.isAgg3
  z3 := Tryz.sizeOf3
  v3 := Tryz.zeroValue3
  t4 := Tryz.underlying4
  a4 := Tryz.isAgg4
  z4 := Tryz.sizeOf4
  v4 := Tryz.zeroValue4
  t5 := Tryz.underlying5
  a5 := Tryz.isAgg5
  z5 := Tryz.sizeOf5
  v5 := Tryz.zeroValue5
  t9 := Tryz.underlying9
  a9 := Tryz.isAgg9
  z9 := Tryz.sizeOf9
  v9 := Tryz.zeroValue9
  t21 := Tryz.underlying21
  a21 := Tryz.isAgg21
  z21 := Tryz.sizeOf21
  v21 := Tryz.zeroValue21
  t46 := Tryz.underlying82
  a46 := Tryz.isAgg82
  z46 := Tryz.sizeOf82
  v46 := Tryz.zeroValue82
  t105 := Tryz.underlying135
  a105 := Tryz.isAgg135
  z105 := Tryz.sizeOf135
  v105 := Tryz.zeroValue135
  t116 := Tryz.underlying98
  a116 := Tryz.isAgg98
  z116 := Tryz.sizeOf98
  t117 := Tryz.underlying99
  a117 := Tryz.isAgg99
  z117 := Tryz.sizeOf99
  v117 := Tryz.zeroValue99
  t119 := Tryz.underlying165
  a119 := Tryz.isAgg165
  z119 := Tryz.sizeOf165
  t124 := Tryz.underlying102
  a124 := Tryz.isAgg102
  z124 := Tryz.sizeOf102
  v124 := Tryz.zeroValue102
  t138 := Tryz.underlying167
  a138 := Tryz.isAgg167
  z138 := Tryz.sizeOf167
  v138 := Tryz.zeroValue167
  t139 := Tryz.underlying168
  a139 := Tryz.isAgg168
  z139 := Tryz.sizeOf168
  v139 := Tryz.zeroValue168
  g3 := by kernel_rfl
  g4 := by kernel_rfl }
end Go.Proofs.YtlmfhbffknganaaGreatDoor

/- The library's contracts on beginnings and on blanks about a text, laid at this program's numbers. -/
namespace Go.Proofs.YtlmfhbffknganaaGreatDoor
open Go.Shelf Go.RowKit
def lays161_ren : Go.Shelf.Ren := ⟨fun | 161 => 96 | 231 => 57 | 227 => 59 | 233 => 60 | 235 => 62 | 228 => 91 | 197 => 92 | 151 => 93 | 260 => 114 | 152 => 115 | 137 => 80 | 119 => 126 | 224 => 127 | 225 => 128 | 217 => 104 | 266 => 119 | n => n, fun | 9 => 9 | 4 => 4 | 3 => 3 | 5 => 5 | 117 => 99 | 116 => 98 | 0 => 0 | 124 => 102 | 105 => 135 | 21 => 21 | 119 => 165 | 46 => 82 | 139 => 168 | 138 => 167 | n => n, fun | 3 => 2 | 4 => 3 | n => n⟩
theorem lays161 : Go.Proofs.Lays.n161 Tryz.prog lays161_ren := {
  mixed := by kernel_rfl
  f119 := Tryz.func126.trans (congrArg some (by kernel_rfl))
  f137 := Tryz.func80.trans (congrArg some (by kernel_rfl))
  f151 := Tryz.func93.trans (congrArg some (by kernel_rfl))
  f152 := Tryz.func115.trans (congrArg some (by kernel_rfl))
  f161 := Tryz.func96.trans (congrArg some (by kernel_rfl))
  f197 := Tryz.func92.trans (congrArg some (by kernel_rfl))
  f217 := Tryz.func104.trans (congrArg some (by kernel_rfl))
  f224 := Tryz.func127.trans (congrArg some (by kernel_rfl))
  f225 := Tryz.func128.trans (congrArg some (by kernel_rfl))
  f227 := Tryz.func59.trans (congrArg some (by kernel_rfl))
  f228 := Tryz.func91.trans (congrArg some (by kernel_rfl))
  f231 := Tryz.func57.trans (congrArg some (by kernel_rfl))
  f233 := Tryz.func60.trans (congrArg some (by kernel_rfl))
  f235 := Tryz.func62.trans (congrArg some (by kernel_rfl))
  f260 := Tryz.func114.trans (congrArg some (by kernel_rfl))
  f266 := Tryz.func119.trans (congrArg some (by kernel_rfl))
  t0 := Tryz.underlying0
  a0 := Tryz.isAgg0
  z0 := Tryz.sizeOf0
  v0 := Tryz.zeroValue0
  t3 := Tryz.underlying3
  a3 := Tryz.isAgg3
  z3 := Tryz.sizeOf3
  v3 := Tryz.zeroValue3
  t4 := Tryz.underlying4
  a4 := Tryz.isAgg4
  z4 := Tryz.sizeOf4
  v4 := Tryz.zeroValue4
  t5 := Tryz.underlying5
  a5 := Tryz.isAgg5
  z5 := Tryz.sizeOf5
  v5 := Tryz.zeroValue5
  t9 := Tryz.underlying9
  a9 := Tryz.isAgg9
  z9 := Tryz.sizeOf9
  v9 := Tryz.zeroValue9
  t21 := Tryz.underlying21
  a21 := Tryz.isAgg21
  z21 := Tryz.sizeOf21
  v21 := Tryz.zeroValue21
  t46 := Tryz.underlying82
  a46 := Tryz.isAgg82
  z46 := Tryz.sizeOf82
  v46 := Tryz.zeroValue82
  t105 := Tryz.underlying135
  a105 := Tryz.isAgg135
  z105 := Tryz.sizeOf135
  v105 := Tryz.zeroValue135
  t116 := Tryz.underlying98
  a116 := Tryz.isAgg98
  z116 := Tryz.sizeOf98
  t117 := Tryz.underlying99
  a117 := Tryz.isAgg99
  z117 := Tryz.sizeOf99
  v117 := Tryz.zeroValue99
  t119 := Tryz.underlying165
  a119 := Tryz.isAgg165
  z119 := Tryz.sizeOf165
  t124 := Tryz.underlying102
  a124 := Tryz.isAgg102
  z124 := Tryz.sizeOf102
  v124 := Tryz.zeroValue102
  t138 := Tryz.underlying167
  a138 := Tryz.isAgg167
  z138 := Tryz.sizeOf167
  v138 := Tryz.zeroValue167
  t139 := Tryz.underlying168
  a139 := Tryz.isAgg168
  z139 := Tryz.sizeOf168
  v139 := Tryz.zeroValue168
  g3 := by kernel_rfl
  g4 := by kernel_rfl }
end Go.Proofs.YtlmfhbffknganaaGreatDoor

/- The reader's Token, by the program. -/
namespace Go.Proofs.YtlmfhbffknganaaGreatDoor
open Go.RowKit Go.Shelf

abbrev tkset : ByteArray := ⟨([97, 98, 99, 100, 101, 102, 103, 104, 105, 106, 107, 108, 109, 110, 111, 112, 113, 114, 115, 116, 117, 118, 119, 120, 121, 122, 65, 66, 67, 68, 69, 70, 71, 72].append [73, 74, 75, 76, 77, 78, 79, 80, 81, 82, 83, 84, 85, 86, 87, 88, 89, 90, 48, 49, 50, 51, 52, 53, 54, 55, 56, 57, 45, 46, 95, 126, 43, 47] : List UInt8).toArray⟩
theorem tk_all : ∀ c : UInt8, tkset.data.toList.contains c = tkB c := by
  intro c
  have : ∀ n : Fin 256, tkset.data.toList.contains (UInt8.ofNat n.1) = tkB (UInt8.ofNat n.1) := by decide +kernel
  have h := this ⟨c.toNat, c.toNat_lt⟩
  simpa using h
theorem trim_tk (l : List UInt8) : Lib.trimLeftS l tkset.data.toList = l.dropWhile tkB := by
  unfold Lib.trimLeftS
  congr 1
  funext c
  exact tk_all c
theorem trim_eq (l : List UInt8) : Lib.trimLeftS l [61] = l.dropWhile eqB := by
  unfold Lib.trimLeftS
  congr 1
  funext c
  unfold eqB
  simp
  rfl
theorem trimTk_any (r : ByteArray) (w : World) : Calls Tryz.prog 96 #[.string r, .string tkset] w fun e w' => e = .returned (.string (bs (r.data.toList.dropWhile tkB))) ∧ Below w.heap.size w w' := by
  have h := Any.strings_TrimLeft_laid lays161 (by kernel_rfl) r tkset w (by decide) (ascii_of_all (by decide +kernel))
  rw [trim_tk] at h
  exact h
theorem trimEq_any (r : ByteArray) (w : World) : Calls Tryz.prog 96 #[.string r, .string ⟨#[61]⟩] w fun e w' => e = .returned (.string (bs (r.data.toList.dropWhile eqB))) ∧ Below w.heap.size w w' := by
  have h := Any.strings_TrimLeft_laid lays161 (by kernel_rfl) r ⟨#[61]⟩ w (by decide) (ascii_of_all (by decide))
  have e : (⟨#[61]⟩ : ByteArray).data.toList = [61] := rfl
  rw [e, trim_eq] at h
  exact h
/-- What the reader's token answers. -/
def TkAns (b : Nat) (s : ByteArray) (r : List UInt8) (e : Ending) (w' : World) : Prop :=
  (∃ (t : ByteArray) (u : List UInt8), tokenL r = some (t, u) ∧ t.size ≠ 0 ∧ t.size ≤ 3000 ∧ e = .returned (.string t) ∧ CurR w' b s u) ∨
  (tokenL r = none ∧ e = .returned (.string ⟨#[]⟩) ∧ CurR w' b s r)
set_option maxRecDepth 100000 in
set_option maxHeartbeats 2000000 in
theorem token_any (b : Nat) (s : ByteArray) (hs : s.size ≤ 3000) (r : List UInt8) (w : World) (hc : CurR w b s r) :
    Calls Tryz.prog 70 #[.agg #[.pointer (some ⟨b, 0, none⟩), .string s]] w fun e w' => TkAns b s r e w' ∧ w.grownBy w' (some b) := by
  have hbl := hc.lt
  have hrl := hc.len
  have HSF : Hid (r <:+ s.data.toList) := hc.2
  have hrest := hc.rest
  have HC1 : Hid (CurR (w.alloc (.cells #[.pointer (some ⟨b, 0, none⟩), .string s] 78)) b s r) := hc.below ((Below.refl _ _).alloc (Nat.le_refl _) _)
  have HG1 : Hid (w.grownBy (w.alloc (.cells #[.pointer (some ⟨b, 0, none⟩), .string s] 78)) (some b)) := grown_alloc _ _ _
  have hne : some w.heap.size ≠ some b := by intro e; injection e with e; omega
  obtain ⟨k, HK⟩ : ∃ k, Hid (s.size - r.length = k) := ⟨_, rfl⟩
  have hk : k ≤ s.size := by rw [← HK.out]; omega
  have hkz : k + r.length = s.size := by rw [← HK.out]; omega
  obtain ⟨x, HX⟩ : ∃ x : ByteArray, Hid (s.extract k s.size = x) := ⟨_, rfl⟩
  have HXD : Hid (x.data.toList = r) := by
    show _ = _
    rw [← HX.out, from_data, ← HK.out]
    exact hrest
  have hxz : x.size = r.length := by rw [← len_data, HXD.out]
  obtain ⟨y, HY⟩ : ∃ y : ByteArray, Hid (bs (r.dropWhile tkB) = y) := ⟨_, rfl⟩
  obtain ⟨z, HZ⟩ : ∃ z : ByteArray, Hid (bs ((r.dropWhile tkB).dropWhile eqB) = z) := ⟨_, rfl⟩
  have hyz : y.size = (r.dropWhile tkB).length := by rw [← HY.out, bs_size]
  have hzz : z.size = ((r.dropWhile tkB).dropWhile eqB).length := by rw [← HZ.out, bs_size]
  have hle1 := dw_len tkB r
  have hle2 := dw_len eqB (r.dropWhile tkB)
  have htk : ∀ w, Calls Tryz.prog 96 #[.string x, .string tkset] w fun e w' => e = .returned (.string y) ∧ Below w.heap.size w w' := fun w => by
    have h := trimTk_any x w
    rw [HXD.out, HY.out] at h
    exact h
  have heq : ∀ w, Calls Tryz.prog 96 #[.string y, .string ⟨#[61]⟩] w fun e w' => e = .returned (.string z) ∧ Below w.heap.size w w' := fun w => by
    have h := trimEq_any y w
    rw [← HY.out, bs_data, HZ.out, HY.out] at h
    exact h
  have hat := rd_at b s r _ HC1.out
  rw [HK.out] at hat
  have HLE : Hid (y.size = (r.dropWhile tkB).length ∧ z.size = ((r.dropWhile tkB).dropWhile eqB).length ∧ x.size = r.length ∧ k + r.length = s.size) := ⟨hyz, hzz, hxz, hkz⟩
  have hyx : y.size ≤ x.size := by omega
  have hzy : z.size ≤ y.size := by omega
  have hkS : (k : Int) ≤ (s.size : Int) := by omega
  have hxs : x.size ≤ 3000 := by omega
  clear hc hrest hyz hzz hxz hkz hle1 hle2 hrl
  go_enter Tryz.func70, Tryz.ntmps70
  go_wp2_with (go_at_call 26; refine hat.mono ?_; rintro e w1 ⟨rfl, hw1⟩; obtain rfl := hw1.symm; clear hw1 hat)
  rw [HX.out]
  refine (htk _).mono ?_
  rintro e w2 ⟨rfl, hb2⟩
  have HC2 : Hid (CurR w2 b s r ∧ (w.alloc (.cells #[.pointer (some ⟨b, 0, none⟩), .string s] 78)).grownBy w2 (some b)) := ⟨HC1.out.below hb2, grown_below hb2 _⟩
  clear hb2 HC1 htk
  by_cases heqz : y.size = x.size
  · have HN : Hid (tokenL r = none) := by
      show _ = _
      unfold tokenL
      rw [if_neg]
      rintro ⟨h1, _⟩
      have := HLE.out
      omega
    have heq' : ((y.size : Int) == (x.size : Int)) = true := by rw [heqz]; simp
    go_wp2
    go_ret
    exact ⟨.inr ⟨HN, rfl, HC2.out.1⟩, grown_trans HG1.out HC2.out.2⟩
  · have heq' : ((y.size : Int) == (x.size : Int)) = false := beq_eq_false_iff_ne.2 (by omega)
    have HLT : Hid ((r.dropWhile tkB).length < r.length) := by
      show _ < _
      have := HLE.out
      omega
    clear heqz
    go_wp2_with (go_at_call 96; refine (heq _).mono ?_; rintro e w3 ⟨rfl, hb3⟩; have HC3 : Hid (CurR w3 b s r ∧ (w.alloc (.cells #[.pointer (some ⟨b, 0, none⟩), .string s] 78)).grownBy w3 (some b)) := ⟨HC2.out.1.below hb3, grown_trans HC2.out.2 (grown_below hb3 _)⟩; obtain ⟨hx0, hx1⟩ := box_reader HC3.out.2 hne; clear hb3)
    have HSF2 : Hid ((r.dropWhile tkB).dropWhile eqB <:+ s.data.toList) := ((dw_suff _ _).trans (dw_suff _ _)).trans HSF.out
    refine (rd_go b s r _ HSF2.out _ (by have := HLE.out; omega) _ HC3.out.1).mono ?_
    rintro e w4 ⟨rfl, hc4, hg4⟩
    have HC4 : Hid (CurR w4 b s ((r.dropWhile tkB).dropWhile eqB) ∧ (w.alloc (.cells #[.pointer (some ⟨b, 0, none⟩), .string s] 78)).grownBy w4 (some b)) := ⟨hc4, grown_trans HC3.out.2 hg4⟩
    obtain ⟨hy0, hy1⟩ := box_reader HC4.out.2 hne
    clear hc4 hg4 HC3 hx0 hx1 HC2
    go_wp2_with fail
    refine (rd_blanks b s hs _ _ HC4.out.1).mono ?_
    rintro e w5 ⟨rfl, hc5, hg5⟩
    have HC5 : Hid (CurR w5 b s (((r.dropWhile tkB).dropWhile eqB).dropWhile blankB) ∧ (w.alloc (.cells #[.pointer (some ⟨b, 0, none⟩), .string s] 78)).grownBy w5 (some b)) := ⟨hc5, grown_trans HC4.out.2 hg5⟩
    obtain ⟨hx0, hx1⟩ := box_reader HC5.out.2 hne
    clear hc5 hg5 HC4 hy0 hy1
    go_wp2_with fail
    refine (over_at b s _ _ HC5.out.1).mono ?_
    rintro e w6 ⟨rfl, hc6, hg6⟩
    have HC6 : Hid (CurR w6 b s (((r.dropWhile tkB).dropWhile eqB).dropWhile blankB) ∧ (w.alloc (.cells #[.pointer (some ⟨b, 0, none⟩), .string s] 78)).grownBy w6 (some b)) := ⟨hc6, grown_trans HC5.out.2 hg6⟩
    obtain ⟨hy0, hy1⟩ := box_reader HC6.out.2 hne
    clear hc6 hg6 HC5 hx0 hx1
    cases hst : stopsL (((r.dropWhile tkB).dropWhile eqB).dropWhile blankB)
    · have HN : Hid (tokenL r = none) := by
        show _ = _
        unfold tokenL
        rw [if_neg]
        rintro ⟨_, h1⟩
        rw [hst] at h1
        cases h1
      go_wp2_with fail
      refine (rd_go b s _ r HSF.out _ (by have := HLE.out; omega) _ HC6.out.1).mono ?_
      rintro e w7 ⟨rfl, hc7, hg7⟩
      have HC7 : Hid (CurR w7 b s r ∧ w.grownBy w7 (some b)) := ⟨hc7, grown_trans HG1.out (grown_trans HC6.out.2 hg7)⟩
      clear hc7 hg7
      go_wp2
      go_ret
      exact ⟨.inr ⟨HN, rfl, HC7.out.1⟩, HC7.out.2⟩
    · obtain ⟨m, hm⟩ : ∃ m : Nat, m = x.size - z.size := ⟨_, rfl⟩
      have HM : Hid (m = x.size - z.size) := hm
      have hmi : (x.size : Int) - (z.size : Int) = (m : Int) := by omega
      rw [hmi]
      obtain ⟨t, HT⟩ : ∃ t : ByteArray, Hid (x.extract 0 m = t) := ⟨_, rfl⟩
      have htz : t.size = m := by
        rw [← HT.out]
        simp
        omega
      have HN : Hid (tokenL r = some (t, ((r.dropWhile tkB).dropWhile eqB).dropWhile blankB)) := by
        show _ = _
        unfold tokenL
        rw [if_pos ⟨HLT.out, hst⟩]
        have : bs (r.take (r.length - ((r.dropWhile tkB).dropWhile eqB).length)) = t := by
          rw [← HT.out]
          refine (bs_of ?_).symm
          rw [upto_data, HXD.out, HM.out]
          have := HLE.out
          congr 1
          omega
        rw [this]
      have HT0 : Hid (t.size ≠ 0 ∧ t.size ≤ 3000) := by
        have := HLE.out
        have := HLT.out
        have := dw_len eqB (r.dropWhile tkB)
        exact ⟨by omega, by omega⟩
      have hmx : (m : Int) ≤ (x.size : Int) := by omega
      have ht3 : t.size ≤ 3000 := HT0.out.2
      clear hm htz hmi
      go_wp2_with fail
      rw [HT.out]
      refine (clone_any t (by omega) _).mono ?_
      rintro e w7 ⟨rfl, hb7⟩
      have HC7 : Hid (CurR w7 b s (((r.dropWhile tkB).dropWhile eqB).dropWhile blankB) ∧ w.grownBy w7 (some b)) := ⟨HC6.out.1.below hb7, grown_trans HG1.out (grown_trans HC6.out.2 (grown_below hb7 _))⟩
      clear hb7
      go_wp2
      go_ret
      exact ⟨.inl ⟨t, _, HN, HT0.out.1, HT0.out.2, rfl, HC7.out.1⟩, HC7.out.2⟩
end Go.Proofs.YtlmfhbffknganaaGreatDoor

/- A challenge, and a row of challenges, that lie somewhere. -/
namespace Go.Proofs.YtlmfhbffknganaaGreatDoor
open Go.RowKit

/-- A challenge, and where its parameters lie. -/
structure ChV where
  x : Chal
  a : Option Addr
  cap : Nat
  b : Nat
  off : Nat
def ChV.len (c : ChV) : Nat := c.x.params.length
/-- Its parameters lie there. -/
def ChOk (w : World) (c : ChV) : Prop := Pars w c.a c.len c.b c.off c.x.params
/-- A row of challenges that lies somewhere. -/
structure Chals (w : World) (a0 : Option Addr) (len b off : Nat) (cs : List ChV) : Prop where
  len_eq : cs.length = len
  lies : 0 < len → a0 = some ⟨b, off, none⟩ ∧ b < w.heap.size
  one : ∀ (j : Nat) (c : ChV), cs[j]? = some c → w.cell? ⟨b, off + j * 3, none⟩ = some (.string c.x.scheme)
  two : ∀ (j : Nat) (c : ChV), cs[j]? = some c → w.cell? ⟨b, off + j * 3 + 1, none⟩ = some (.string c.x.token)
  three : ∀ (j : Nat) (c : ChV), cs[j]? = some c → w.cell? ⟨b, off + j * 3 + 2, none⟩ = some (.slice c.a c.len c.cap)
  pars : ∀ c ∈ cs, ChOk w c
theorem ChOk.below {w w' : World} {c : ChV} (h : ChOk w c) (hb : Below w.heap.size w w') : ChOk w' c := Pars.below h hb
theorem Chals.below {w w' : World} {a0 : Option Addr} {len b off : Nat} {cs : List ChV} (h : Chals w a0 len b off cs) (hb : Below w.heap.size w w') : Chals w' a0 len b off cs := by
  have hl : ∀ (j : Nat) (c : ChV), cs[j]? = some c → b < w.heap.size := fun j c hc => by
    have := (List.getElem?_eq_some_iff.1 hc).1
    have := h.len_eq
    exact (h.lies (by omega)).2
  exact ⟨h.len_eq, fun h0 => ⟨(h.lies h0).1, Nat.lt_of_lt_of_le (h.lies h0).2 hb.size⟩,
    fun j c hc => (hb.cell (p := ⟨b, off + j * 3, none⟩) (hl j c hc)).trans (h.one j c hc),
    fun j c hc => (hb.cell (p := ⟨b, off + j * 3 + 1, none⟩) (hl j c hc)).trans (h.two j c hc),
    fun j c hc => (hb.cell (p := ⟨b, off + j * 3 + 2, none⟩) (hl j c hc)).trans (h.three j c hc),
    fun c hc => (h.pars c hc).below hb⟩
def xsOf (cs : List ChV) : List Chal := cs.map (·.x)
theorem xsOf_at {cs : List ChV} {k : Nat} {c : ChV} (h : cs[k]? = some c) : (xsOf cs)[k]? = some c.x := by unfold xsOf; rw [List.getElem?_map, h]; rfl
end Go.Proofs.YtlmfhbffknganaaGreatDoor

/- The reader's challenge, by the program. -/
namespace Go.Proofs.YtlmfhbffknganaaGreatDoor
open Go.RowKit

/-- The reader's box, and the result's. -/
structure RdF (w wi : World) (b : Nat) (s : ByteArray) : Prop where
  rd0 : wi.cell? ⟨w.heap.size, 0, none⟩ = some (.pointer (some ⟨b, 0, none⟩))
  rd1 : wi.cell? ⟨w.heap.size, 1, none⟩ = some (.string s)
  res : wi.heap[w.heap.size + 1]? = some (.cells #[.string ⟨#[]⟩, .string ⟨#[]⟩, .slice none 0 0] 34 (0, 0))
theorem RdF.grown {w wi wj : World} {b : Nat} {s : ByteArray} {row : Option Nat} (h : RdF w wi b s) (hg : wi.grownBy wj row) (hr : ∀ k, row = some k → k ≠ w.heap.size ∧ k ≠ w.heap.size + 1) : RdF w wj b s := by
  have h1 : some w.heap.size ≠ row := fun e => (hr _ e.symm).1 rfl
  have h2 : some (w.heap.size + 1) ≠ row := fun e => (hr _ e.symm).2 rfl
  exact ⟨hg.cell h.rd0 h1, hg.cell h.rd1 h1, (hg.block _ (Array.getElem?_eq_some_iff.1 h.res).1 h2).trans h.res⟩
theorem res_cells {wi : World} {g : Nat} {v0 v1 v2 : Value} {T : TypeId} (h : wi.heap[g]? = some (.cells #[v0, v1, v2] T (0, 0))) :
    (wi.cell? ⟨g, 0, none⟩ = some v0 ∧ wi.cell? ⟨g, 1, none⟩ = some v1 ∧ wi.cell? ⟨g, 2, none⟩ = some v2) ∧ (wi.frozen? ⟨g, 0, none⟩ = false ∧ wi.frozen? ⟨g, 1, none⟩ = false ∧ wi.frozen? ⟨g, 2, none⟩ = false) := by
  refine ⟨⟨?_, ?_, ?_⟩, ?_, ?_, ?_⟩
  · simp [World.cell?, h]
  · simp [World.cell?, h]
  · simp [World.cell?, h]
  · simp [World.frozen?, h]
  · simp [World.frozen?, h]
  · simp [World.frozen?, h]
theorem set_one {wi : World} {g : Nat} {v0 v1 v2 : Value} {T : TypeId} (h : wi.heap[g]? = some (.cells #[v0, v1, v2] T (0, 0))) (x : Value) : (wi.setCell ⟨g, 1, none⟩ x).heap[g]? = some (.cells #[v0, x, v2] T (0, 0)) := by
  simp [World.setCell, Array.getElem?_modify, h]
theorem set_two {wi : World} {g : Nat} {v0 v1 v2 : Value} {T : TypeId} (h : wi.heap[g]? = some (.cells #[v0, v1, v2] T (0, 0))) (x : Value) : (wi.setCell ⟨g, 2, none⟩ x).heap[g]? = some (.cells #[v0, v1, x] T (0, 0)) := by
  simp [World.setCell, Array.getElem?_modify, h]
theorem set_zero {wi : World} {g : Nat} {v0 v1 v2 : Value} {T : TypeId} (h : wi.heap[g]? = some (.cells #[v0, v1, v2] T (0, 0))) (x : Value) : (wi.setCell ⟨g, 0, none⟩ x).heap[g]? = some (.cells #[x, v1, v2] T (0, 0)) := by
  simp [World.setCell, Array.getElem?_modify, h]
/-- All three cells of a block anew. -/
theorem set_all {wi : World} {g : Nat} {v0 v1 v2 : Value} {T : TypeId} (h : wi.heap[g]? = some (.cells #[v0, v1, v2] T (0, 0))) (x y z : Value) :
    (((wi.setCell ⟨g, 0, none⟩ x).setCell ⟨g, 1, none⟩ y).setCell ⟨g, 2, none⟩ z).heap[g]? = some (.cells #[x, y, z] T (0, 0)) ∧ wi.grownBy (((wi.setCell ⟨g, 0, none⟩ x).setCell ⟨g, 1, none⟩ y).setCell ⟨g, 2, none⟩ z) (some g) :=
  ⟨set_two (set_one (set_zero h x) y) z, grown_trans (grown_trans (grown_set _ g 0 x) (grown_set _ g 1 y)) (grown_set _ g 2 z)⟩
/-- What the reader's challenge answers. -/
def ChAns (b : Nat) (s : ByteArray) (ahead : Nat) (r : List UInt8) (B : Nat) (e : Ending) (w' : World) : Prop :=
  (∃ (c : ChV) (u : List UInt8), chalL ahead r = .ok (c.x, u) ∧ Small c.x.params ∧ c.x.scheme.size ≤ 3000 ∧ c.x.token.size ≤ 3000 ∧ e = .returned (.tuple #[.agg #[.string c.x.scheme, .string c.x.token, .slice c.a c.len c.cap], .nilIface]) ∧ OwnP w' B (.slice c.a c.len c.cap) c.x.params ∧ CurR w' b s u) ∨
  (∃ (n left : Nat) (v : Value) (q1 q2 : ByteArray), chalL ahead r = .error (n, left) ∧ e = .returned (.tuple #[.agg #[.string q1, .string q2, .slice none 0 0], v]) ∧ IsAt w' v B n ((s.size - left : Nat) : Int))
theorem grown_new {w0 w w' : World} {b g : Nat} (h : w0.grownBy w (some b)) (hg : w.grownBy w' (some g)) (hB : w0.heap.size ≤ g) : w0.grownBy w' (some b) := grown_other h hg (fun k e => by injection e with e; omega)
set_option maxRecDepth 100000 in
set_option maxHeartbeats 4000000 in
theorem challenge_any (b : Nat) (s : ByteArray) (hs : s.size ≤ 3000) (ahead : Nat) (hah : ahead ≤ 1000) (r : List UInt8) (w : World) (hc : CurR w b s r) :
    Calls Tryz.prog 37 #[.agg #[.pointer (some ⟨b, 0, none⟩), .string s], .int .i64 (ahead : Int)] w fun e w' => ChAns b s ahead r w.heap.size e w' ∧ w.grownBy w' (some b) := by
  have hbl := hc.lt
  have hrl := hc.len
  have hrun := runL_le tokB r
  have hB1 : Below w.heap.size w ((w.alloc (.cells #[.pointer (some ⟨b, 0, none⟩), .string s] 78)).alloc (.cells #[.string ⟨#[]⟩, .string ⟨#[]⟩, .slice none 0 0] 34)) := ((Below.refl _ _).alloc (Nat.le_refl _) _).alloc (by simp) _
  have hF0 : RdF w ((w.alloc (.cells #[.pointer (some ⟨b, 0, none⟩), .string s] 78)).alloc (.cells #[.string ⟨#[]⟩, .string ⟨#[]⟩, .slice none 0 0] 34)) b s := by
    have hz : (w.alloc (.cells #[.pointer (some ⟨b, 0, none⟩), .string s] 78)).heap.size = w.heap.size + 1 := by simp
    refine ⟨?_, ?_, ?_⟩
    · rw [World.cell?_alloc_lt _ _ ⟨w.heap.size, 0, none⟩ (by simp)]; exact World.cell?_alloc_mark _ _ _ _ _
    · rw [World.cell?_alloc_lt _ _ ⟨w.heap.size, 1, none⟩ (by simp)]; exact World.cell?_alloc_mark _ _ _ _ _
    · rw [← hz]; exact heap_alloc_new _ _
  generalize hW0 : ((w.alloc (.cells #[.pointer (some ⟨b, 0, none⟩), .string s] 78)).alloc (.cells #[.string ⟨#[]⟩, .string ⟨#[]⟩, .slice none 0 0] 34)) = W0 at hB1 hF0
  have HF0 : Hid (RdF w W0 b s) := hF0
  have HC0 : Hid (CurR W0 b s r ∧ w.grownBy W0 (some b) ∧ W0.heap.size = w.heap.size + 2) := ⟨hc.below hB1, grown_below hB1 _, by rw [← hW0]; simp⟩
  have hnb : ∀ k, some b = some k → k ≠ w.heap.size ∧ k ≠ w.heap.size + 1 := fun k e => by injection e with e; omega
  obtain ⟨k, HK⟩ : ∃ k, Hid (s.size - r.length = k) := ⟨_, rfl⟩
  have hat := rd_at b s r _ HC0.out.1
  rw [HK.out] at hat
  obtain ⟨hx0, hx1, _⟩ := hF0
  clear hc hB1
  go_enter Tryz.func37, Tryz.ntmps37
  go_upto_region 1 with fail
  clear hW0
  go_wp2_with (go_at_call 26; refine hat.mono ?_; rintro e w1 ⟨rfl, hw1⟩; obtain rfl := hw1.symm; clear hw1 hat)
  refine (rd_word b s hs r _ HC0.out.1).mono ?_
  rintro e w2 ⟨t, rfl, htz, HT, hc2, hg2⟩
  have hb3 : Below w2.heap.size w2 (w2.alloc (.cells #[.string t, .string ⟨#[]⟩, .slice none 0 0] 34)) := (Below.refl _ _).alloc (Nat.le_refl _) _
  have HC3 : Hid (CurR (w2.alloc (.cells #[.string t, .string ⟨#[]⟩, .slice none 0 0] 34)) b s (r.dropWhile tokB) ∧ w.grownBy (w2.alloc (.cells #[.string t, .string ⟨#[]⟩, .slice none 0 0] 34)) (some b) ∧ RdF w (w2.alloc (.cells #[.string t, .string ⟨#[]⟩, .slice none 0 0] 34)) b s ∧ (w2.alloc (.cells #[.string t, .string ⟨#[]⟩, .slice none 0 0] 34)).heap[w2.heap.size]? = some (.cells #[.string t, .string ⟨#[]⟩, .slice none 0 0] 34 (0, 0))) :=
    ⟨hc2.below hb3, grown_trans HC0.out.2.1 (grown_trans hg2 (grown_below hb3 _)), (HF0.out.grown hg2 (fun k e => hnb k e)).grown (grown_below hb3 none) (fun k e => by cases e), heap_alloc_new w2 _⟩
  have hgz : w.heap.size + 2 ≤ w2.heap.size := by have := hg2.size; have := HC0.out.2.2; omega
  have ht3 : t.size ≤ 3000 := by omega
  have HTZ : Hid (t.size = runL tokB r) := htz
  obtain ⟨g3, HG3⟩ : ∃ g3, Hid (w2.heap.size = g3) := ⟨_, rfl⟩
  clear hc2 hg2 hb3 hx0 hx1 htz
  by_cases h0 : r.takeWhile tokB = []
  · have HA : Hid (chalL ahead r = .error (3, r.length)) := by show _ = _; unfold chalL; rw [if_pos h0]
    have ht0 : t.size = 0 := by rw [HTZ.out]; unfold runL; rw [h0]; rfl
    obtain rfl : t = ⟨#[]⟩ := ByteArray.ext (Array.eq_empty_of_size_eq_zero ht0)
    clear h0
    go_wp2_with fail
    refine (wrong_any 3 k _).mono ?_
    rintro e w9 ⟨⟨g, rfl, hg0, hg1, hgB, hgl⟩, hbw⟩
    have HAT : Hid (IsAt w9 (.iface 73 (.pointer (some ⟨g, 0, none⟩))) (w2.alloc (.cells #[.string ⟨#[]⟩, .string ⟨#[]⟩, .slice none 0 0] 34)).heap.size 3 k) := ⟨g, rfl, hg0, hg1, hgB, hgl⟩
    have HGW : Hid (w.grownBy w9 (some b)) := grown_trans HC3.out.2.1 (grown_below hbw _)
    have HR9 : Hid (w9.heap[w.heap.size + 1]? = some (.cells #[.string ⟨#[]⟩, .string ⟨#[]⟩, .slice none 0 0] 34 (0, 0))) := (RdF.grown HC3.out.2.2.1 (grown_below hbw none) (fun k e => by cases e)).res
    have HLT : Hid (w.heap.size + 1 < (w2.alloc (.cells #[.string ⟨#[]⟩, .string ⟨#[]⟩, .slice none 0 0] 34)).heap.size) := (Array.getElem?_eq_some_iff.1 (RdF.res HC3.out.2.2.1)).1
    obtain ⟨⟨r0, r1, r2⟩, f0, f1, f2⟩ := res_cells HR9.out
    clear hg0 hg1 hbw
    go_wp2
    obtain ⟨z1, z2⟩ := set_all HR9.out (.string ⟨#[]⟩) (.string ⟨#[]⟩) (.slice none 0 0)
    obtain ⟨⟨e0, e1, e2⟩, _⟩ := res_cells z1
    exact bodyPost_ret (v := .tuple #[.agg #[.string ⟨#[]⟩, .string ⟨#[]⟩, .slice none 0 0], (.iface 73 (.pointer (some ⟨g, 0, none⟩)))]) (by simp [results, Tryz.f37, go_sem, e0, e1, e2]) rfl ⟨.inr ⟨_, _, _, _, _, HA.out, rfl, by rw [HK.out]; exact (HAT.out.grown z2 (fun k e => by injection e with e; have := HLT.out; omega)).mono (by have := HLT.out; omega)⟩, grown_new HGW.out z2 (by omega)⟩
  · have HN0 : Hid (r.takeWhile tokB ≠ []) := h0
    have hte : t.toList.isEmpty = false := by
      rw [HT.out, ByteArray.toList_eq, bs_data]
      cases h : r.takeWhile tokB with
      | nil => exact absurd h h0
      | cons x y => rfl
    clear h0
    by_cases h8 : (8 : Int) ≤ (ahead : Int)
    · have HA : Hid (chalL ahead r = .error (4, r.length)) := by show _ = _; unfold chalL; rw [if_neg HN0.out, if_pos (by omega)]
      go_wp2_with fail
      refine (wrong_any 4 k _).mono ?_
      rintro e w9 ⟨⟨g, rfl, hg0, hg1, hgB, hgl⟩, hbw⟩
      have HAT : Hid (IsAt w9 (.iface 73 (.pointer (some ⟨g, 0, none⟩))) (w2.alloc (.cells #[.string t, .string ⟨#[]⟩, .slice none 0 0] 34)).heap.size 4 k) := ⟨g, rfl, hg0, hg1, hgB, hgl⟩
      have HGW : Hid (w.grownBy w9 (some b)) := grown_trans HC3.out.2.1 (grown_below hbw _)
      have HR9 : Hid (w9.heap[w.heap.size + 1]? = some (.cells #[.string ⟨#[]⟩, .string ⟨#[]⟩, .slice none 0 0] 34 (0, 0))) := (RdF.grown HC3.out.2.2.1 (grown_below hbw none) (fun k e => by cases e)).res
      have HLT : Hid (w.heap.size + 1 < (w2.alloc (.cells #[.string t, .string ⟨#[]⟩, .slice none 0 0] 34)).heap.size) := (Array.getElem?_eq_some_iff.1 (RdF.res HC3.out.2.2.1)).1
      obtain ⟨⟨r0, r1, r2⟩, f0, f1, f2⟩ := res_cells HR9.out
      clear hg0 hg1 hbw
      go_wp2
      obtain ⟨z1, z2⟩ := set_all HR9.out (.string ⟨#[]⟩) (.string ⟨#[]⟩) (.slice none 0 0)
      obtain ⟨⟨e0, e1, e2⟩, _⟩ := res_cells z1
      exact bodyPost_ret (v := .tuple #[.agg #[.string ⟨#[]⟩, .string ⟨#[]⟩, .slice none 0 0], (.iface 73 (.pointer (some ⟨g, 0, none⟩)))]) (by simp [results, Tryz.f37, go_sem, e0, e1, e2]) rfl ⟨.inr ⟨_, _, _, _, _, HA.out, rfl, by rw [HK.out]; exact (HAT.out.grown z2 (fun k e => by injection e with e; have := HLT.out; omega)).mono (by have := HLT.out; omega)⟩, grown_new HGW.out z2 (by omega)⟩
    · have HA8 : Hid (¬ 8 ≤ ahead) := by show ¬ _; omega
      obtain ⟨hx0, hx1, _⟩ := HC3.out.2.2.1
      go_wp2_with fail
      refine (rd_blanks b s hs _ _ HC3.out.1).mono ?_
      rintro e w4 ⟨rfl, hc4, hg4⟩
      have HC4 : Hid (CurR w4 b s ((r.dropWhile tokB).dropWhile blankB) ∧ w.grownBy w4 (some b) ∧ RdF w w4 b s ∧ w4.heap[w2.heap.size]? = some (.cells #[.string t, .string ⟨#[]⟩, .slice none 0 0] 34 (0, 0))) :=
        ⟨hc4, grown_trans HC3.out.2.1 hg4, HC3.out.2.2.1.grown hg4 (fun k e => hnb k e), (hg4.block _ (by simp) (by intro e; injection e with e; omega)).trans HC3.out.2.2.2⟩
      clear hc4 hg4 hx0 hx1 HC3
      obtain ⟨hx0, hx1, _⟩ := HC4.out.2.2.1
      go_wp2_with fail
      refine (over_at b s _ _ HC4.out.1).mono ?_
      rintro e w5 ⟨rfl, hc5, hg5⟩
      have HC5 : Hid (CurR w5 b s ((r.dropWhile tokB).dropWhile blankB) ∧ w.grownBy w5 (some b) ∧ RdF w w5 b s ∧ w5.heap[w2.heap.size]? = some (.cells #[.string t, .string ⟨#[]⟩, .slice none 0 0] 34 (0, 0))) :=
        ⟨hc5, grown_trans HC4.out.2.1 hg5, HC4.out.2.2.1.grown hg5 (fun k e => hnb k e), (hg5.block _ (Array.getElem?_eq_some_iff.1 HC4.out.2.2.2).1 (by intro e; injection e with e; omega)).trans HC4.out.2.2.2⟩
      clear hc5 hg5 hx0 hx1 HC4
      obtain ⟨hx0, hx1, hres⟩ := HC5.out.2.2.1
      obtain ⟨⟨r0, r1, r2⟩, f0, f1, f2⟩ := res_cells hres
      obtain ⟨⟨b0, b1, b2⟩, n0, n1, n2⟩ := res_cells HC5.out.2.2.2
      have HRES : Hid (w5.heap[w.heap.size + 1]? = some (.cells #[.string ⟨#[]⟩, .string ⟨#[]⟩, .slice none 0 0] 34 (0, 0))) := hres
      clear hres
      obtain ⟨r2', HR2⟩ : ∃ r2', Hid ((r.dropWhile tokB).dropWhile blankB = r2') := ⟨_, rfl⟩
      cases hst : stopsL ((r.dropWhile tokB).dropWhile blankB)
      · by_cases hbk : 0 < runL blankB (r.dropWhile tokB)
        · have HIN : Hid (chalL ahead r = insideL t ((r.dropWhile tokB).dropWhile blankB)) := by
            show _ = _
            unfold chalL
            rw [if_neg HN0.out, if_neg HA8.out, if_neg (by rw [hst]; simp), if_neg (by omega), HT.out]
          rw [decide_eq_true hbk]
          clear hbk hst
          rw [HR2.out] at HIN HC5
          go_wp2_with fail
          refine (token_any b s hs _ _ HC5.out.1).mono ?_
          rintro e w6 ⟨htk, hg6⟩
          have HC6 : Hid (w.grownBy w6 (some b) ∧ RdF w w6 b s ∧ w6.heap[w2.heap.size]? = some (.cells #[.string t, .string ⟨#[]⟩, .slice none 0 0] 34 (0, 0))) :=
            ⟨grown_trans HC5.out.2.1 hg6, HC5.out.2.2.1.grown hg6 (fun k e => hnb k e), (hg6.block _ (Array.getElem?_eq_some_iff.1 HC5.out.2.2.2).1 (by intro e; injection e with e; omega)).trans HC5.out.2.2.2⟩
          clear hg6 hx0 hx1 r0 r1 r2 f0 f1 f2 b0 b1 b2 n0 n1 n2 HRES
          rcases htk with ⟨tk, u, hT, htk0, htk3, rfl, hc6⟩ | ⟨hT, rfl, hc6⟩
          · have HA : Hid (chalL ahead r = .ok (⟨t, tk, []⟩, u)) := by
              show _ = _
              rw [HIN.out]
              unfold insideL
              rw [hT]
            have hb7 := set_one HC6.out.2.2 (.string tk)
            have hg7 := grown_set w6 w2.heap.size 1 (.string tk)
            have HC7 : Hid (CurR (w6.setCell ⟨w2.heap.size, 1, none⟩ (.string tk)) b s u ∧ w.grownBy (w6.setCell ⟨w2.heap.size, 1, none⟩ (.string tk)) (some b) ∧ RdF w (w6.setCell ⟨w2.heap.size, 1, none⟩ (.string tk)) b s) :=
              ⟨hc6.grown hg7 (by intro e; injection e with e; omega), grown_new HC6.out.1 hg7 (by omega), HC6.out.2.1.grown hg7 (fun k e => by injection e with e; omega)⟩
            obtain ⟨⟨b0, b1, b2⟩, n0, n1, n2⟩ := res_cells HC6.out.2.2
            obtain ⟨⟨c0, c1, c2⟩, _, _, _⟩ := res_cells hb7
            obtain ⟨⟨r0, r1, r2⟩, f0, f1, f2⟩ := res_cells HC7.out.2.2.res
            have hke : tk.toList.isEmpty = false := by
              rw [ByteArray.toList_eq]
              cases h : tk.data.toList with
              | nil => exact absurd (by rw [← len_data, h]; rfl) htk0
              | cons x y => rfl
            clear hT hc6 hb7 hg7
            generalize hW7 : w6.setCell ⟨w2.heap.size, 1, none⟩ (.string tk) = W7 at HC7 c0 c1 c2 r0 r1 r2 f0 f1 f2
            go_wp2
            obtain ⟨z1, z2⟩ := set_all HC7.out.2.2.res (.string t) (.string tk) (.slice none 0 0)
            obtain ⟨⟨e0, e1, e2⟩, _⟩ := res_cells z1
            exact bodyPost_ret (v := .tuple #[.agg #[.string t, .string tk, .slice none 0 0], .nilIface]) (by simp [results, Tryz.f37, go_sem, e0, e1, e2]) rfl ⟨.inl ⟨⟨⟨t, tk, []⟩, none, 0, 0, 0⟩, _, HA.out, ⟨by simp, fun p hp => by cases hp⟩, ht3, htk3, rfl, ownP_nil _ _, HC7.out.1.grown z2 (by intro e; injection e with e; omega)⟩, grown_new HC7.out.2.1 z2 (by omega)⟩
          · have HIN2 : Hid (chalL ahead r = (paramsL (r2'.length + 1) [] r2').map fun x => (⟨t, ⟨#[]⟩, x.1⟩, x.2)) := by
              show _ = _
              rw [HIN.out]
              unfold insideL
              rw [hT]
            have hb7 := set_one HC6.out.2.2 (.string ⟨#[]⟩)
            have hg7 := grown_set w6 w2.heap.size 1 (.string ⟨#[]⟩)
            have HC7 : Hid (CurR (w6.setCell ⟨w2.heap.size, 1, none⟩ (.string ⟨#[]⟩)) b s r2' ∧ w.grownBy (w6.setCell ⟨w2.heap.size, 1, none⟩ (.string ⟨#[]⟩)) (some b) ∧ RdF w (w6.setCell ⟨w2.heap.size, 1, none⟩ (.string ⟨#[]⟩)) b s ∧ (w6.setCell ⟨w2.heap.size, 1, none⟩ (.string ⟨#[]⟩)).heap[w2.heap.size]? = some (.cells #[.string t, .string ⟨#[]⟩, .slice none 0 0] 34 (0, 0))) :=
              ⟨hc6.grown hg7 (by intro e; injection e with e; omega), grown_new HC6.out.1 hg7 (by omega), HC6.out.2.1.grown hg7 (fun k e => by injection e with e; omega), hb7⟩
            obtain ⟨⟨b0, b1, b2⟩, n0, n1, n2⟩ := res_cells HC6.out.2.2
            obtain ⟨⟨c0, c1, c2⟩, m0, m1, m2⟩ := res_cells hb7
            obtain ⟨hx0, hx1, _⟩ := HC7.out.2.2.1
            clear hT hc6 hb7 hg7 HIN
            generalize hW7 : w6.setCell ⟨w2.heap.size, 1, none⟩ (.string ⟨#[]⟩) = W7 at HC7 c0 c1 c2 m0 m1 m2 hx0 hx1
            go_wp2_with fail
            clear hW7
            refine (params_any b s hs _ _ HC7.out.1).mono ?_
            rintro e w8 ⟨hps, hg8⟩
            have hw7 : w2.heap.size < W7.heap.size := (Array.getElem?_eq_some_iff.1 HC7.out.2.2.2).1
            have HC8 : Hid (w.grownBy w8 (some b) ∧ RdF w w8 b s ∧ w8.heap[w2.heap.size]? = some (.cells #[.string t, .string ⟨#[]⟩, .slice none 0 0] 34 (0, 0))) :=
              ⟨grown_trans HC7.out.2.1 hg8, HC7.out.2.2.1.grown hg8 (fun k e => hnb k e), (hg8.block _ hw7 (by intro e; injection e with e; omega)).trans HC7.out.2.2.2⟩
            clear hg8 hx0 hx1 b0 b1 b2 n0 n1 n2 c0 c1 c2 m0 m1 m2
            rcases hps with ⟨ps, u, v, hP, hsm, rfl, hown, hc8⟩ | ⟨en, left, v, hP, rfl, hat8⟩
            · obtain ⟨a, cap, pg, rfl, _, _⟩ := hown.pars
              have HA : Hid (chalL ahead r = .ok (⟨t, ⟨#[]⟩, ps⟩, u)) := by
                show _ = _
                rw [HIN2.out, hP]
                rfl
              have hb9 := set_two HC8.out.2.2 (.slice a ps.length cap)
              have hg9 := grown_set w8 w2.heap.size 2 (.slice a ps.length cap)
              have HC9 : Hid (CurR (w8.setCell ⟨w2.heap.size, 2, none⟩ (.slice a ps.length cap)) b s u ∧ w.grownBy (w8.setCell ⟨w2.heap.size, 2, none⟩ (.slice a ps.length cap)) (some b) ∧ RdF w (w8.setCell ⟨w2.heap.size, 2, none⟩ (.slice a ps.length cap)) b s ∧ OwnP (w8.setCell ⟨w2.heap.size, 2, none⟩ (.slice a ps.length cap)) W7.heap.size (.slice a ps.length cap) ps) :=
                ⟨hc8.grown hg9 (by intro e; injection e with e; omega), grown_new HC8.out.1 hg9 (by omega), HC8.out.2.1.grown hg9 (fun k e => by injection e with e; omega), hown.grown hg9 hw7⟩
              obtain ⟨⟨b0, b1, b2⟩, n0, n1, n2⟩ := res_cells HC8.out.2.2
              obtain ⟨⟨c0, c1, c2⟩, m0, m1, m2⟩ := res_cells hb9
              obtain ⟨⟨r0, r1, r2⟩, f0, f1, f2⟩ := res_cells HC9.out.2.2.1.res
              have HSM : Hid (Small ps) := hsm
              clear hP hc8 hown hb9 hg9
              generalize hW9 : w8.setCell ⟨w2.heap.size, 2, none⟩ (.slice a ps.length cap) = W9 at HC9 c0 c1 c2 m0 m1 m2 r0 r1 r2 f0 f1 f2
              go_wp2
              clear hW9
              obtain ⟨z1, z2⟩ := set_all HC9.out.2.2.1.res (.string t) (.string ⟨#[]⟩) (.slice a ps.length cap)
              obtain ⟨⟨e0, e1, e2⟩, _⟩ := res_cells z1
              exact bodyPost_ret (v := .tuple #[.agg #[.string t, .string ⟨#[]⟩, .slice a ps.length cap], .nilIface]) (by simp [results, Tryz.f37, go_sem, e0, e1, e2]) rfl ⟨.inl ⟨⟨⟨t, ⟨#[]⟩, ps⟩, a, cap, 0, 0⟩, _, HA.out, HSM.out, ht3, Nat.zero_le _, rfl, World.ownsRow.mono (HC9.out.2.2.2.grown z2 (by omega)) (by omega), HC9.out.1.grown z2 (by intro e; injection e with e; omega)⟩, grown_new HC9.out.2.1 z2 (by omega)⟩
            · have HA : Hid (chalL ahead r = .error (en, left)) := by
                show _ = _
                rw [HIN2.out, hP]
                rfl
              obtain ⟨eg, rfl, eg0, eg1, egB, egl⟩ := hat8
              have hb9 := set_two HC8.out.2.2 (.slice none 0 0)
              have hg9 := grown_set w8 w2.heap.size 2 (.slice none 0 0)
              have HC9 : Hid (IsAt (w8.setCell ⟨w2.heap.size, 2, none⟩ (.slice none 0 0)) (.iface 73 (.pointer (some ⟨eg, 0, none⟩))) W7.heap.size en ((s.size - left : Nat) : Int) ∧ w.grownBy (w8.setCell ⟨w2.heap.size, 2, none⟩ (.slice none 0 0)) (some b) ∧ RdF w (w8.setCell ⟨w2.heap.size, 2, none⟩ (.slice none 0 0)) b s) :=
                ⟨IsAt.grown ⟨eg, rfl, eg0, eg1, egB, egl⟩ hg9 (fun k e => by injection e with e; omega), grown_new HC8.out.1 hg9 (by omega), HC8.out.2.1.grown hg9 (fun k e => by injection e with e; omega)⟩
              obtain ⟨⟨b0, b1, b2⟩, n0, n1, n2⟩ := res_cells HC8.out.2.2
              obtain ⟨⟨c0, c1, c2⟩, m0, m1, m2⟩ := res_cells hb9
              obtain ⟨⟨r0, r1, r2⟩, f0, f1, f2⟩ := res_cells HC9.out.2.2.res
              clear hP eg0 eg1 hb9 hg9
              generalize hW9 : w8.setCell ⟨w2.heap.size, 2, none⟩ (.slice none 0 0) = W9 at HC9 c0 c1 c2 m0 m1 m2 r0 r1 r2 f0 f1 f2
              go_wp2
              clear hW9
              obtain ⟨z1, z2⟩ := set_all HC9.out.2.2.res (.string t) (.string ⟨#[]⟩) (.slice none 0 0)
              obtain ⟨⟨e0, e1, e2⟩, _⟩ := res_cells z1
              exact bodyPost_ret (v := .tuple #[.agg #[.string t, .string ⟨#[]⟩, .slice none 0 0], .iface 73 (.pointer (some ⟨eg, 0, none⟩))]) (by simp [results, Tryz.f37, go_sem, e0, e1, e2]) rfl ⟨.inr ⟨en, left, _, _, _, HA.out, rfl, (HC9.out.1.grown z2 (fun k e => by injection e with e; omega)).mono (by omega)⟩, grown_new HC9.out.2.1 z2 (by omega)⟩
        · have HA : Hid (chalL ahead r = .error (3, ((r.dropWhile tokB).dropWhile blankB).length)) := by
            show _ = _
            unfold chalL
            rw [if_neg HN0.out, if_neg HA8.out, if_neg (by rw [hst]; simp), if_pos (by omega)]
          rw [decide_eq_false hbk]
          clear hbk hst
          have hat2 := rd_at b s _ _ HC5.out.1
          obtain ⟨k2, HK2⟩ : ∃ k2, Hid (s.size - ((r.dropWhile tokB).dropWhile blankB).length = k2) := ⟨_, rfl⟩
          rw [HK2.out] at hat2
          go_wp2_with (go_at_call 26; refine hat2.mono ?_; rintro e w1 ⟨rfl, hw1⟩; obtain rfl := hw1.symm; clear hw1 hat2)
          refine (wrong_any 3 k2 _).mono ?_
          rintro e w9 ⟨⟨g, rfl, hg0, hg1, hgB, hgl⟩, hbw⟩
          have HAT : Hid (IsAt w9 (.iface 73 (.pointer (some ⟨g, 0, none⟩))) (w5).heap.size 3 k2) := ⟨g, rfl, hg0, hg1, hgB, hgl⟩
          have HGW : Hid (w.grownBy w9 (some b)) := grown_trans HC5.out.2.1 (grown_below hbw _)
          have HR9 : Hid (w9.heap[w.heap.size + 1]? = some (.cells #[.string ⟨#[]⟩, .string ⟨#[]⟩, .slice none 0 0] 34 (0, 0))) := (RdF.grown HC5.out.2.2.1 (grown_below hbw none) (fun k e => by cases e)).res
          have HLT : Hid (w.heap.size + 1 < (w5).heap.size) := (Array.getElem?_eq_some_iff.1 (RdF.res HC5.out.2.2.1)).1
          clear hg0 hg1 hbw r0 r1 r2 f0 f1 f2 b0 b1 b2 n0 n1 n2 hx0 hx1
          obtain ⟨⟨r0, r1, r2⟩, f0, f1, f2⟩ := res_cells HR9.out
          go_wp2
          obtain ⟨z1, z2⟩ := set_all HR9.out (.string ⟨#[]⟩) (.string ⟨#[]⟩) (.slice none 0 0)
          obtain ⟨⟨e0, e1, e2⟩, _⟩ := res_cells z1
          exact bodyPost_ret (v := .tuple #[.agg #[.string ⟨#[]⟩, .string ⟨#[]⟩, .slice none 0 0], (.iface 73 (.pointer (some ⟨g, 0, none⟩)))]) (by simp [results, Tryz.f37, go_sem, e0, e1, e2]) rfl ⟨.inr ⟨_, _, _, _, _, HA.out, rfl, by rw [HK2.out]; exact (HAT.out.grown z2 (fun k e => by injection e with e; have := HLT.out; omega)).mono (by have := HLT.out; omega)⟩, grown_new HGW.out z2 (by omega)⟩
      · have HA : Hid (chalL ahead r = .ok (⟨t, ⟨#[]⟩, []⟩, (r.dropWhile tokB).dropWhile blankB)) := by
          show _ = _
          unfold chalL
          rw [if_neg HN0.out, if_neg HA8.out, if_pos hst, HT.out]
        go_wp2
        obtain ⟨z1, z2⟩ := set_all HRES.out (.string t) (.string ⟨#[]⟩) (.slice none 0 0)
        obtain ⟨⟨e0, e1, e2⟩, _⟩ := res_cells z1
        exact bodyPost_ret (v := .tuple #[.agg #[.string t, .string ⟨#[]⟩, .slice none 0 0], .nilIface]) (by simp [results, Tryz.f37, go_sem, e0, e1, e2]) rfl ⟨.inl ⟨⟨⟨t, ⟨#[]⟩, []⟩, none, 0, 0, 0⟩, _, HA.out, ⟨by simp, fun p hp => by cases hp⟩, ht3, Nat.zero_le _, rfl, ownP_nil _ _, HC5.out.1.grown z2 (by intro e; injection e with e; omega)⟩, grown_new HC5.out.2.1 z2 (by omega)⟩
end Go.Proofs.YtlmfhbffknganaaGreatDoor
