/- Texts of one claim, joined: each begins with what it proves. -/
import Derived.Test.YtoblpjknnchlmaaGreatDoorJo2
import Derived.Test.YtoblpjknnchlmaaGreatDoorJo1
import Derived.Deep.QuietTactic
import Derived.BigQuiet
import Derived.Shelf.Sort.Plain
import Derived.Shelf.Slices.CompactS
import Derived.Shelf.Slices.In.SortNone
import Derived.Sort.OwnSorted
import Derived.Lib.OwnBridge
import Derived.Deep.Draws
import Derived.Deep.LoopGhost
import Derived.Shelf.Strings.CaseAny
import Derived.Shelf.Strings.OnBuilder
/- Whether a type is one that a form of a page may send, and whether a header may be sent without asking, by the program. -/
namespace Go.Proofs.YtoblpjknnchlmaaGreatDoor
open Go.RowKit Go.Shelf

def formA : List UInt8 := [97, 112, 112, 108, 105, 99, 97, 116, 105, 111, 110, 47, 120, 45, 119, 119, 119, 45, 102, 111, 114, 109, 45, 117, 114, 108, 101, 110, 99, 111, 100, 101, 100]
def formB : List UInt8 := [109, 117, 108, 116, 105, 112, 97, 114, 116, 47, 102, 111, 114, 109, 45, 100, 97, 116, 97]
def formC : List UInt8 := [116, 101, 120, 116, 47, 112, 108, 97, 105, 110]
def kindL (l : List UInt8) : List UInt8 := (trimW (cutL 59 l).1).map low
/-- A type that a form of a page may send. -/
def formL (l : List UInt8) : Bool := kindL l == formA || (kindL l == formB || kindL l == formC)
set_option maxHeartbeats 1000000 in
theorem form_any (s : ByteArray) (hs : s.size ≤ 3000) (w : World) :
    Calls Tryz.prog 31 #[.string s] w fun e w' => e = .returned (.bool (formL s.data.toList)) ∧ Below w.heap.size w w' := by
  go_enter Tryz.func31, Tryz.ntmps31
  go_wp2_with fail
  refine (cut_any s 59 (by omega) _).mono ?_
  rintro e w1 ⟨a, b, f, rfl, ha, hb, HC, hb1⟩
  have HB1 : Hid (Below w.heap.size w w1) := hb1
  clear hb1
  go_wp2_with fail
  refine (trimBoth_any a (by omega) _).mono ?_
  rintro e w2 ⟨t, rfl, HT, ht, hb2⟩
  have HB2 : Hid (Below w.heap.size w w2) := HB1.out.trans (hb2.mono HB1.out.size)
  clear hb2
  obtain ⟨x, HX⟩ : ∃ x : ByteArray, Hid (bs (t.data.toList.map low) = x) := ⟨_, rfl⟩
  have HK : Hid (kindL s.data.toList = x.toList) := by
    show _ = _
    unfold kindL
    rw [HC.out, ← HT.out, ByteArray.toList_eq, ← HX.out, bs_data]
  go_wp2_with fail
  refine (lower_any t _ (by omega)).mono ?_
  rintro e w3 ⟨rfl, hb3⟩
  have HB3 : Hid (Below w.heap.size w w3) := HB2.out.trans (hb3.mono HB2.out.size)
  clear hb3
  rw [HX.out]
  have HF : Hid (formL s.data.toList = (x.toList == formA || (x.toList == formB || x.toList == formC))) := by
    show _ = _
    unfold formL
    rw [HK.out]
  unfold formA formB formC at HF
  go_wp2
  all_goals
    go_ret
    exact ⟨ret_bool (by rw [HF.out]; simp_all), HB3.out⟩
end Go.Proofs.YtoblpjknnchlmaaGreatDoor

/- Whether a header may be sent without asking, by the program. -/
namespace Go.Proofs.YtoblpjknnchlmaaGreatDoor
open Go.RowKit Go.Shelf

def nmA : List UInt8 := [97, 99, 99, 101, 112, 116]
def nmL : List UInt8 := [97, 99, 99, 101, 112, 116, 45, 108, 97, 110, 103, 117, 97, 103, 101]
def nmC : List UInt8 := [99, 111, 110, 116, 101, 110, 116, 45, 108, 97, 110, 103, 117, 97, 103, 101]
def nmT : List UInt8 := [99, 111, 110, 116, 101, 110, 116, 45, 116, 121, 112, 101]
/-- A header, of this name in small letters, that may be sent without asking. -/
def plainN (x v : List UInt8) : Bool := if x == nmA then v.all safeB else if x == nmL then v.all tongB else if x == nmC then v.all tongB else if x == nmT then v.all safeB && formL v else false
def plainL (n v : List UInt8) : Bool := decide (v.length ≤ 128) && plainN (n.map low) v
theorem two_at {w : World} {g : Nat} {v0 v1 : Value} {T : TypeId} (h : w.heap[g]? = some (.cells #[v0, v1] T (0, 0))) : w.cell? ⟨g, 0, none⟩ = some v0 ∧ w.cell? ⟨g, 1, none⟩ = some v1 ∧ ∀ j, w.frozen? ⟨g, j, none⟩ = false :=
  ⟨by simp [World.cell?, h], by simp [World.cell?, h], fun j => by simp [World.frozen?, h]⟩
set_option maxHeartbeats 4000000 in
theorem plain_any (n v : ByteArray) (hn : n.size ≤ 4000) (hv : v.size ≤ 140737488355328) (w : World) :
    Calls Tryz.prog 20 #[.agg #[.string n, .string v]] w fun e w' => e = .returned (.bool (plainL n.data.toList v.data.toList)) ∧ Below w.heap.size w w' := by
  have hlv : v.data.toList.length = v.size := Array.length_toList
  have hb0 : Below w.heap.size w (w.alloc (.cells #[.string n, .string v] 33)) := (Below.refl _ _).alloc (Nat.le_refl _) _
  by_cases hl : v.size ≤ 128
  · have hlz : ¬ (128 : Int) < (v.size : Int) := by omega
    obtain ⟨x, HX⟩ : ∃ x : ByteArray, Hid (bs (n.data.toList.map low) = x) := ⟨_, rfl⟩
    have HP : Hid (plainL n.data.toList v.data.toList = plainN x.toList v.data.toList) := by
      show _ = _
      unfold plainL
      rw [hlv, decide_eq_true hl, Bool.true_and, ByteArray.toList_eq, ← HX.out, bs_data]
    have HN : Hid (∀ w', Below (w.alloc (.cells #[.string n, .string v] 33)).heap.size (w.alloc (.cells #[.string n, .string v] 33)) w' → Below w.heap.size w w' ∧ w'.heap[w.heap.size]? = some (.cells #[.string n, .string v] 33 (0, 0))) := fun w' hb => ⟨hb0.trans (hb.mono (by simp)), (hb.block _ (by simp)).trans (heap_alloc_new w _)⟩
    clear hb0 hlv
    go_enter Tryz.func20, Tryz.ntmps20
    go_wp2_with fail
    refine (lower_any n _ (by omega)).mono ?_
    rintro e w1 ⟨rfl, hb1⟩
    have HB1 := HN.out _ hb1
    have HB : Hid (Below w.heap.size w w1) := HB1.1
    obtain ⟨x0, x1, _⟩ := two_at HB1.2
    rw [HX.out]
    clear hb1 HB1
    unfold plainN nmA nmL nmC nmT at HP
    cases a1 : (x.toList == [97, 99, 99, 101, 112, 116])
    rotate_left
    · have HQ : Hid (plainL n.data.toList v.data.toList = v.data.toList.all safeB) := by
        show _ = _
        rw [HP.out, a1]; rfl
      obtain ⟨b, HBB⟩ : ∃ b : Bool, Hid (v.data.toList.all safeB = b) := ⟨_, rfl⟩
      go_wp2_with fail
      refine (all_any _ _ kind_safe v (by omega) _).mono ?_
      rintro e w' ⟨rfl, hw⟩
      obtain rfl := hw.symm
      rw [HBB.out]
      go_wp2
      go_ret
      exact ⟨ret_bool (by rw [HQ.out, HBB.out]), HB.out⟩
    cases a2 : (x.toList == [97, 99, 99, 101, 112, 116, 45, 108, 97, 110, 103, 117, 97, 103, 101])
    rotate_left
    · have HQ : Hid (plainL n.data.toList v.data.toList = v.data.toList.all tongB) := by
        show _ = _
        rw [HP.out, a1, a2]; rfl
      obtain ⟨b, HBB⟩ : ∃ b : Bool, Hid (v.data.toList.all tongB = b) := ⟨_, rfl⟩
      go_wp2_with fail
      refine (all_any _ _ kind_tong v (by omega) _).mono ?_
      rintro e w' ⟨rfl, hw⟩
      obtain rfl := hw.symm
      rw [HBB.out]
      go_wp2
      go_ret
      exact ⟨ret_bool (by rw [HQ.out, HBB.out]), HB.out⟩
    cases a3 : (x.toList == [99, 111, 110, 116, 101, 110, 116, 45, 108, 97, 110, 103, 117, 97, 103, 101])
    rotate_left
    · have HQ : Hid (plainL n.data.toList v.data.toList = v.data.toList.all tongB) := by
        show _ = _
        rw [HP.out, a1, a2, a3]; rfl
      obtain ⟨b, HBB⟩ : ∃ b : Bool, Hid (v.data.toList.all tongB = b) := ⟨_, rfl⟩
      go_wp2_with fail
      refine (all_any _ _ kind_tong v (by omega) _).mono ?_
      rintro e w' ⟨rfl, hw⟩
      obtain rfl := hw.symm
      rw [HBB.out]
      go_wp2
      go_ret
      exact ⟨ret_bool (by rw [HQ.out, HBB.out]), HB.out⟩
    cases a4 : (x.toList == [99, 111, 110, 116, 101, 110, 116, 45, 116, 121, 112, 101])
    · have HQ : Hid (plainL n.data.toList v.data.toList = false) := by
        show _ = _
        rw [HP.out, a1, a2, a3, a4]; rfl
      go_wp2
      go_ret
      exact ⟨ret_bool (by rw [HQ.out]), HB.out⟩
    · have HQ : Hid (plainL n.data.toList v.data.toList = (v.data.toList.all safeB && formL v.data.toList)) := by
        show _ = _
        rw [HP.out, a1, a2, a3, a4]; rfl
      obtain ⟨b, HBB⟩ : ∃ b : Bool, Hid (v.data.toList.all safeB = b) := ⟨_, rfl⟩
      obtain ⟨d, HD⟩ : ∃ b : Bool, Hid (formL v.data.toList = b) := ⟨_, rfl⟩
      go_wp2_with fail
      refine (all_any _ _ kind_safe v (by omega) _).mono ?_
      rintro e w' ⟨rfl, hw⟩
      obtain rfl := hw.symm
      rw [HBB.out]
      cases b
      · go_wp2
        go_ret
        exact ⟨ret_bool (by rw [HQ.out, HBB.out]; rfl), HB.out⟩
      · go_wp2_with fail
        refine (form_any v (by omega) _).mono ?_
        rintro e w2 ⟨rfl, hb2⟩
        rw [HD.out]
        go_wp2
        go_ret
        exact ⟨ret_bool (by rw [HQ.out, HBB.out, HD.out]; rfl), HB.out.trans (hb2.mono HB.out.size)⟩
  · have hlz : (128 : Int) < (v.size : Int) := by omega
    have HP : Hid (plainL n.data.toList v.data.toList = false) := by
      show _ = _
      unfold plainL
      rw [hlv, decide_eq_false hl, Bool.false_and]
    go_enter Tryz.func20, Tryz.ntmps20
    go_wp2
    go_ret
    exact ⟨ret_bool (by rw [HP.out]), hb0⟩
end Go.Proofs.YtoblpjknnchlmaaGreatDoor

/- One text more at a row of texts that a call owns. -/
namespace Go.Proofs.YtoblpjknnchlmaaGreatDoor
open Go.RowKit

theorem info9 : (Tryz.prog.info? 9).map (fun i => (i.zero, i.size, i.bytes)) = some (some (.string ⟨#[]⟩), 1, 16) := by kernel_rfl
/-- A value of type []string that owns these texts, among the blocks from B on. -/
def OwnS (w : World) (B : Nat) (v : Value) (xs : List ByteArray) : Prop := w.ownsRow B 9 1 v xs.length (xs.map Value.string)
theorem OwnS.lt {w : World} {B : Nat} {v : Value} {xs : List ByteArray} (h : OwnS w B v xs) : ∀ k, v.ownBlock = some k → B ≤ k ∧ k < w.heap.size := World.ownsRow.lt h
theorem OwnS.grown {w w' : World} {B b : Nat} {v : Value} {xs : List ByteArray} (h : OwnS w B v xs) (hg : w.grownBy w' (some b)) (hb : b < B) : OwnS w' B v xs := by
  refine World.ownsRow.kept h hg (.inr ?_)
  intro e
  have := (h.lt b e).1
  omega
theorem OwnS.below {w w' : World} {B : Nat} {v : Value} {xs : List ByteArray} (h : OwnS w B v xs) (hb : Below w.heap.size w w') : OwnS w' B v xs := by
  refine World.ownsRow.kept (row := none) h ⟨hb.os, hb.tape, hb.output, hb.size, fun i hi _ => hb.block i hi⟩ ?_
  rcases v.ownBlock with _ | k
  · exact .inl rfl
  · exact .inr (by simp)
theorem ownS_nil (w : World) (B : Nat) : OwnS w B (.slice none 0 0) [] := ⟨rfl, .inl ⟨rfl, rfl⟩⟩
theorem wp_apps {ops : Array Oper} {rest : List Oper} {o : Oper} {a : Act} {Q : Exit → Act → World → Prop} (hgd : o.guard = none) (s x : Operand)
    (ho : o.op = .call { callee := .builtin .append, args := #[s, x], argTypes := #[40, 40] })
    (B : Nat) (wr : World) (v : Value) (xs : List ByteArray) (n : Nat) (hs : a.eval s = v) (hown : OwnS wr B v xs) (hn : xs.length = n) (hl : n ≤ 100000) (hB : B ≤ wr.heap.size)
    (t : ByteArray) (hx : a.eval x = .slice (some ⟨wr.heap.size, 0, none⟩) 1 1)
    (h : ∀ g cap w', OwnS w' B (.slice (some ⟨g, 0, none⟩) (n + 1) cap) (xs ++ [t]) → (wr.alloc (.cells #[.string t] 9)).grownBy w' v.ownBlock → g < w'.heap.size → wpList Tryz.prog ops Q rest (a.put o.dst (.slice (some ⟨g, 0, none⟩) (n + 1) cap)) w') :
    wpList Tryz.prog ops Q (o :: rest) a (wr.alloc (.cells #[.string t] 9)) := by
  subst hn
  obtain ⟨i0, hi0, hz0, hz1, hz2⟩ := info_parts info9
  refine wpList_append_lies _ hgd s x 40 ho B 9 i0 (.string ⟨#[]⟩) 1 16 Tryz.underlying40 hi0 hz0 hz1 hz2 rfl (by omega) v xs.length _ hs (World.ownsRow.alloc hown _) ⟨wr.heap.size, 0, none⟩ 1 1 [.string t] hx rfl
    (World.news_of_block (cs := #[.string t]) (t := 9) (fr := (0, 0)) (heap_alloc_new wr _)) (by simp [Value.oneCell']) (by omega) (by unfold maxLen; omega) (by omega) (by simp; omega) _ rfl ?_
  intro g cap w' hown1 hgrow _ hlt
  refine h g cap w' ?_ hgrow hlt
  unfold OwnS
  rw [List.length_append, List.map_append]
  exact hown1
end Go.Proofs.YtoblpjknnchlmaaGreatDoor

/- The library's contracts that are leant on, laid at this program's numbers. -/
namespace Go.Proofs.YtoblpjknnchlmaaGreatDoor
open Go.Shelf Go.RowKit
def lays190_ren : Go.Shelf.Ren := ⟨fun | 190 => 21 | 125 => 33 | 258 => 32 | 128 => 57 | 129 => 58 | 302 => 48 | 303 => 49 | 304 => 50 | 305 => 51 | 306 => 52 | 307 => 53 | 308 => 54 | 309 => 55 | 310 => 56 | 333 => 76 | 329 => 77 | 330 => 78 | 334 => 79 | 335 => 80 | 336 => 81 | 344 => 95 | n => n, fun | 31 => 40 | 9 => 9 | 3 => 3 | 46 => 54 | 0 => 0 | 51 => 84 | 53 => 86 | 4 => 4 | 183 => 77 | 182 => 76 | 131 => 81 | 5 => 5 | 218 => 101 | 222 => 105 | 228 => 117 | 229 => 118 | n => n, fun | n => n⟩
theorem lays190 : Go.Proofs.Lays.n190 Tryz.prog lays190_ren := {
  mixed := by kernel_rfl
  f125 := Tryz.func33.trans (congrArg some (by kernel_rfl))
  f128 := Tryz.func57.trans (congrArg some (by kernel_rfl))
  f129 := Tryz.func58.trans (congrArg some (by kernel_rfl))
  f190 := Tryz.func21.trans (congrArg some (by kernel_rfl))
  f258 := Tryz.func32.trans (congrArg some (by kernel_rfl))
  f302 := Tryz.func48.trans (congrArg some (by kernel_rfl))
  f303 := Tryz.func49.trans (congrArg some (by kernel_rfl))
  f304 := Tryz.func50.trans (congrArg some (by kernel_rfl))
  f305 := Tryz.func51.trans (congrArg some (by kernel_rfl))
  f306 := Tryz.func52.trans (congrArg some (by kernel_rfl))
  f307 := Tryz.func53.trans (congrArg some (by kernel_rfl))
  f308 := Tryz.func54.trans (congrArg some (by kernel_rfl))
  f309 := Tryz.func55.trans (congrArg some (by kernel_rfl))
  f310 := Tryz.func56.trans (congrArg some (by kernel_rfl))
  f329 := Tryz.func77.trans (congrArg some (by kernel_rfl))
  f330 := Tryz.func78.trans (congrArg some (by kernel_rfl))
  f333 := Tryz.func76.trans (congrArg some (by kernel_rfl))
  f334 := Tryz.func79.trans (congrArg some (by kernel_rfl))
  f335 := Tryz.func80.trans (congrArg some (by kernel_rfl))
  f336 := Tryz.func81.trans (congrArg some (by kernel_rfl))
  f344 := Tryz.func95.trans (congrArg some (by kernel_rfl))
  t0 := Tryz.underlying0
  a0 := Tryz.isAgg0
  z0 := Tryz.sizeOf0
  v0 := Tryz.zeroValue0
  t3 := Tryz.underlying3
  a3 := Tryz.isAgg3
  z3 := Tryz.sizeOf3
  v3 := Tryz.zeroValue3
  t4 := Tryz.underlying4
  a4 := Tryz.isAgg4
  z4 := Tryz.sizeOf4
  v4 := Tryz.zeroValue4
  t5 := Tryz.underlying5
  a5 := Tryz.isAgg5
  z5 := Tryz.sizeOf5
  v5 := Tryz.zeroValue5
  t9 := Tryz.underlying9
  a9 := Tryz.isAgg9
  z9 := Tryz.sizeOf9
  v9 := Tryz.zeroValue9
  t31 := Tryz.underlying40
  a31 := Tryz.isAgg40
  z31 := Tryz.sizeOf40
  v31 := Tryz.zeroValue40
  t46 := Tryz.underlying54
  a46 := Tryz.isAgg54
  z46 := Tryz.sizeOf54
  v46 := Tryz.zeroValue54
  t51 := Tryz.underlying84
  a51 := Tryz.isAgg84
  z51 := Tryz.sizeOf84
  v51 := Tryz.zeroValue84
  t53 := Tryz.underlying86
  a53 := Tryz.isAgg86
  z53 := Tryz.sizeOf86
  v53 := Tryz.zeroValue86
  t131 := Tryz.underlying81
  a131 := Tryz.isAgg81
  z131 := Tryz.sizeOf81
  v131 := Tryz.zeroValue81
  t182 := Tryz.underlying76
  a182 := Tryz.isAgg76
  z182 := Tryz.sizeOf76
  v182 := Tryz.zeroValue76
  t183 := Tryz.underlying77
  a183 := Tryz.isAgg77
  z183 := Tryz.sizeOf77
  v183 := Tryz.zeroValue77
  t218 := Tryz.underlying101
  a218 := Tryz.isAgg101
  z218 := Tryz.sizeOf101
  v218 := Tryz.zeroValue101
  t222 := Tryz.underlying105
  a222 := Tryz.isAgg105
  z222 := Tryz.sizeOf105
  v222 := Tryz.zeroValue105
  t228 := Tryz.underlying117
  a228 := Tryz.isAgg117
  z228 := Tryz.sizeOf117
  v228 := Tryz.zeroValue117
  t229 := Tryz.underlying118
  a229 := Tryz.isAgg118
  z229 := Tryz.sizeOf118
  v229 := Tryz.zeroValue118 }
def lays194_ren : Go.Shelf.Ren := ⟨fun | 194 => 22 | n => n, fun | 31 => 40 | 9 => 9 | 3 => 3 | 4 => 4 | 0 => 0 | n => n, fun | n => n⟩
theorem lays194 : Go.Proofs.Lays.n194 Tryz.prog lays194_ren := {
  mixed := by kernel_rfl
  f194 := Tryz.func22.trans (congrArg some (by kernel_rfl))
  t0 := Tryz.underlying0
  a0 := Tryz.isAgg0
  z0 := Tryz.sizeOf0
  v0 := Tryz.zeroValue0
  t3 := Tryz.underlying3
  a3 := Tryz.isAgg3
  z3 := Tryz.sizeOf3
  v3 := Tryz.zeroValue3
  t4 := Tryz.underlying4
  a4 := Tryz.isAgg4
  z4 := Tryz.sizeOf4
  v4 := Tryz.zeroValue4
  t9 := Tryz.underlying9
  a9 := Tryz.isAgg9
  z9 := Tryz.sizeOf9
  v9 := Tryz.zeroValue9
  t31 := Tryz.underlying40
  a31 := Tryz.isAgg40
  z31 := Tryz.sizeOf40
  v31 := Tryz.zeroValue40 }
end Go.Proofs.YtoblpjknnchlmaaGreatDoor

/- Texts sorted, each once, by the library, at rows that a call owns. -/
namespace Go.Proofs.YtoblpjknnchlmaaGreatDoor
open Go.RowKit Go.Shelf Go.Sort

def tx (xs : List ByteArray) : List (List UInt8) := xs.map (·.data.toList)
def sortL (ss : List (List UInt8)) : List (List UInt8) := ss.mergeSort fun x y => decide (x ≤ y)
theorem tx_bs (ss : List (List UInt8)) : tx (ss.map bs) = ss := by
  unfold tx
  rw [List.map_map]
  conv => rhs; rw [← List.map_id ss]
  apply List.map_congr_left
  intro x _
  exact bs_data x
theorem bs_tx (xs : List ByteArray) : (tx xs).map bs = xs := by
  unfold tx
  rw [List.map_map]
  conv => rhs; rw [← List.map_id xs]
  apply List.map_congr_left
  intro x _
  exact bs_self x
theorem enc_bs (ss : List (List UInt8)) : ss.map Proofs.encStr = (ss.map bs).map Value.string := by
  have := Lib.map_encStr (ss.map bs)
  rw [show (ss.map bs).map (·.data.toList) = ss from tx_bs ss] at this
  exact this
theorem sortL_len (ss : List (List UInt8)) : (sortL ss).length = ss.length := List.length_mergeSort ss
theorem sortL_perm (ss : List (List UInt8)) : (sortL ss).Perm ss := List.mergeSort_perm ss _
theorem le_total' (a b : List UInt8) : (decide (a ≤ b) || decide (b ≤ a)) = true := by
  rcases List.le_total a b with h | h
  · simp [h]
  · simp [h]
theorem sortL_sorted (ss : List (List UInt8)) : (sortL ss).Pairwise fun a b => a ≤ b := by
  have h := List.pairwise_mergeSort (le := fun x y : List UInt8 => decide (x ≤ y)) (fun a b c h1 h2 => decide_eq_true (List.le_trans (of_decide_eq_true h1) (of_decide_eq_true h2))) le_total' ss
  exact h.imp fun h => of_decide_eq_true h
theorem sortL_of_perm {a b : List (List UInt8)} (h : a.Perm b) : sortL a = sortL b :=
  List.Perm.eq_of_pairwise (le := fun a b => a ≤ b) (fun _ _ _ _ h1 h2 => List.le_antisymm h1 h2) (sortL_sorted a) (sortL_sorted b) ((sortL_perm a).trans (h.trans (sortL_perm b).symm))
theorem OwnS.enc {w : World} {B : Nat} {v : Value} {xs : List ByteArray} (h : OwnS w B v xs) : w.ownsRow B 9 1 v xs.length ((tx xs).map Proofs.encStr) := by
  rw [enc_bs, bs_tx]
  exact h
set_option maxHeartbeats 1000000 in
theorem sort_own (w : World) (B : Nat) (v : Value) (xs : List ByteArray) (h : OwnS w B v xs) (hl : xs.length ≤ 1000000) :
    Calls Tryz.prog 21 #[v] w fun e w' => e = .returned (.tuple #[]) ∧ OwnS w' B v ((sortL (tx xs)).map bs) ∧ w.grownBy w' v.ownBlock := by
  have henc := h.enc
  have hlen : (tx xs).length = xs.length := by unfold tx; simp
  rcases henc.2 with ⟨rfl, h0⟩ | ⟨g, cap, cur, rfl, hbase, hb, h1, h2, h3, h4⟩
  · obtain rfl : xs = [] := List.eq_nil_of_length_eq_zero h0
    refine (Any.slices_Sort_string_none lays190 none 0 w).mono ?_
    rintro e w' ⟨rfl, rfl⟩
    refine ⟨rfl, ?_, ⟨rfl, rfl, rfl, Nat.le_refl _, fun _ _ _ => rfl⟩⟩
    have : sortL (tx []) = [] := by unfold tx sortL; simp
    rw [this]
    exact h
  · have hH : Holds Proofs.encStr w g 0 (tx xs).toArray := holds_of_block hb (by rw [hlen]; rw [Nat.mul_one] at h4; exact h4)
    have hs := Any.slices_Sort_string lays190 g 0 cap (tx xs) w hH (Array.getElem?_eq_some_iff.1 hb).1 (by rw [hlen]; omega)
    rw [hlen] at hs
    refine hs.mono ?_
    rintro e w' ⟨rfl, n, os, rfl⟩
    refine ⟨rfl, ?_, grownBy_sorted _⟩
    have ho := ownsRow_sorted (n := n) (os := os) (ss := tx xs) (ts := sortL (tx xs)) (sortL_len _) hbase hb (by rw [hlen]; exact h1) h2 h3
    rw [enc_bs, hlen] at ho
    unfold OwnS
    rw [List.length_map, sortL_len, hlen]
    exact ho
theorem compact_len (ss : List (List UInt8)) : (Lib.compact ss).length ≤ ss.length := Lib.compact_length_le ss
set_option maxHeartbeats 1000000 in
theorem compact_own (w : World) (B : Nat) (v : Value) (xs : List ByteArray) (h : OwnS w B v xs) (hl : xs.length ≤ 1000000) :
    Calls Tryz.prog 22 #[v] w fun e w' => (∃ v', e = .returned v' ∧ OwnS w' B v' ((Lib.compact (tx xs)).map bs)) ∧ w.grownBy w' v.ownBlock := by
  have henc := h.enc
  have hlen : (tx xs).length = xs.length := by unfold tx; simp
  rcases henc.2 with ⟨rfl, h0⟩ | ⟨g, cap, cur, rfl, hbase, hb, h1, h2, h3, h4⟩
  · obtain rfl : xs = [] := List.eq_nil_of_length_eq_zero h0
    refine (Any.slices_Compact_string_empty lays194 none 0 w).mono ?_
    rintro e w' ⟨rfl, rfl⟩
    refine ⟨⟨_, rfl, ?_⟩, ⟨rfl, rfl, rfl, Nat.le_refl _, fun _ _ _ => rfl⟩⟩
    have : Lib.compact (tx []) = [] := by unfold tx; rfl
    rw [this]
    exact h
  · have hH : Holds Proofs.encStr w g 0 (tx xs).toArray := holds_of_block hb (by rw [hlen]; rw [Nat.mul_one] at h4; exact h4)
    have hs := Any.slices_Compact_string lays194 g 0 cap (tx xs) w hH (by rw [hlen]; omega) (by rw [hlen]; exact h1)
    rw [hlen] at hs
    have hcl := compact_len (tx xs)
    refine hs.mono ?_
    rintro e w' ⟨rfl, q, rfl⟩
    refine ⟨⟨_, rfl, ?_⟩, ?_⟩
    · have ho := Lib.ownsRow_putRow (q := q) (k := (Lib.compact (tx xs)).length) (ys := Lib.compact (tx xs) ++ List.replicate (xs.length - (Lib.compact (tx xs)).length) []) henc (by simp; omega) (by omega)
      rw [List.take_left, enc_bs] at ho
      unfold OwnS
      rw [List.length_map]
      exact ho
    · refine ⟨rfl, rfl, rfl, by simp [putRow, mapBlock, Sort.ahead], fun k hk hne => ?_⟩
      have : g ≠ k := fun e => hne (by rw [e]; rfl)
      simp [putRow, mapBlock, Sort.ahead, Array.getElem?_modify, this]
end Go.Proofs.YtoblpjknnchlmaaGreatDoor

/- Rows of parameters that lie somewhere. -/
namespace Go.Proofs.YtoblpjknnchlmaaGreatDoor
open Go.RowKit

/-- A row of parameters that lies somewhere. -/
structure Pars (w : World) (a0 : Option Addr) (len b off : Nat) (ps : List Par) : Prop where
  len_eq : ps.length = len
  lies : 0 < len → a0 = some ⟨b, off, none⟩ ∧ b < w.heap.size
  one : ∀ (j : Nat) (p : Par), ps[j]? = some p → w.cell? ⟨b, off + j * 2, none⟩ = some (.string p.1)
  two : ∀ (j : Nat) (p : Par), ps[j]? = some p → w.cell? ⟨b, off + j * 2 + 1, none⟩ = some (.string p.2)
theorem Pars.grown {w w' : World} {a0 : Option Addr} {len b off : Nat} {ps : List Par} {row : Option Nat} (h : Pars w a0 len b off ps) (hg : w.grownBy w' row) (hr : 0 < len → some b ≠ row) : Pars w' a0 len b off ps := by
  have hpos : ∀ (j : Nat) (p : Par), ps[j]? = some p → 0 < len := fun j p hp => by
    have := (List.getElem?_eq_some_iff.1 hp).1
    have := h.len_eq
    omega
  exact ⟨h.len_eq, fun h0 => ⟨(h.lies h0).1, Nat.lt_of_lt_of_le (h.lies h0).2 hg.size⟩, fun j p hp => hg.cell (h.one j p hp) (hr (hpos j p hp)), fun j p hp => hg.cell (h.two j p hp) (hr (hpos j p hp))⟩
theorem Pars.below {w w' : World} {a0 : Option Addr} {len b off : Nat} {ps : List Par} (h : Pars w a0 len b off ps) (hb : Below w.heap.size w w') : Pars w' a0 len b off ps :=
  h.grown (row := none) ⟨hb.os, hb.tape, hb.output, hb.size, fun i hi _ => hb.block i hi⟩ (fun _ => by simp)
theorem Pars.belowB {w w' : World} {a0 : Option Addr} {len b off : Nat} {ps : List Par} {B : Nat} (h : Pars w a0 len b off ps) (hb : Below B w w') (hB : 0 < len → b < B) : Pars w' a0 len b off ps := by
  have hpos : ∀ (j : Nat) (p : Par), ps[j]? = some p → b < B := fun j p hp => by
    have := (List.getElem?_eq_some_iff.1 hp).1
    have := h.len_eq
    exact hB (by omega)
  exact ⟨h.len_eq, fun h0 => ⟨(h.lies h0).1, Nat.lt_of_lt_of_le (h.lies h0).2 hb.size⟩, fun j p hp => (hb.cell (p := ⟨b, off + j * 2, none⟩) (hpos j p hp)).trans (h.one j p hp), fun j p hp => (hb.cell (p := ⟨b, off + j * 2 + 1, none⟩) (hpos j p hp)).trans (h.two j p hp)⟩
end Go.Proofs.YtoblpjknnchlmaaGreatDoor

/- Rows of texts that lie somewhere. -/
namespace Go.Proofs.YtoblpjknnchlmaaGreatDoor
open Go.RowKit

/-- A row of texts that lies somewhere. -/
structure Strs (w : World) (a0 : Option Addr) (len b off : Nat) (xs : List ByteArray) : Prop where
  len_eq : xs.length = len
  lies : 0 < len → a0 = some ⟨b, off, none⟩ ∧ b < w.heap.size
  cells : ∀ (j : Nat) (x : ByteArray), xs[j]? = some x → w.cell? ⟨b, off + j, none⟩ = some (.string x)
theorem Strs.below {w w' : World} {a0 : Option Addr} {len b off : Nat} {xs : List ByteArray} (h : Strs w a0 len b off xs) (hb : Below w.heap.size w w') : Strs w' a0 len b off xs := by
  refine ⟨h.len_eq, fun h0 => ⟨(h.lies h0).1, Nat.lt_of_lt_of_le (h.lies h0).2 hb.size⟩, fun j x hx => ?_⟩
  have hj := (List.getElem?_eq_some_iff.1 hx).1
  have hl := h.len_eq
  rw [hb.cell (p := ⟨b, off + j, none⟩) (h.lies (by omega)).2]
  exact h.cells j x hx
theorem OwnS.strs {w : World} {B : Nat} {v : Value} {xs : List ByteArray} (h : OwnS w B v xs) : ∃ (a : Option Addr) (cap g : Nat), v = .slice a xs.length cap ∧ Strs w a xs.length g 0 xs := by
  rcases h.2 with ⟨rfl, h0⟩ | ⟨g, cap, cur, rfl, _, hh, _, _, _, ht⟩
  · refine ⟨none, 0, 0, by rw [h0], rfl, fun h1 => absurd h0 (by omega), fun j x hx => ?_⟩
    have := (List.getElem?_eq_some_iff.1 hx).1
    omega
  · refine ⟨_, cap, g, rfl, rfl, fun _ => ⟨rfl, ?_⟩, fun j x hx => ?_⟩
    · rcases Nat.lt_or_ge g w.heap.size with h1 | h1
      · exact h1
      · simp [Array.getElem?_eq_none h1] at hh
    · have hj := World.ownsRow.cells h (g := g) rfl j (.string x) (by rw [List.getElem?_map, hx]; rfl)
      rw [WideShapes.add_plain] at hj
      exact hj
theorem Strs.drewN {w : World} {a0 : Option Addr} {len b off : Nat} {xs : List ByteArray} (h : Strs w a0 len b off xs) (n : Nat) : Strs (w.drewN n) a0 len b off xs := ⟨h.len_eq, h.lies, h.cells⟩
end Go.Proofs.YtoblpjknnchlmaaGreatDoor

/- Which headers must be asked for, by the program. -/
namespace Go.Proofs.YtoblpjknnchlmaaGreatDoor
open Go.RowKit

/-- Two rows of texts, each in blocks of its own. -/
structure Two (w : World) (B : Nat) (u v : Value) (xs ys : List ByteArray) : Prop where
  one : OwnS w B u xs
  two : OwnS w B v ys
  apart : ∀ k, u.ownBlock = some k → v.ownBlock ≠ some k
theorem Two.swap {w : World} {B : Nat} {u v : Value} {xs ys : List ByteArray} (h : Two w B u v xs ys) : Two w B v u ys xs := ⟨h.two, h.one, fun k h1 h2 => h.apart k h2 h1⟩
theorem Two.below {w w' : World} {B : Nat} {u v : Value} {xs ys : List ByteArray} (h : Two w B u v xs ys) (hb : Below w.heap.size w w') : Two w' B u v xs ys := ⟨h.one.below hb, h.two.below hb, h.apart⟩
theorem OwnS.other {w w' : World} {B : Nat} {u v : Value} {xs : List ByteArray} (h : OwnS w B v xs) (hg : w.grownBy w' u.ownBlock) (ha : ∀ k, u.ownBlock = some k → v.ownBlock ≠ some k) : OwnS w' B v xs := by
  rcases hu : u.ownBlock with _ | k
  · rw [hu] at hg
    refine World.ownsRow.kept h hg ?_
    rcases v.ownBlock with _ | j
    · exact .inl rfl
    · exact .inr (by simp)
  · rw [hu] at hg
    exact World.ownsRow.kept h hg (.inr (ha k hu))
/-- One text more at the first of two rows. -/
theorem wp_app2 {ops : Array Oper} {rest : List Oper} {o : Oper} {a : Act} {Q : Exit → Act → World → Prop} (hgd : o.guard = none) (s x : Operand)
    (ho : o.op = .call { callee := .builtin .append, args := #[s, x], argTypes := #[40, 40] })
    (B : Nat) (wr : World) (u v : Value) (xs ys : List ByteArray) (n : Nat) (hs : a.eval s = u) (hown : Two wr B u v xs ys) (hn : xs.length = n) (hl : n ≤ 100000) (hB : B ≤ wr.heap.size)
    (t : ByteArray) (hx : a.eval x = .slice (some ⟨wr.heap.size, 0, none⟩) 1 1)
    (h : ∀ g cap w', Two w' B (.slice (some ⟨g, 0, none⟩) (n + 1) cap) v (xs ++ [t]) ys → Below B wr w' → (∀ j, j < wr.heap.size → u.ownBlock ≠ some j → w'.heap[j]? = wr.heap[j]?) → wpList Tryz.prog ops Q rest (a.put o.dst (.slice (some ⟨g, 0, none⟩) (n + 1) cap)) w') :
    wpList Tryz.prog ops Q (o :: rest) a (wr.alloc (.cells #[.string t] 9)) := by
  subst hn
  obtain ⟨i0, hi0, hz0, hz1, hz2⟩ := info_parts info9
  refine wpList_append_lies _ hgd s x 40 ho B 9 i0 (.string ⟨#[]⟩) 1 16 Tryz.underlying40 hi0 hz0 hz1 hz2 rfl (by omega) u xs.length _ hs (World.ownsRow.alloc hown.one _) ⟨wr.heap.size, 0, none⟩ 1 1 [.string t] hx rfl
    (World.news_of_block (cs := #[.string t]) (t := 9) (fr := (0, 0)) (heap_alloc_new wr _)) (by simp [Value.oneCell']) (by omega) (by unfold maxLen; omega) (by omega) (by simp; omega) _ rfl ?_
  intro g cap w' hown1 hgrow hgw hlt
  have hb0 : Below wr.heap.size wr (wr.alloc (.cells #[.string t] 9)) := (Below.refl _ _).alloc (Nat.le_refl _) _
  refine h g cap w' ⟨?_, ?_, ?_⟩ ?_ ?_
  · unfold OwnS
    rw [List.length_append, List.map_append]
    exact hown1
  · exact (hown.two.below hb0).other hgrow hown.apart
  · intro k hk hvk
    have hkg : g = k := by simpa [Value.ownBlock] using hk
    subst hkg
    rcases hgw with e | e
    · exact hown.apart g e hvk
    · have := (hown.two.lt g hvk).2
      simp at e
      omega
  · exact ((Below.refl B wr).alloc hB _).grown hgrow (by simp; omega) (fun k hk => (hown.one.lt k hk).1)
  · intro j hj hne
    exact (hgrow.block j (by simp; omega) (fun e => hne e.symm)).trans (hb0.block j hj)
/-- All texts of the second row behind those of the first. -/
theorem wp_appAll {ops : Array Oper} {rest : List Oper} {o : Oper} {a : Act} {Q : Exit → Act → World → Prop} (hgd : o.guard = none) (s x : Operand)
    (ho : o.op = .call { callee := .builtin .append, args := #[s, x], argTypes := #[40, 40] })
    (B : Nat) (wr : World) (u v : Value) (xs ys : List ByteArray) (n m : Nat) (hs : a.eval s = u) (hx : a.eval x = v) (hown : Two wr B u v xs ys) (hn : xs.length = n) (hm : ys.length = m) (h0 : 0 < m) (hl : n + m ≤ 100000) (hB : B ≤ wr.heap.size)
    (h : ∀ g cap w', OwnS w' B (.slice (some ⟨g, 0, none⟩) (n + m) cap) (xs ++ ys) → Below B wr w' → wpList Tryz.prog ops Q rest (a.put o.dst (.slice (some ⟨g, 0, none⟩) (n + m) cap)) w') :
    wpList Tryz.prog ops Q (o :: rest) a wr := by
  subst hn hm
  obtain ⟨i0, hi0, hz0, hz1, hz2⟩ := info_parts info9
  rcases hown.two.2 with ⟨_, e⟩ | ⟨gv, cv, cur, rfl, hbv, hhv, h1, h2, h3, h4⟩
  · omega
  · refine wpList_append_lies _ hgd s x 40 ho B 9 i0 (.string ⟨#[]⟩) 1 16 Tryz.underlying40 hi0 hz0 hz1 hz2 rfl (by omega) u xs.length _ hs hown.one ⟨gv, 0, none⟩ ys.length cv (ys.map Value.string) hx (by simp)
      (fun j q hj => World.ownsRow.cells hown.two (g := gv) rfl j q hj) (fun q hq => by obtain ⟨b, _, rfl⟩ := List.mem_map.1 hq; rfl) h0 (by unfold maxLen; omega) (by omega) hB _ rfl ?_
    intro g cap w' hown1 hgrow hgw hlt
    refine h g cap w' ?_ ((Below.refl B wr).grown hgrow hB (fun k hk => (hown.one.lt k hk).1))
    unfold OwnS
    rw [List.length_append, List.map_append]
    exact hown1
def lowN (p : Par) : ByteArray := bs (p.1.data.toList.map low)
def plain8 (p : Par) : Bool := plainL p.1.data.toList p.2.data.toList
/-- The names of those that aren't plain, and of those that are, in their order; how many bytes of values the latter have. -/
def notPlain (ps : List Par) : List ByteArray := (ps.filter fun p => !plain8 p).map lowN
def arePlain (ps : List Par) : List ByteArray := (ps.filter fun p => plain8 p).map lowN
def together (ps : List Par) : Nat := ((ps.filter fun p => plain8 p).map fun p => p.2.size).sum
def askedNames (ps : List Par) : List ByteArray := if 1024 < together ps then notPlain ps ++ arePlain ps else notPlain ps
def askedL (ps : List Par) : List ByteArray := (Lib.compact (sortL (tx (askedNames ps)))).map bs
theorem take_next (ps : List Par) (k : Nat) (p : Par) (h : ps[k]? = some p) : ps.take (k + 1) = ps.take k ++ [p] := by
  obtain ⟨hk, e⟩ := List.getElem?_eq_some_iff.1 h
  rw [List.take_succ_eq_append_getElem hk, e]
theorem notPlain_yes (ps : List Par) (k : Nat) (p : Par) (h : ps[k]? = some p) (hp : plain8 p = true) : notPlain (ps.take (k + 1)) = notPlain (ps.take k) ∧ arePlain (ps.take (k + 1)) = arePlain (ps.take k) ++ [lowN p] ∧ together (ps.take (k + 1)) = together (ps.take k) + p.2.size := by
  unfold notPlain arePlain together
  rw [take_next ps k p h]
  simp [List.filter_append, hp]
theorem notPlain_no (ps : List Par) (k : Nat) (p : Par) (h : ps[k]? = some p) (hp : plain8 p = false) : notPlain (ps.take (k + 1)) = notPlain (ps.take k) ++ [lowN p] ∧ arePlain (ps.take (k + 1)) = arePlain (ps.take k) ∧ together (ps.take (k + 1)) = together (ps.take k) := by
  unfold notPlain arePlain together
  rw [take_next ps k p h]
  simp [List.filter_append, hp]
theorem sum_le (l : List Nat) (m : Nat) (h : ∀ x ∈ l, x ≤ m) : l.sum ≤ l.length * m := by
  induction l with
  | nil => simp
  | cons a t ih =>
    have h1 := h a (by simp)
    have h2 := ih (fun x hx => h x (by simp [hx]))
    rw [List.sum_cons, List.length_cons, Nat.succ_mul]
    omega
theorem plain_short (p : Par) (h : plain8 p = true) : p.2.size ≤ 128 := by
  unfold plain8 plainL at h
  rw [Bool.and_eq_true] at h
  have := of_decide_eq_true h.1
  have e : p.2.data.toList.length = p.2.size := Array.length_toList
  omega
theorem together_le (ps : List Par) : together ps ≤ ps.length * 128 := by
  unfold together
  refine Nat.le_trans (sum_le _ 128 ?_) (Nat.mul_le_mul_right _ ?_)
  · intro x hx
    obtain ⟨p, hp, rfl⟩ := List.mem_map.1 hx
    exact plain_short p (by simpa using (List.mem_filter.1 hp).2)
  · rw [List.length_map]; exact List.length_filter_le _ _
theorem lens_le (ps : List Par) : (notPlain ps).length + (arePlain ps).length = ps.length := by
  unfold notPlain arePlain
  rw [List.length_map, List.length_map]
  induction ps with
  | nil => rfl
  | cons p r ih =>
    cases h : plain8 p
    · rw [List.filter_cons_of_pos (by simp [h]), List.filter_cons_of_neg (by simp [h])]
      simp only [List.length_cons]
      omega
    · rw [List.filter_cons_of_neg (by simp [h]), List.filter_cons_of_pos (by simp [h])]
      simp only [List.length_cons]
      omega
theorem together_none (ps : List Par) (h : (arePlain ps).length = 0) : together ps = 0 := by
  unfold arePlain at h
  unfold together
  rw [List.length_map] at h
  rw [List.eq_nil_of_length_eq_zero h]
  rfl
end Go.Proofs.YtoblpjknnchlmaaGreatDoor

/- What passes allow. -/
namespace Go.Proofs.YtoblpjknnchlmaaGreatDoor

def authB : List UInt8 := [97, 117, 116, 104, 111, 114, 105, 122, 97, 116, 105, 111, 110]
def okM (wi : Bool) (m : ByteArray) (p : PsV) : Bool := p.me.toList == m.toList || (p.me.toList == [42] && !wi)
def okH (wi : Bool) (n : ByteArray) (p : PsV) : Bool := p.he.toList == n.toList || (p.he.toList == [42] && !wi && !(n.toList == [97, 117, 116, 104, 111, 114, 105, 122, 97, 116, 105, 111, 110]))
def coversL (wi : Bool) (m : ByteArray) (xs : List ByteArray) (l : List PsV) : Bool := (simpleL m.toList || l.any (okM wi m)) && xs.all fun n => l.any (okH wi n)
end Go.Proofs.YtoblpjknnchlmaaGreatDoor

/- What passes allow, told by the keys that are left over. -/
namespace Go.Proofs.YtoblpjknnchlmaaGreatDoor
open Go.RowKit

/-- Whether a star of a pass strikes a key. -/
def star9 (wi : Bool) (me he l : List UInt8) : Bool := !wi && ((me == [42] && l.headD 0 == 109) || (he == [42] && (l.headD 0 == 104 && !(l == [104, 97, 117, 116, 104, 111, 114, 105, 122, 97, 116, 105, 111, 110]))))
def strikes (wi : Bool) (p : PsV) (l : List UInt8) : Bool := l == 109 :: p.me.toList || (l == 104 :: p.he.toList || star9 wi p.me.toList p.he.toList l)
/-- The keys ahead of the passes. -/
def keys9 (z : Bool) (m : List UInt8) (xs : List ByteArray) (l : List UInt8) : Bool := xs.any (fun x => l == 104 :: x.toList) || (!z && l == 109 :: m)
def left9 (z : Bool) (m : List UInt8) (xs : List ByteArray) (wi : Bool) (ps : List PsV) (l : List UInt8) : Bool := keys9 z m xs l && !ps.any (fun p => strikes wi p l)
theorem strikes_m (wi : Bool) (p : PsV) (m : ByteArray) : strikes wi p (109 :: m.toList) = okM wi m p := by
  unfold strikes star9 okM
  have e : (m.toList == p.me.toList) = (p.me.toList == m.toList) := BEq.comm
  have e2 : ((109 :: m.toList : List UInt8) == 109 :: p.me.toList) = (m.toList == p.me.toList) := by rw [Bool.eq_iff_iff]; simp
  have e3 : ((109 :: m.toList : List UInt8) == 104 :: p.he.toList) = false := by simp
  rw [e2, e3, e]
  simp only [List.headD_cons]
  cases (p.me.toList == m.toList) <;> cases (p.me.toList == [42]) <;> cases wi <;> simp
theorem strikes_h (wi : Bool) (p : PsV) (n : ByteArray) : strikes wi p (104 :: n.toList) = okH wi n p := by
  unfold strikes star9 okH
  have e : (n.toList == p.he.toList) = (p.he.toList == n.toList) := BEq.comm
  have e2 : ((104 :: n.toList : List UInt8) == 104 :: p.he.toList) = (n.toList == p.he.toList) := by rw [Bool.eq_iff_iff]; simp
  have e3 : ((104 :: n.toList : List UInt8) == 109 :: p.me.toList) = false := by simp
  have e4 : ((104 :: n.toList : List UInt8) == [104, 97, 117, 116, 104, 111, 114, 105, 122, 97, 116, 105, 111, 110]) = (n.toList == [97, 117, 116, 104, 111, 114, 105, 122, 97, 116, 105, 111, 110]) := by rw [Bool.eq_iff_iff]; simp
  rw [e2, e3, e4, e]
  simp only [List.headD_cons]
  cases (p.he.toList == n.toList) <;> cases (p.he.toList == [42]) <;> cases (n.toList == [97, 117, 116, 104, 111, 114, 105, 122, 97, 116, 105, 111, 110]) <;> cases wi <;> simp
theorem not_all_mem {n : ByteArray} {xs : List ByteArray} {f : ByteArray → Bool} (hn : n ∈ xs) (h : f n = false) : xs.all f = false := List.all_eq_false.2 ⟨n, hn, by rw [h]; simp⟩
theorem left_none (m : ByteArray) (xs : List ByteArray) (wi : Bool) (ps : List PsV) (h : ∀ l, left9 (simpleL m.toList) m.toList xs wi ps l = false) : coversL wi m xs ps = true := by
  unfold coversL
  rw [Bool.and_eq_true]
  constructor
  · have := h (109 :: m.toList)
    unfold left9 keys9 at this
    have e : (fun p => strikes wi p (109 :: m.toList)) = okM wi m := funext fun p => strikes_m wi p m
    rw [e] at this
    cases hz : simpleL m.toList
    · rw [hz] at this
      simpa using this
    · rfl
  · rw [List.all_eq_true]
    intro n hn
    have := h (104 :: n.toList)
    unfold left9 keys9 at this
    have e : (fun p => strikes wi p (104 :: n.toList)) = okH wi n := funext fun p => strikes_h wi p n
    rw [e] at this
    have e2 : (xs.any fun x => (104 :: n.toList : List UInt8) == 104 :: x.toList) = true := List.any_eq_true.2 ⟨n, hn, by simp⟩
    rw [e2] at this
    simpa using this
theorem left_some (m : ByteArray) (xs : List ByteArray) (wi : Bool) (ps : List PsV) (l : List UInt8) (h : left9 (simpleL m.toList) m.toList xs wi ps l = true) : coversL wi m xs ps = false := by
  unfold left9 keys9 at h
  rw [Bool.and_eq_true, Bool.or_eq_true] at h
  obtain ⟨h1 | h1, h2⟩ := h
  · obtain ⟨n, hn, he⟩ := List.any_eq_true.1 h1
    have he := eq_of_beq he
    subst he
    have e : (fun p => strikes wi p (104 :: n.toList)) = okH wi n := funext fun p => strikes_h wi p n
    rw [e] at h2
    have h3 : ps.any (okH wi n) = false := by simpa using h2
    unfold coversL
    rw [not_all_mem hn h3, Bool.and_false]
  · rw [Bool.and_eq_true] at h1
    have he := eq_of_beq h1.2
    subst he
    have e : (fun p => strikes wi p (109 :: m.toList)) = okM wi m := funext fun p => strikes_m wi p m
    rw [e] at h2
    have h3 : ps.any (okM wi m) = false := by simpa using h2
    have h4 : simpleL m.toList = false := by simpa using h1.1
    unfold coversL
    rw [h3, h4]
    rfl
theorem left_next (z : Bool) (m : List UInt8) (xs : List ByteArray) (wi : Bool) (ps : List PsV) (k : Nat) (p : PsV) (hp : ps[k]? = some p) (l : List UInt8) : left9 z m xs wi (ps.take (k + 1)) l = (left9 z m xs wi (ps.take k) l && !strikes wi p l) := by
  unfold left9
  obtain ⟨hk, e⟩ := List.getElem?_eq_some_iff.1 hp
  rw [List.take_succ_eq_append_getElem hk, List.any_append, e]
  cases keys9 z m xs l <;> cases (ps.take k).any (fun p => strikes wi p l) <;> simp
theorem keys_next (z : Bool) (m : List UInt8) (xs : List ByteArray) (k : Nat) (x : ByteArray) (hx : xs[k]? = some x) (l : List UInt8) : keys9 z m (xs.take (k + 1)) l = (l == 104 :: x.toList || keys9 z m (xs.take k) l) := by
  unfold keys9
  obtain ⟨hk, e⟩ := List.getElem?_eq_some_iff.1 hx
  rw [List.take_succ_eq_append_getElem hk, List.any_append, e]
  rw [List.any_cons, List.any_nil, Bool.or_false]
  generalize (!z && l == 109 :: m) = u
  generalize (xs.take k).any (fun x => l == 104 :: x.toList) = v
  generalize (l == 104 :: x.toList) = t
  cases u <;> cases v <;> cases t <;> rfl
/-- A key that is left is a letter and a text. -/
theorem left_key {z : Bool} {m : ByteArray} {xs : List ByteArray} {wi : Bool} {ps : List PsV} {l : List UInt8} (h : left9 z m.toList xs wi ps l = true) : ∃ c t, l = c :: t ∧ (t = m.toList ∨ ∃ x ∈ xs, t = x.toList) := by
  unfold left9 keys9 at h
  rw [Bool.and_eq_true, Bool.or_eq_true] at h
  obtain ⟨h1 | h1, _⟩ := h
  · obtain ⟨n, hn, he⟩ := List.any_eq_true.1 h1
    exact ⟨_, _, eq_of_beq he, .inr ⟨n, hn, rfl⟩⟩
  · rw [Bool.and_eq_true] at h1
    exact ⟨_, _, eq_of_beq h1.2, .inl rfl⟩
end Go.Proofs.YtoblpjknnchlmaaGreatDoor

/- A request in a block of its own. -/
namespace Go.Proofs.YtoblpjknnchlmaaGreatDoor
open Go.RowKit

/-- A struct in the first block that a call makes. -/
structure BoxQ (T : TypeId) (w : World) (cs : Array Value) (W : World) : Prop where
  bel : Below w.heap.size w W
  row : W.heap[w.heap.size]? = some (.cells cs T (0, 0))
theorem BoxQ.new (T : TypeId) (w : World) (cs : Array Value) : BoxQ T w cs (w.alloc (.cells cs T)) := ⟨(Below.refl _ _).alloc (Nat.le_refl _) _, heap_alloc_new w _⟩
theorem BoxQ.step {T : TypeId} {w W W' : World} {cs : Array Value} (h : BoxQ T w cs W) (hb : Below W.heap.size W W') : BoxQ T w cs W' :=
  ⟨h.bel.trans (hb.mono h.bel.size), (hb.block _ (Array.getElem?_eq_some_iff.1 h.row).1).trans h.row⟩
theorem BoxQ.at {T : TypeId} {w W : World} {cs : Array Value} (h : BoxQ T w cs W) (j : Nat) (v : Value) (hj : cs[j]? = some v) : W.cell? ⟨w.heap.size, j, none⟩ = some v := by
  simp [World.cell?, h.row, hj]
theorem BoxQ.lt {T : TypeId} {w W : World} {cs : Array Value} (h : BoxQ T w cs W) : w.heap.size < W.heap.size := (Array.getElem?_eq_some_iff.1 h.row).1
theorem BoxQ.inB {T : TypeId} {w W W' : World} {cs : Array Value} (h : BoxQ T w cs W) (hb : Below W.heap.size W W') : Below w.heap.size w W' := h.bel.trans (hb.mono h.bel.size)
theorem lt_cell9 {W : World} {g i : Nat} {v : Value} (h : W.cell? ⟨g, i, none⟩ = some v) : g < W.heap.size := by
  rcases Nat.lt_or_ge g W.heap.size with h1 | h1
  · exact h1
  · simp [World.cell?, Array.getElem?_eq_none h1] at h
end Go.Proofs.YtoblpjknnchlmaaGreatDoor

/- The library's contracts that are leant on, laid at this program's numbers. -/
namespace Go.Proofs.YtoblpjknnchlmaaGreatDoor
open Go.Shelf Go.RowKit
def lays158_ren : Go.Shelf.Ren := ⟨fun | 158 => 24 | 165 => 36 | 166 => 37 | 167 => 38 | 169 => 39 | 230 => 40 | 203 => 41 | 240 => 59 | 241 => 60 | 197 => 61 | 118 => 62 | 168 => 63 | 270 => 64 | 262 => 65 | 276 => 82 | 277 => 83 | 260 => 84 | 242 => 85 | 313 => 86 | 278 => 96 | 274 => 97 | 275 => 98 | n => n, fun | 9 => 9 | 4 => 4 | 3 => 3 | 5 => 5 | 72 => 59 | 0 => 0 | 76 => 63 | 75 => 62 | 107 => 68 | 70 => 57 | 20 => 20 | 37 => 49 | 127 => 72 | 21 => 21 | 105 => 87 | 164 => 107 | 162 => 113 | 203 => 111 | 119 => 120 | 46 => 54 | 139 => 123 | 138 => 122 | 51 => 84 | 160 => 124 | 208 => 133 | 206 => 131 | 80 => 66 | n => n, fun | 13 => 1 | 3 => 3 | 4 => 4 | n => n⟩
theorem lays158 : Go.Proofs.Lays.n158 Tryz.prog lays158_ren := {
  mixed := by kernel_rfl
  f118 := Tryz.func62.trans (congrArg some (by kernel_rfl))
  f158 := Tryz.func24.trans (congrArg some (by kernel_rfl))
  f165 := Tryz.func36.trans (congrArg some (by kernel_rfl))
  f166 := Tryz.func37.trans (congrArg some (by kernel_rfl))
  f167 := Tryz.func38.trans (congrArg some (by kernel_rfl))
  f168 := Tryz.func63.trans (congrArg some (by kernel_rfl))
  f169 := Tryz.func39.trans (congrArg some (by kernel_rfl))
  f197 := Tryz.func61.trans (congrArg some (by kernel_rfl))
  f203 := Tryz.func41.trans (congrArg some (by kernel_rfl))
  f230 := Tryz.func40.trans (congrArg some (by kernel_rfl))
  f240 := Tryz.func59.trans (congrArg some (by kernel_rfl))
  f241 := Tryz.func60.trans (congrArg some (by kernel_rfl))
  f242 := Tryz.func85.trans (congrArg some (by kernel_rfl))
  f260 := Tryz.func84.trans (congrArg some (by kernel_rfl))
  f262 := Tryz.func65.trans (congrArg some (by kernel_rfl))
  f270 := Tryz.func64.trans (congrArg some (by kernel_rfl))
  f274 := Tryz.func97.trans (congrArg some (by kernel_rfl))
  f275 := Tryz.func98.trans (congrArg some (by kernel_rfl))
  f276 := Tryz.func82.trans (congrArg some (by kernel_rfl))
  f277 := Tryz.func83.trans (congrArg some (by kernel_rfl))
  f278 := Tryz.func96.trans (congrArg some (by kernel_rfl))
  f313 := Tryz.func86.trans (congrArg some (by kernel_rfl))
  t0 := Tryz.underlying0
  a0 := Tryz.isAgg0
  z0 := Tryz.sizeOf0
  v0 := Tryz.zeroValue0
  t3 := Tryz.underlying3
  a3 := Tryz.isAgg3
  z3 := Tryz.sizeOf3
  v3 := Tryz.zeroValue3
  t4 := Tryz.underlying4
  a4 := Tryz.isAgg4
  z4 := Tryz.sizeOf4
  v4 := Tryz.zeroValue4
  t5 := Tryz.underlying5
  a5 := Tryz.isAgg5
  z5 := Tryz.sizeOf5
  v5 := Tryz.zeroValue5
  t9 := Tryz.underlying9
  a9 := Tryz.isAgg9
  z9 := Tryz.sizeOf9
  v9 := Tryz.zeroValue9
  t20 := Tryz.underlying20
  a20 := Tryz.isAgg20
  z20 := Tryz.sizeOf20
  v20 := Tryz.zeroValue20
  t21 := Tryz.underlying21
  a21 := Tryz.isAgg21
  z21 := Tryz.sizeOf21
  v21 := Tryz.zeroValue21
  t37 := Tryz.underlying49
  a37 := Tryz.isAgg49
  z37 := Tryz.sizeOf49
  v37 := Tryz.zeroValue49
  t46 := Tryz.underlying54
  a46 := Tryz.isAgg54
  z46 := Tryz.sizeOf54
  v46 := Tryz.zeroValue54
  t51 := Tryz.underlying84
  a51 := Tryz.isAgg84
  z51 := Tryz.sizeOf84
  v51 := Tryz.zeroValue84
  t70 := Tryz.underlying57
  a70 := Tryz.isAgg57
  z70 := Tryz.sizeOf57
  v70 := Tryz.zeroValue57
  t72 := Tryz.underlying59
  a72 := Tryz.isAgg59
  z72 := Tryz.sizeOf59
  v72 := Tryz.zeroValue59
  t75 := Tryz.underlying62
  a75 := Tryz.isAgg62
  z75 := Tryz.sizeOf62
  v75 := Tryz.zeroValue62
  t76 := Tryz.underlying63
  a76 := Tryz.isAgg63
  z76 := Tryz.sizeOf63
  v76 := Tryz.zeroValue63
  t105 := Tryz.underlying87
  a105 := Tryz.isAgg87
  z105 := Tryz.sizeOf87
  v105 := Tryz.zeroValue87
  t107 := Tryz.underlying68
  a107 := Tryz.isAgg68
  z107 := Tryz.sizeOf68
  v107 := Tryz.zeroValue68
  t119 := Tryz.underlying120
  a119 := Tryz.isAgg120
  z119 := Tryz.sizeOf120
  t127 := Tryz.underlying72
  a127 := Tryz.isAgg72
  z127 := Tryz.sizeOf72
  v127 := Tryz.zeroValue72
  t138 := Tryz.underlying122
  a138 := Tryz.isAgg122
  z138 := Tryz.sizeOf122
  v138 := Tryz.zeroValue122
  t139 := Tryz.underlying123
  a139 := Tryz.isAgg123
  z139 := Tryz.sizeOf123
  v139 := Tryz.zeroValue123
  t160 := Tryz.underlying124
  a160 := Tryz.isAgg124
  z160 := Tryz.sizeOf124
  v160 := Tryz.zeroValue124
  t162 := Tryz.underlying113
  a162 := Tryz.isAgg113
  z162 := Tryz.sizeOf113
  v162 := Tryz.zeroValue113
  t164 := Tryz.underlying107
  a164 := Tryz.isAgg107
  z164 := Tryz.sizeOf107
  v164 := Tryz.zeroValue107
  t203 := Tryz.underlying111
  a203 := Tryz.isAgg111
  z203 := Tryz.sizeOf111
  v203 := Tryz.zeroValue111
  t206 := Tryz.underlying131
  a206 := Tryz.isAgg131
  z206 := Tryz.sizeOf131
  v206 := Tryz.zeroValue131
  t208 := Tryz.underlying133
  a208 := Tryz.isAgg133
  z208 := Tryz.sizeOf133
  v208 := Tryz.zeroValue133
  g3 := by kernel_rfl
  g4 := by kernel_rfl
  g13 := by kernel_rfl }
theorem Builder_Extra_158 : Builder.Extra Tryz.prog lays158_ren := {
  sizeBuilder := by kernel_rfl
  liesBuilder := by kernel_rfl
  t5 := Tryz.underlying5
  a5 := Tryz.isAgg5
  z5 := Tryz.sizeOf5
  v5 := Tryz.zeroValue5
  infoByte := by kernel_rfl
  cellsByte := by kernel_rfl
  sizeByte := by kernel_rfl
  neB5 := by decide }
end Go.Proofs.YtoblpjknnchlmaaGreatDoor

/- A text of ASCII bytes in great letters, by the library. -/
namespace Go.Proofs.YtoblpjknnchlmaaGreatDoor
open Go.RowKit Go.Shelf Go.Lib

theorem upper_ascii (s x : ByteArray) (hs : s.size ≤ 5000) (ha : ∀ c ∈ s.data.toList, c.toNat < 128) (hx : s.data.toList.map Lib.upperB = x.data.toList) (w : World) :
    Calls Tryz.prog 24 #[.string s] w fun e w' => e = .returned (.string x) ∧ Below w.heap.size w w' := by
  refine (Any.strings_ToUpper_ascii lays158 Builder_Extra_158 s w (by omega) (fun j b hb => ha b (List.mem_of_getElem? hb))).mono ?_
  rintro e w' ⟨rfl, hb⟩
  refine ⟨?_, hb⟩
  congr 2
  apply ByteArray.ext
  apply Array.ext'
  rw [← hx]
  rfl
end Go.Proofs.YtoblpjknnchlmaaGreatDoor

/- One byte as a text, by the document's own answer. -/
namespace Go.Proofs.YtoblpjknnchlmaaGreatDoor
open Go.RowKit

set_option maxHeartbeats 400000 in
theorem char_any (n : Int) (h0 : 0 ≤ n) (h1 : n < 256) (w : World) :
    Calls Tryz.prog 35 #[.int .i64 n] w fun e w' => e = .returned (.string (bs [UInt8.ofNat n.toNat])) ∧ Below w.heap.size w w' := by
  have hback := run_convert_bytes_back (P := Tryz.prog) (w.alloc (.cells #[.int .u8 n] 5)) 49 9 5 ⟨w.heap.size, 0, none⟩ 1 [UInt8.ofNat n.toNat] Tryz.underlying49 Tryz.underlying5 Tryz.underlying9 (fun j hj => by
    have : j = 0 := by simpa using hj
    subst this
    simp only [List.getElem_cons_zero, ofNat_back n h0 h1]
    simp [Addr.add])
  have hb : (convert 49 9 (.slice (some ⟨w.heap.size, 0, none⟩) 1 1)).run Tryz.prog (w.alloc (.cells #[.int .u8 n] 5)) = .ok (.string (bs [UInt8.ofNat n.toNat])) (w.alloc (.cells #[.int .u8 n] 5)) := hback
  clear hback
  go_enter Tryz.func35, Tryz.ntmps35
  go_wp2
  go_ret
  exact ⟨rfl, (Below.refl _ _).alloc (Nat.le_refl _) _⟩
/-- The one-byte text, kept from the walk. -/
theorem char_o (n : Int) (h0 : 0 ≤ n) (h1 : n < 256) (w : World) :
    Calls Tryz.prog 35 #[.int .i64 n] w fun e w' => ∃ o : ByteArray, e = .returned (.string o) ∧ o.size = 1 ∧ Hid (o = bs [UInt8.ofNat n.toNat]) ∧ Below w.heap.size w w' := by
  refine (char_any n h0 h1 w).mono ?_
  rintro e w' ⟨rfl, hb⟩
  exact ⟨_, rfl, by simp [bs_size], rfl, hb⟩
end Go.Proofs.YtoblpjknnchlmaaGreatDoor
