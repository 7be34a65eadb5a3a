/- Texts of one claim, joined: each begins with what it proves. -/
import Derived.Test.YtoblpjknnchlmabGreatDoorJo2
import Derived.Test.YtoblpjknnchlmabGreatDoorJo1
import Derived.Deep.QuietTactic
import Derived.BigQuiet
import Derived.Shelf.Sort.Plain
import Derived.Shelf.Slices.CompactS
import Derived.Shelf.Slices.In.SortNone
import Derived.Sort.OwnSorted
import Derived.Lib.OwnBridge
import Derived.Deep.Draws
import Derived.Deep.LoopGhost
import Derived.Deep.Cut
import Derived.Deep.CutRange
import Derived.Deep.DeepCutAuto
/- Whether a type is one that a form of a page may send, and whether a header may be sent without asking, by the program. -/
namespace Go.Proofs.YtoblpjknnchlmabGreatDoor
open Go.RowKit Go.Shelf

def formA : List UInt8 := [97, 112, 112, 108, 105, 99, 97, 116, 105, 111, 110, 47, 120, 45, 119, 119, 119, 45, 102, 111, 114, 109, 45, 117, 114, 108, 101, 110, 99, 111, 100, 101, 100]
def formB : List UInt8 := [109, 117, 108, 116, 105, 112, 97, 114, 116, 47, 102, 111, 114, 109, 45, 100, 97, 116, 97]
def formC : List UInt8 := [116, 101, 120, 116, 47, 112, 108, 97, 105, 110]
def kindL (l : List UInt8) : List UInt8 := (trimW (cutL 59 l).1).map low
/-- A type that a form of a page may send. -/
def formL (l : List UInt8) : Bool := kindL l == formA || (kindL l == formB || kindL l == formC)
set_option maxHeartbeats 1000000 in
theorem form_any (s : ByteArray) (hs : s.size ≤ 3000) (w : World) :
    Calls Tryz.prog 107 #[.string s] w fun e w' => e = .returned (.bool (formL s.data.toList)) ∧ Below w.heap.size w w' := by
  go_enter Tryz.func107, Tryz.ntmps107
  go_wp2_with fail
  refine (cut_any s 59 (by omega) _).mono ?_
  rintro e w1 ⟨a, b, f, rfl, ha, hb, HC, hb1⟩
  have HB1 : Hid (Below w.heap.size w w1) := hb1
  clear hb1
  go_wp2_with fail
  refine (trimBoth_any a (by omega) _).mono ?_
  rintro e w2 ⟨t, rfl, HT, ht, hb2⟩
  have HB2 : Hid (Below w.heap.size w w2) := HB1.out.trans (hb2.mono HB1.out.size)
  clear hb2
  obtain ⟨x, HX⟩ : ∃ x : ByteArray, Hid (bs (t.data.toList.map low) = x) := ⟨_, rfl⟩
  have HK : Hid (kindL s.data.toList = x.toList) := by
    show _ = _
    unfold kindL
    rw [HC.out, ← HT.out, ByteArray.toList_eq, ← HX.out, bs_data]
  go_wp2_with fail
  refine (lower_any t _ (by omega)).mono ?_
  rintro e w3 ⟨rfl, hb3⟩
  have HB3 : Hid (Below w.heap.size w w3) := HB2.out.trans (hb3.mono HB2.out.size)
  clear hb3
  rw [HX.out]
  have HF : Hid (formL s.data.toList = (x.toList == formA || (x.toList == formB || x.toList == formC))) := by
    show _ = _
    unfold formL
    rw [HK.out]
  unfold formA formB formC at HF
  go_wp2
  all_goals
    go_ret
    exact ⟨ret_bool (by rw [HF.out]; simp_all), HB3.out⟩
end Go.Proofs.YtoblpjknnchlmabGreatDoor

/- Whether a header may be sent without asking, by the program. -/
namespace Go.Proofs.YtoblpjknnchlmabGreatDoor
open Go.RowKit Go.Shelf

def nmA : List UInt8 := [97, 99, 99, 101, 112, 116]
def nmL : List UInt8 := [97, 99, 99, 101, 112, 116, 45, 108, 97, 110, 103, 117, 97, 103, 101]
def nmC : List UInt8 := [99, 111, 110, 116, 101, 110, 116, 45, 108, 97, 110, 103, 117, 97, 103, 101]
def nmT : List UInt8 := [99, 111, 110, 116, 101, 110, 116, 45, 116, 121, 112, 101]
/-- A header, of this name in small letters, that may be sent without asking. -/
def plainN (x v : List UInt8) : Bool := if x == nmA then v.all safeB else if x == nmL then v.all tongB else if x == nmC then v.all tongB else if x == nmT then v.all safeB && formL v else false
def plainL (n v : List UInt8) : Bool := decide (v.length ≤ 128) && plainN (n.map low) v
theorem two_at {w : World} {g : Nat} {v0 v1 : Value} {T : TypeId} (h : w.heap[g]? = some (.cells #[v0, v1] T (0, 0))) : w.cell? ⟨g, 0, none⟩ = some v0 ∧ w.cell? ⟨g, 1, none⟩ = some v1 ∧ ∀ j, w.frozen? ⟨g, j, none⟩ = false :=
  ⟨by simp [World.cell?, h], by simp [World.cell?, h], fun j => by simp [World.frozen?, h]⟩
set_option maxHeartbeats 4000000 in
theorem plain_any (n v : ByteArray) (hn : n.size ≤ 4000) (hv : v.size ≤ 140737488355328) (w : World) :
    Calls Tryz.prog 78 #[.agg #[.string n, .string v]] w fun e w' => e = .returned (.bool (plainL n.data.toList v.data.toList)) ∧ Below w.heap.size w w' := by
  have hlv : v.data.toList.length = v.size := Array.length_toList
  have hb0 : Below w.heap.size w (w.alloc (.cells #[.string n, .string v] 37)) := (Below.refl _ _).alloc (Nat.le_refl _) _
  by_cases hl : v.size ≤ 128
  · have hlz : ¬ (128 : Int) < (v.size : Int) := by omega
    obtain ⟨x, HX⟩ : ∃ x : ByteArray, Hid (bs (n.data.toList.map low) = x) := ⟨_, rfl⟩
    have HP : Hid (plainL n.data.toList v.data.toList = plainN x.toList v.data.toList) := by
      show _ = _
      unfold plainL
      rw [hlv, decide_eq_true hl, Bool.true_and, ByteArray.toList_eq, ← HX.out, bs_data]
    have HN : Hid (∀ w', Below (w.alloc (.cells #[.string n, .string v] 37)).heap.size (w.alloc (.cells #[.string n, .string v] 37)) w' → Below w.heap.size w w' ∧ w'.heap[w.heap.size]? = some (.cells #[.string n, .string v] 37 (0, 0))) := fun w' hb => ⟨hb0.trans (hb.mono (by simp)), (hb.block _ (by simp)).trans (heap_alloc_new w _)⟩
    clear hb0 hlv
    go_enter Tryz.func78, Tryz.ntmps78
    go_wp2_with fail
    refine (lower_any n _ (by omega)).mono ?_
    rintro e w1 ⟨rfl, hb1⟩
    have HB1 := HN.out _ hb1
    have HB : Hid (Below w.heap.size w w1) := HB1.1
    obtain ⟨x0, x1, _⟩ := two_at HB1.2
    rw [HX.out]
    clear hb1 HB1
    unfold plainN nmA nmL nmC nmT at HP
    cases a1 : (x.toList == [97, 99, 99, 101, 112, 116])
    rotate_left
    · have HQ : Hid (plainL n.data.toList v.data.toList = v.data.toList.all safeB) := by
        show _ = _
        rw [HP.out, a1]; rfl
      obtain ⟨b, HBB⟩ : ∃ b : Bool, Hid (v.data.toList.all safeB = b) := ⟨_, rfl⟩
      go_wp2_with fail
      refine (all_any _ _ kind_safe v (by omega) _).mono ?_
      rintro e w' ⟨rfl, hw⟩
      obtain rfl := hw.symm
      rw [HBB.out]
      go_wp2
      go_ret
      exact ⟨ret_bool (by rw [HQ.out, HBB.out]), HB.out⟩
    cases a2 : (x.toList == [97, 99, 99, 101, 112, 116, 45, 108, 97, 110, 103, 117, 97, 103, 101])
    rotate_left
    · have HQ : Hid (plainL n.data.toList v.data.toList = v.data.toList.all tongB) := by
        show _ = _
        rw [HP.out, a1, a2]; rfl
      obtain ⟨b, HBB⟩ : ∃ b : Bool, Hid (v.data.toList.all tongB = b) := ⟨_, rfl⟩
      go_wp2_with fail
      refine (all_any _ _ kind_tong v (by omega) _).mono ?_
      rintro e w' ⟨rfl, hw⟩
      obtain rfl := hw.symm
      rw [HBB.out]
      go_wp2
      go_ret
      exact ⟨ret_bool (by rw [HQ.out, HBB.out]), HB.out⟩
    cases a3 : (x.toList == [99, 111, 110, 116, 101, 110, 116, 45, 108, 97, 110, 103, 117, 97, 103, 101])
    rotate_left
    · have HQ : Hid (plainL n.data.toList v.data.toList = v.data.toList.all tongB) := by
        show _ = _
        rw [HP.out, a1, a2, a3]; rfl
      obtain ⟨b, HBB⟩ : ∃ b : Bool, Hid (v.data.toList.all tongB = b) := ⟨_, rfl⟩
      go_wp2_with fail
      refine (all_any _ _ kind_tong v (by omega) _).mono ?_
      rintro e w' ⟨rfl, hw⟩
      obtain rfl := hw.symm
      rw [HBB.out]
      go_wp2
      go_ret
      exact ⟨ret_bool (by rw [HQ.out, HBB.out]), HB.out⟩
    cases a4 : (x.toList == [99, 111, 110, 116, 101, 110, 116, 45, 116, 121, 112, 101])
    · have HQ : Hid (plainL n.data.toList v.data.toList = false) := by
        show _ = _
        rw [HP.out, a1, a2, a3, a4]; rfl
      go_wp2
      go_ret
      exact ⟨ret_bool (by rw [HQ.out]), HB.out⟩
    · have HQ : Hid (plainL n.data.toList v.data.toList = (v.data.toList.all safeB && formL v.data.toList)) := by
        show _ = _
        rw [HP.out, a1, a2, a3, a4]; rfl
      obtain ⟨b, HBB⟩ : ∃ b : Bool, Hid (v.data.toList.all safeB = b) := ⟨_, rfl⟩
      obtain ⟨d, HD⟩ : ∃ b : Bool, Hid (formL v.data.toList = b) := ⟨_, rfl⟩
      go_wp2_with fail
      refine (all_any _ _ kind_safe v (by omega) _).mono ?_
      rintro e w' ⟨rfl, hw⟩
      obtain rfl := hw.symm
      rw [HBB.out]
      cases b
      · go_wp2
        go_ret
        exact ⟨ret_bool (by rw [HQ.out, HBB.out]; rfl), HB.out⟩
      · go_wp2_with fail
        refine (form_any v (by omega) _).mono ?_
        rintro e w2 ⟨rfl, hb2⟩
        rw [HD.out]
        go_wp2
        go_ret
        exact ⟨ret_bool (by rw [HQ.out, HBB.out, HD.out]; rfl), HB.out.trans (hb2.mono HB.out.size)⟩
  · have hlz : (128 : Int) < (v.size : Int) := by omega
    have HP : Hid (plainL n.data.toList v.data.toList = false) := by
      show _ = _
      unfold plainL
      rw [hlv, decide_eq_false hl, Bool.false_and]
    go_enter Tryz.func78, Tryz.ntmps78
    go_wp2
    go_ret
    exact ⟨ret_bool (by rw [HP.out]), hb0⟩
end Go.Proofs.YtoblpjknnchlmabGreatDoor

/- One text more at a row of texts that a call owns. -/
namespace Go.Proofs.YtoblpjknnchlmabGreatDoor
open Go.RowKit

theorem info9 : (Tryz.prog.info? 9).map (fun i => (i.zero, i.size, i.bytes)) = some (some (.string ⟨#[]⟩), 1, 16) := by kernel_rfl
/-- A value of type []string that owns these texts, among the blocks from B on. -/
def OwnS (w : World) (B : Nat) (v : Value) (xs : List ByteArray) : Prop := w.ownsRow B 9 1 v xs.length (xs.map Value.string)
theorem OwnS.lt {w : World} {B : Nat} {v : Value} {xs : List ByteArray} (h : OwnS w B v xs) : ∀ k, v.ownBlock = some k → B ≤ k ∧ k < w.heap.size := World.ownsRow.lt h
theorem OwnS.grown {w w' : World} {B b : Nat} {v : Value} {xs : List ByteArray} (h : OwnS w B v xs) (hg : w.grownBy w' (some b)) (hb : b < B) : OwnS w' B v xs := by
  refine World.ownsRow.kept h hg (.inr ?_)
  intro e
  have := (h.lt b e).1
  omega
theorem OwnS.below {w w' : World} {B : Nat} {v : Value} {xs : List ByteArray} (h : OwnS w B v xs) (hb : Below w.heap.size w w') : OwnS w' B v xs := by
  refine World.ownsRow.kept (row := none) h ⟨hb.os, hb.tape, hb.output, hb.size, fun i hi _ => hb.block i hi⟩ ?_
  rcases v.ownBlock with _ | k
  · exact .inl rfl
  · exact .inr (by simp)
theorem ownS_nil (w : World) (B : Nat) : OwnS w B (.slice none 0 0) [] := ⟨rfl, .inl ⟨rfl, rfl⟩⟩
theorem wp_apps {ops : Array Oper} {rest : List Oper} {o : Oper} {a : Act} {Q : Exit → Act → World → Prop} (hgd : o.guard = none) (s x : Operand)
    (ho : o.op = .call { callee := .builtin .append, args := #[s, x], argTypes := #[57, 57] })
    (B : Nat) (wr : World) (v : Value) (xs : List ByteArray) (n : Nat) (hs : a.eval s = v) (hown : OwnS wr B v xs) (hn : xs.length = n) (hl : n ≤ 100000) (hB : B ≤ wr.heap.size)
    (t : ByteArray) (hx : a.eval x = .slice (some ⟨wr.heap.size, 0, none⟩) 1 1)
    (h : ∀ g cap w', OwnS w' B (.slice (some ⟨g, 0, none⟩) (n + 1) cap) (xs ++ [t]) → (wr.alloc (.cells #[.string t] 9)).grownBy w' v.ownBlock → g < w'.heap.size → wpList Tryz.prog ops Q rest (a.put o.dst (.slice (some ⟨g, 0, none⟩) (n + 1) cap)) w') :
    wpList Tryz.prog ops Q (o :: rest) a (wr.alloc (.cells #[.string t] 9)) := by
  subst hn
  obtain ⟨i0, hi0, hz0, hz1, hz2⟩ := info_parts info9
  refine wpList_append_lies _ hgd s x 57 ho B 9 i0 (.string ⟨#[]⟩) 1 16 Tryz.underlying57 hi0 hz0 hz1 hz2 rfl (by omega) v xs.length _ hs (World.ownsRow.alloc hown _) ⟨wr.heap.size, 0, none⟩ 1 1 [.string t] hx rfl
    (World.news_of_block (cs := #[.string t]) (t := 9) (fr := (0, 0)) (heap_alloc_new wr _)) (by simp [Value.oneCell']) (by omega) (by unfold maxLen; omega) (by omega) (by simp; omega) _ rfl ?_
  intro g cap w' hown1 hgrow _ hlt
  refine h g cap w' ?_ hgrow hlt
  unfold OwnS
  rw [List.length_append, List.map_append]
  exact hown1
end Go.Proofs.YtoblpjknnchlmabGreatDoor

/- The library's contracts that are leant on, laid at this program's numbers. -/
namespace Go.Proofs.YtoblpjknnchlmabGreatDoor
open Go.Shelf Go.RowKit
def lays190_ren : Go.Shelf.Ren := ⟨fun | 190 => 79 | 125 => 109 | 258 => 108 | 128 => 139 | 129 => 140 | 302 => 130 | 303 => 131 | 304 => 132 | 305 => 133 | 306 => 134 | 307 => 135 | 308 => 136 | 309 => 137 | 310 => 138 | 333 => 153 | 329 => 154 | 330 => 155 | 334 => 156 | 335 => 157 | 336 => 158 | 344 => 166 | n => n, fun | 31 => 57 | 9 => 9 | 3 => 3 | 46 => 80 | 0 => 0 | 51 => 153 | 53 => 155 | 4 => 4 | 183 => 146 | 182 => 145 | 131 => 150 | 5 => 5 | 218 => 170 | 222 => 174 | 228 => 185 | 229 => 186 | n => n, fun | n => n⟩
theorem lays190 : Go.Proofs.Lays.n190 Tryz.prog lays190_ren := {
  mixed := by kernel_rfl
  f125 := Tryz.func109.trans (congrArg some (by kernel_rfl))
  f128 := Tryz.func139.trans (congrArg some (by kernel_rfl))
  f129 := Tryz.func140.trans (congrArg some (by kernel_rfl))
  f190 := Tryz.func79.trans (congrArg some (by kernel_rfl))
  f258 := Tryz.func108.trans (congrArg some (by kernel_rfl))
  f302 := Tryz.func130.trans (congrArg some (by kernel_rfl))
  f303 := Tryz.func131.trans (congrArg some (by kernel_rfl))
  f304 := Tryz.func132.trans (congrArg some (by kernel_rfl))
  f305 := Tryz.func133.trans (congrArg some (by kernel_rfl))
  f306 := Tryz.func134.trans (congrArg some (by kernel_rfl))
  f307 := Tryz.func135.trans (congrArg some (by kernel_rfl))
  f308 := Tryz.func136.trans (congrArg some (by kernel_rfl))
  f309 := Tryz.func137.trans (congrArg some (by kernel_rfl))
  f310 := Tryz.func138.trans (congrArg some (by kernel_rfl))
  f329 := Tryz.func154.trans (congrArg some (by kernel_rfl))
  f330 := Tryz.func155.trans (congrArg some (by kernel_rfl))
  f333 := Tryz.func153.trans (congrArg some (by kernel_rfl))
  f334 := Tryz.func156.trans (congrArg some (by kernel_rfl))
  f335 := Tryz.func157.trans (congrArg some (by kernel_rfl))
  f336 := Tryz.func158.trans (congrArg some (by kernel_rfl))
  f344 := Tryz.func166.trans (congrArg some (by kernel_rfl))
  t0 := Tryz.underlying0
  a0 := Tryz.isAgg0
  z0 := Tryz.sizeOf0
  v0 := Tryz.zeroValue0
  t3 := Tryz.underlying3
  a3 := Tryz.isAgg3
  z3 := Tryz.sizeOf3
  v3 := Tryz.zeroValue3
  t4 := Tryz.underlying4
  a4 := Tryz.isAgg4
  z4 := Tryz.sizeOf4
  v4 := Tryz.zeroValue4
  t5 := Tryz.underlying5
  a5 := Tryz.isAgg5
  z5 := Tryz.sizeOf5
  v5 := Tryz.zeroValue5
  t9 := Tryz.underlying9
  a9 := Tryz.isAgg9
  z9 := Tryz.sizeOf9
  v9 := Tryz.zeroValue9
  t31 := Tryz.underlying57
  a31 := Tryz.isAgg57
  z31 := Tryz.sizeOf57
  v31 := Tryz.zeroValue57
  t46 := Tryz.underlying80
  a46 := Tryz.isAgg80
  z46 := Tryz.sizeOf80
  v46 := Tryz.zeroValue80
  t51 := Tryz.underlying153
  a51 := Tryz.isAgg153
  z51 := Tryz.sizeOf153
  v51 := Tryz.zeroValue153
  t53 := Tryz.underlying155
  a53 := Tryz.isAgg155
  z53 := Tryz.sizeOf155
  v53 := Tryz.zeroValue155
  t131 := Tryz.underlying150
  a131 := Tryz.isAgg150
  z131 := Tryz.sizeOf150
  v131 := Tryz.zeroValue150
  t182 := Tryz.underlying145
  a182 := Tryz.isAgg145
  z182 := Tryz.sizeOf145
  v182 := Tryz.zeroValue145
  t183 := Tryz.underlying146
  a183 := Tryz.isAgg146
  z183 := Tryz.sizeOf146
  v183 := Tryz.zeroValue146
  t218 := Tryz.underlying170
  a218 := Tryz.isAgg170
  z218 := Tryz.sizeOf170
  v218 := Tryz.zeroValue170
  t222 := Tryz.underlying174
  a222 := Tryz.isAgg174
  z222 := Tryz.sizeOf174
  v222 := Tryz.zeroValue174
  t228 := Tryz.underlying185
  a228 := Tryz.isAgg185
  z228 := Tryz.sizeOf185
  v228 := Tryz.zeroValue185
  t229 := Tryz.underlying186
  a229 := Tryz.isAgg186
  z229 := Tryz.sizeOf186
  v229 := Tryz.zeroValue186 }
def lays194_ren : Go.Shelf.Ren := ⟨fun | 194 => 80 | n => n, fun | 31 => 57 | 9 => 9 | 3 => 3 | 4 => 4 | 0 => 0 | n => n, fun | n => n⟩
theorem lays194 : Go.Proofs.Lays.n194 Tryz.prog lays194_ren := {
  mixed := by kernel_rfl
  f194 := Tryz.func80.trans (congrArg some (by kernel_rfl))
  t0 := Tryz.underlying0
  a0 := Tryz.isAgg0
  z0 := Tryz.sizeOf0
  v0 := Tryz.zeroValue0
  t3 := Tryz.underlying3
  a3 := Tryz.isAgg3
  z3 := Tryz.sizeOf3
  v3 := Tryz.zeroValue3
  t4 := Tryz.underlying4
  a4 := Tryz.isAgg4
  z4 := Tryz.sizeOf4
  v4 := Tryz.zeroValue4
  t9 := Tryz.underlying9
  a9 := Tryz.isAgg9
  z9 := Tryz.sizeOf9
  v9 := Tryz.zeroValue9
  t31 := Tryz.underlying57
  a31 := Tryz.isAgg57
  z31 := Tryz.sizeOf57
  v31 := Tryz.zeroValue57 }
end Go.Proofs.YtoblpjknnchlmabGreatDoor

/- Texts sorted, each once, by the library, at rows that a call owns. -/
namespace Go.Proofs.YtoblpjknnchlmabGreatDoor
open Go.RowKit Go.Shelf Go.Sort

def tx (xs : List ByteArray) : List (List UInt8) := xs.map (·.data.toList)
def sortL (ss : List (List UInt8)) : List (List UInt8) := ss.mergeSort fun x y => decide (x ≤ y)
theorem tx_bs (ss : List (List UInt8)) : tx (ss.map bs) = ss := by
  unfold tx
  rw [List.map_map]
  conv => rhs; rw [← List.map_id ss]
  apply List.map_congr_left
  intro x _
  exact bs_data x
theorem bs_tx (xs : List ByteArray) : (tx xs).map bs = xs := by
  unfold tx
  rw [List.map_map]
  conv => rhs; rw [← List.map_id xs]
  apply List.map_congr_left
  intro x _
  exact bs_self x
theorem enc_bs (ss : List (List UInt8)) : ss.map Proofs.encStr = (ss.map bs).map Value.string := by
  have := Lib.map_encStr (ss.map bs)
  rw [show (ss.map bs).map (·.data.toList) = ss from tx_bs ss] at this
  exact this
theorem sortL_len (ss : List (List UInt8)) : (sortL ss).length = ss.length := List.length_mergeSort ss
theorem sortL_perm (ss : List (List UInt8)) : (sortL ss).Perm ss := List.mergeSort_perm ss _
theorem le_total' (a b : List UInt8) : (decide (a ≤ b) || decide (b ≤ a)) = true := by
  rcases List.le_total a b with h | h
  · simp [h]
  · simp [h]
theorem sortL_sorted (ss : List (List UInt8)) : (sortL ss).Pairwise fun a b => a ≤ b := by
  have h := List.pairwise_mergeSort (le := fun x y : List UInt8 => decide (x ≤ y)) (fun a b c h1 h2 => decide_eq_true (List.le_trans (of_decide_eq_true h1) (of_decide_eq_true h2))) le_total' ss
  exact h.imp fun h => of_decide_eq_true h
theorem sortL_of_perm {a b : List (List UInt8)} (h : a.Perm b) : sortL a = sortL b :=
  List.Perm.eq_of_pairwise (le := fun a b => a ≤ b) (fun _ _ _ _ h1 h2 => List.le_antisymm h1 h2) (sortL_sorted a) (sortL_sorted b) ((sortL_perm a).trans (h.trans (sortL_perm b).symm))
theorem OwnS.enc {w : World} {B : Nat} {v : Value} {xs : List ByteArray} (h : OwnS w B v xs) : w.ownsRow B 9 1 v xs.length ((tx xs).map Proofs.encStr) := by
  rw [enc_bs, bs_tx]
  exact h
set_option maxHeartbeats 1000000 in
theorem sort_own (w : World) (B : Nat) (v : Value) (xs : List ByteArray) (h : OwnS w B v xs) (hl : xs.length ≤ 1000000) :
    Calls Tryz.prog 79 #[v] w fun e w' => e = .returned (.tuple #[]) ∧ OwnS w' B v ((sortL (tx xs)).map bs) ∧ w.grownBy w' v.ownBlock := by
  have henc := h.enc
  have hlen : (tx xs).length = xs.length := by unfold tx; simp
  rcases henc.2 with ⟨rfl, h0⟩ | ⟨g, cap, cur, rfl, hbase, hb, h1, h2, h3, h4⟩
  · obtain rfl : xs = [] := List.eq_nil_of_length_eq_zero h0
    refine (Any.slices_Sort_string_none lays190 none 0 w).mono ?_
    rintro e w' ⟨rfl, rfl⟩
    refine ⟨rfl, ?_, ⟨rfl, rfl, rfl, Nat.le_refl _, fun _ _ _ => rfl⟩⟩
    have : sortL (tx []) = [] := by unfold tx sortL; simp
    rw [this]
    exact h
  · have hH : Holds Proofs.encStr w g 0 (tx xs).toArray := holds_of_block hb (by rw [hlen]; rw [Nat.mul_one] at h4; exact h4)
    have hs := Any.slices_Sort_string lays190 g 0 cap (tx xs) w hH (Array.getElem?_eq_some_iff.1 hb).1 (by rw [hlen]; omega)
    rw [hlen] at hs
    refine hs.mono ?_
    rintro e w' ⟨rfl, n, os, rfl⟩
    refine ⟨rfl, ?_, grownBy_sorted _⟩
    have ho := ownsRow_sorted (n := n) (os := os) (ss := tx xs) (ts := sortL (tx xs)) (sortL_len _) hbase hb (by rw [hlen]; exact h1) h2 h3
    rw [enc_bs, hlen] at ho
    unfold OwnS
    rw [List.length_map, sortL_len, hlen]
    exact ho
theorem compact_len (ss : List (List UInt8)) : (Lib.compact ss).length ≤ ss.length := Lib.compact_length_le ss
set_option maxHeartbeats 1000000 in
theorem compact_own (w : World) (B : Nat) (v : Value) (xs : List ByteArray) (h : OwnS w B v xs) (hl : xs.length ≤ 1000000) :
    Calls Tryz.prog 80 #[v] w fun e w' => (∃ v', e = .returned v' ∧ OwnS w' B v' ((Lib.compact (tx xs)).map bs)) ∧ w.grownBy w' v.ownBlock := by
  have henc := h.enc
  have hlen : (tx xs).length = xs.length := by unfold tx; simp
  rcases henc.2 with ⟨rfl, h0⟩ | ⟨g, cap, cur, rfl, hbase, hb, h1, h2, h3, h4⟩
  · obtain rfl : xs = [] := List.eq_nil_of_length_eq_zero h0
    refine (Any.slices_Compact_string_empty lays194 none 0 w).mono ?_
    rintro e w' ⟨rfl, rfl⟩
    refine ⟨⟨_, rfl, ?_⟩, ⟨rfl, rfl, rfl, Nat.le_refl _, fun _ _ _ => rfl⟩⟩
    have : Lib.compact (tx []) = [] := by unfold tx; rfl
    rw [this]
    exact h
  · have hH : Holds Proofs.encStr w g 0 (tx xs).toArray := holds_of_block hb (by rw [hlen]; rw [Nat.mul_one] at h4; exact h4)
    have hs := Any.slices_Compact_string lays194 g 0 cap (tx xs) w hH (by rw [hlen]; omega) (by rw [hlen]; exact h1)
    rw [hlen] at hs
    have hcl := compact_len (tx xs)
    refine hs.mono ?_
    rintro e w' ⟨rfl, q, rfl⟩
    refine ⟨⟨_, rfl, ?_⟩, ?_⟩
    · have ho := Lib.ownsRow_putRow (q := q) (k := (Lib.compact (tx xs)).length) (ys := Lib.compact (tx xs) ++ List.replicate (xs.length - (Lib.compact (tx xs)).length) []) henc (by simp; omega) (by omega)
      rw [List.take_left, enc_bs] at ho
      unfold OwnS
      rw [List.length_map]
      exact ho
    · refine ⟨rfl, rfl, rfl, by simp [putRow, mapBlock, Sort.ahead], fun k hk hne => ?_⟩
      have : g ≠ k := fun e => hne (by rw [e]; rfl)
      simp [putRow, mapBlock, Sort.ahead, Array.getElem?_modify, this]
end Go.Proofs.YtoblpjknnchlmabGreatDoor

/- Rows of parameters that lie somewhere. -/
namespace Go.Proofs.YtoblpjknnchlmabGreatDoor
open Go.RowKit

/-- A row of parameters that lies somewhere. -/
structure Pars (w : World) (a0 : Option Addr) (len b off : Nat) (ps : List Par) : Prop where
  len_eq : ps.length = len
  lies : 0 < len → a0 = some ⟨b, off, none⟩ ∧ b < w.heap.size
  one : ∀ (j : Nat) (p : Par), ps[j]? = some p → w.cell? ⟨b, off + j * 2, none⟩ = some (.string p.1)
  two : ∀ (j : Nat) (p : Par), ps[j]? = some p → w.cell? ⟨b, off + j * 2 + 1, none⟩ = some (.string p.2)
theorem Pars.grown {w w' : World} {a0 : Option Addr} {len b off : Nat} {ps : List Par} {row : Option Nat} (h : Pars w a0 len b off ps) (hg : w.grownBy w' row) (hr : 0 < len → some b ≠ row) : Pars w' a0 len b off ps := by
  have hpos : ∀ (j : Nat) (p : Par), ps[j]? = some p → 0 < len := fun j p hp => by
    have := (List.getElem?_eq_some_iff.1 hp).1
    have := h.len_eq
    omega
  exact ⟨h.len_eq, fun h0 => ⟨(h.lies h0).1, Nat.lt_of_lt_of_le (h.lies h0).2 hg.size⟩, fun j p hp => hg.cell (h.one j p hp) (hr (hpos j p hp)), fun j p hp => hg.cell (h.two j p hp) (hr (hpos j p hp))⟩
theorem Pars.below {w w' : World} {a0 : Option Addr} {len b off : Nat} {ps : List Par} (h : Pars w a0 len b off ps) (hb : Below w.heap.size w w') : Pars w' a0 len b off ps :=
  h.grown (row := none) ⟨hb.os, hb.tape, hb.output, hb.size, fun i hi _ => hb.block i hi⟩ (fun _ => by simp)
theorem Pars.belowB {w w' : World} {a0 : Option Addr} {len b off : Nat} {ps : List Par} {B : Nat} (h : Pars w a0 len b off ps) (hb : Below B w w') (hB : 0 < len → b < B) : Pars w' a0 len b off ps := by
  have hpos : ∀ (j : Nat) (p : Par), ps[j]? = some p → b < B := fun j p hp => by
    have := (List.getElem?_eq_some_iff.1 hp).1
    have := h.len_eq
    exact hB (by omega)
  exact ⟨h.len_eq, fun h0 => ⟨(h.lies h0).1, Nat.lt_of_lt_of_le (h.lies h0).2 hb.size⟩, fun j p hp => (hb.cell (p := ⟨b, off + j * 2, none⟩) (hpos j p hp)).trans (h.one j p hp), fun j p hp => (hb.cell (p := ⟨b, off + j * 2 + 1, none⟩) (hpos j p hp)).trans (h.two j p hp)⟩
end Go.Proofs.YtoblpjknnchlmabGreatDoor

/- Rows of texts that lie somewhere. -/
namespace Go.Proofs.YtoblpjknnchlmabGreatDoor
open Go.RowKit

/-- A row of texts that lies somewhere. -/
structure Strs (w : World) (a0 : Option Addr) (len b off : Nat) (xs : List ByteArray) : Prop where
  len_eq : xs.length = len
  lies : 0 < len → a0 = some ⟨b, off, none⟩ ∧ b < w.heap.size
  cells : ∀ (j : Nat) (x : ByteArray), xs[j]? = some x → w.cell? ⟨b, off + j, none⟩ = some (.string x)
theorem Strs.below {w w' : World} {a0 : Option Addr} {len b off : Nat} {xs : List ByteArray} (h : Strs w a0 len b off xs) (hb : Below w.heap.size w w') : Strs w' a0 len b off xs := by
  refine ⟨h.len_eq, fun h0 => ⟨(h.lies h0).1, Nat.lt_of_lt_of_le (h.lies h0).2 hb.size⟩, fun j x hx => ?_⟩
  have hj := (List.getElem?_eq_some_iff.1 hx).1
  have hl := h.len_eq
  rw [hb.cell (p := ⟨b, off + j, none⟩) (h.lies (by omega)).2]
  exact h.cells j x hx
theorem OwnS.strs {w : World} {B : Nat} {v : Value} {xs : List ByteArray} (h : OwnS w B v xs) : ∃ (a : Option Addr) (cap g : Nat), v = .slice a xs.length cap ∧ Strs w a xs.length g 0 xs := by
  rcases h.2 with ⟨rfl, h0⟩ | ⟨g, cap, cur, rfl, _, hh, _, _, _, ht⟩
  · refine ⟨none, 0, 0, by rw [h0], rfl, fun h1 => absurd h0 (by omega), fun j x hx => ?_⟩
    have := (List.getElem?_eq_some_iff.1 hx).1
    omega
  · refine ⟨_, cap, g, rfl, rfl, fun _ => ⟨rfl, ?_⟩, fun j x hx => ?_⟩
    · rcases Nat.lt_or_ge g w.heap.size with h1 | h1
      · exact h1
      · simp [Array.getElem?_eq_none h1] at hh
    · have hj := World.ownsRow.cells h (g := g) rfl j (.string x) (by rw [List.getElem?_map, hx]; rfl)
      rw [WideShapes.add_plain] at hj
      exact hj
theorem Strs.drewN {w : World} {a0 : Option Addr} {len b off : Nat} {xs : List ByteArray} (h : Strs w a0 len b off xs) (n : Nat) : Strs (w.drewN n) a0 len b off xs := ⟨h.len_eq, h.lies, h.cells⟩
end Go.Proofs.YtoblpjknnchlmabGreatDoor

/- Which headers must be asked for, by the program. -/
namespace Go.Proofs.YtoblpjknnchlmabGreatDoor
open Go.RowKit

/-- Two rows of texts, each in blocks of its own. -/
structure Two (w : World) (B : Nat) (u v : Value) (xs ys : List ByteArray) : Prop where
  one : OwnS w B u xs
  two : OwnS w B v ys
  apart : ∀ k, u.ownBlock = some k → v.ownBlock ≠ some k
theorem Two.swap {w : World} {B : Nat} {u v : Value} {xs ys : List ByteArray} (h : Two w B u v xs ys) : Two w B v u ys xs := ⟨h.two, h.one, fun k h1 h2 => h.apart k h2 h1⟩
theorem Two.below {w w' : World} {B : Nat} {u v : Value} {xs ys : List ByteArray} (h : Two w B u v xs ys) (hb : Below w.heap.size w w') : Two w' B u v xs ys := ⟨h.one.below hb, h.two.below hb, h.apart⟩
theorem OwnS.other {w w' : World} {B : Nat} {u v : Value} {xs : List ByteArray} (h : OwnS w B v xs) (hg : w.grownBy w' u.ownBlock) (ha : ∀ k, u.ownBlock = some k → v.ownBlock ≠ some k) : OwnS w' B v xs := by
  rcases hu : u.ownBlock with _ | k
  · rw [hu] at hg
    refine World.ownsRow.kept h hg ?_
    rcases v.ownBlock with _ | j
    · exact .inl rfl
    · exact .inr (by simp)
  · rw [hu] at hg
    exact World.ownsRow.kept h hg (.inr (ha k hu))
/-- One text more at the first of two rows. -/
theorem wp_app2 {ops : Array Oper} {rest : List Oper} {o : Oper} {a : Act} {Q : Exit → Act → World → Prop} (hgd : o.guard = none) (s x : Operand)
    (ho : o.op = .call { callee := .builtin .append, args := #[s, x], argTypes := #[57, 57] })
    (B : Nat) (wr : World) (u v : Value) (xs ys : List ByteArray) (n : Nat) (hs : a.eval s = u) (hown : Two wr B u v xs ys) (hn : xs.length = n) (hl : n ≤ 100000) (hB : B ≤ wr.heap.size)
    (t : ByteArray) (hx : a.eval x = .slice (some ⟨wr.heap.size, 0, none⟩) 1 1)
    (h : ∀ g cap w', Two w' B (.slice (some ⟨g, 0, none⟩) (n + 1) cap) v (xs ++ [t]) ys → Below B wr w' → (∀ j, j < wr.heap.size → u.ownBlock ≠ some j → w'.heap[j]? = wr.heap[j]?) → wpList Tryz.prog ops Q rest (a.put o.dst (.slice (some ⟨g, 0, none⟩) (n + 1) cap)) w') :
    wpList Tryz.prog ops Q (o :: rest) a (wr.alloc (.cells #[.string t] 9)) := by
  subst hn
  obtain ⟨i0, hi0, hz0, hz1, hz2⟩ := info_parts info9
  refine wpList_append_lies _ hgd s x 57 ho B 9 i0 (.string ⟨#[]⟩) 1 16 Tryz.underlying57 hi0 hz0 hz1 hz2 rfl (by omega) u xs.length _ hs (World.ownsRow.alloc hown.one _) ⟨wr.heap.size, 0, none⟩ 1 1 [.string t] hx rfl
    (World.news_of_block (cs := #[.string t]) (t := 9) (fr := (0, 0)) (heap_alloc_new wr _)) (by simp [Value.oneCell']) (by omega) (by unfold maxLen; omega) (by omega) (by simp; omega) _ rfl ?_
  intro g cap w' hown1 hgrow hgw hlt
  have hb0 : Below wr.heap.size wr (wr.alloc (.cells #[.string t] 9)) := (Below.refl _ _).alloc (Nat.le_refl _) _
  refine h g cap w' ⟨?_, ?_, ?_⟩ ?_ ?_
  · unfold OwnS
    rw [List.length_append, List.map_append]
    exact hown1
  · exact (hown.two.below hb0).other hgrow hown.apart
  · intro k hk hvk
    have hkg : g = k := by simpa [Value.ownBlock] using hk
    subst hkg
    rcases hgw with e | e
    · exact hown.apart g e hvk
    · have := (hown.two.lt g hvk).2
      simp at e
      omega
  · exact ((Below.refl B wr).alloc hB _).grown hgrow (by simp; omega) (fun k hk => (hown.one.lt k hk).1)
  · intro j hj hne
    exact (hgrow.block j (by simp; omega) (fun e => hne e.symm)).trans (hb0.block j hj)
/-- All texts of the second row behind those of the first. -/
theorem wp_appAll {ops : Array Oper} {rest : List Oper} {o : Oper} {a : Act} {Q : Exit → Act → World → Prop} (hgd : o.guard = none) (s x : Operand)
    (ho : o.op = .call { callee := .builtin .append, args := #[s, x], argTypes := #[57, 57] })
    (B : Nat) (wr : World) (u v : Value) (xs ys : List ByteArray) (n m : Nat) (hs : a.eval s = u) (hx : a.eval x = v) (hown : Two wr B u v xs ys) (hn : xs.length = n) (hm : ys.length = m) (h0 : 0 < m) (hl : n + m ≤ 100000) (hB : B ≤ wr.heap.size)
    (h : ∀ g cap w', OwnS w' B (.slice (some ⟨g, 0, none⟩) (n + m) cap) (xs ++ ys) → Below B wr w' → wpList Tryz.prog ops Q rest (a.put o.dst (.slice (some ⟨g, 0, none⟩) (n + m) cap)) w') :
    wpList Tryz.prog ops Q (o :: rest) a wr := by
  subst hn hm
  obtain ⟨i0, hi0, hz0, hz1, hz2⟩ := info_parts info9
  rcases hown.two.2 with ⟨_, e⟩ | ⟨gv, cv, cur, rfl, hbv, hhv, h1, h2, h3, h4⟩
  · omega
  · refine wpList_append_lies _ hgd s x 57 ho B 9 i0 (.string ⟨#[]⟩) 1 16 Tryz.underlying57 hi0 hz0 hz1 hz2 rfl (by omega) u xs.length _ hs hown.one ⟨gv, 0, none⟩ ys.length cv (ys.map Value.string) hx (by simp)
      (fun j q hj => World.ownsRow.cells hown.two (g := gv) rfl j q hj) (fun q hq => by obtain ⟨b, _, rfl⟩ := List.mem_map.1 hq; rfl) h0 (by unfold maxLen; omega) (by omega) hB _ rfl ?_
    intro g cap w' hown1 hgrow hgw hlt
    refine h g cap w' ?_ ((Below.refl B wr).grown hgrow hB (fun k hk => (hown.one.lt k hk).1))
    unfold OwnS
    rw [List.length_append, List.map_append]
    exact hown1
def lowN (p : Par) : ByteArray := bs (p.1.data.toList.map low)
def plain8 (p : Par) : Bool := plainL p.1.data.toList p.2.data.toList
/-- The names of those that aren't plain, and of those that are, in their order; how many bytes of values the latter have. -/
def notPlain (ps : List Par) : List ByteArray := (ps.filter fun p => !plain8 p).map lowN
def arePlain (ps : List Par) : List ByteArray := (ps.filter fun p => plain8 p).map lowN
def together (ps : List Par) : Nat := ((ps.filter fun p => plain8 p).map fun p => p.2.size).sum
def askedNames (ps : List Par) : List ByteArray := if 1024 < together ps then notPlain ps ++ arePlain ps else notPlain ps
def askedL (ps : List Par) : List ByteArray := (Lib.compact (sortL (tx (askedNames ps)))).map bs
theorem take_next (ps : List Par) (k : Nat) (p : Par) (h : ps[k]? = some p) : ps.take (k + 1) = ps.take k ++ [p] := by
  obtain ⟨hk, e⟩ := List.getElem?_eq_some_iff.1 h
  rw [List.take_succ_eq_append_getElem hk, e]
theorem notPlain_yes (ps : List Par) (k : Nat) (p : Par) (h : ps[k]? = some p) (hp : plain8 p = true) : notPlain (ps.take (k + 1)) = notPlain (ps.take k) ∧ arePlain (ps.take (k + 1)) = arePlain (ps.take k) ++ [lowN p] ∧ together (ps.take (k + 1)) = together (ps.take k) + p.2.size := by
  unfold notPlain arePlain together
  rw [take_next ps k p h]
  simp [List.filter_append, hp]
theorem notPlain_no (ps : List Par) (k : Nat) (p : Par) (h : ps[k]? = some p) (hp : plain8 p = false) : notPlain (ps.take (k + 1)) = notPlain (ps.take k) ++ [lowN p] ∧ arePlain (ps.take (k + 1)) = arePlain (ps.take k) ∧ together (ps.take (k + 1)) = together (ps.take k) := by
  unfold notPlain arePlain together
  rw [take_next ps k p h]
  simp [List.filter_append, hp]
theorem sum_le (l : List Nat) (m : Nat) (h : ∀ x ∈ l, x ≤ m) : l.sum ≤ l.length * m := by
  induction l with
  | nil => simp
  | cons a t ih =>
    have h1 := h a (by simp)
    have h2 := ih (fun x hx => h x (by simp [hx]))
    rw [List.sum_cons, List.length_cons, Nat.succ_mul]
    omega
theorem plain_short (p : Par) (h : plain8 p = true) : p.2.size ≤ 128 := by
  unfold plain8 plainL at h
  rw [Bool.and_eq_true] at h
  have := of_decide_eq_true h.1
  have e : p.2.data.toList.length = p.2.size := Array.length_toList
  omega
theorem together_le (ps : List Par) : together ps ≤ ps.length * 128 := by
  unfold together
  refine Nat.le_trans (sum_le _ 128 ?_) (Nat.mul_le_mul_right _ ?_)
  · intro x hx
    obtain ⟨p, hp, rfl⟩ := List.mem_map.1 hx
    exact plain_short p (by simpa using (List.mem_filter.1 hp).2)
  · rw [List.length_map]; exact List.length_filter_le _ _
theorem lens_le (ps : List Par) : (notPlain ps).length + (arePlain ps).length = ps.length := by
  unfold notPlain arePlain
  rw [List.length_map, List.length_map]
  induction ps with
  | nil => rfl
  | cons p r ih =>
    cases h : plain8 p
    · rw [List.filter_cons_of_pos (by simp [h]), List.filter_cons_of_neg (by simp [h])]
      simp only [List.length_cons]
      omega
    · rw [List.filter_cons_of_neg (by simp [h]), List.filter_cons_of_pos (by simp [h])]
      simp only [List.length_cons]
      omega
theorem together_none (ps : List Par) (h : (arePlain ps).length = 0) : together ps = 0 := by
  unfold arePlain at h
  unfold together
  rw [List.length_map] at h
  rw [List.eq_nil_of_length_eq_zero h]
  rfl
end Go.Proofs.YtoblpjknnchlmabGreatDoor

/- What passes allow. -/
namespace Go.Proofs.YtoblpjknnchlmabGreatDoor

def authB : List UInt8 := [97, 117, 116, 104, 111, 114, 105, 122, 97, 116, 105, 111, 110]
def okM (wi : Bool) (m : ByteArray) (p : PsV) : Bool := p.me.toList == m.toList || (p.me.toList == [42] && !wi)
def okH (wi : Bool) (n : ByteArray) (p : PsV) : Bool := p.he.toList == n.toList || (p.he.toList == [42] && !wi && !(n.toList == [97, 117, 116, 104, 111, 114, 105, 122, 97, 116, 105, 111, 110]))
def coversL (wi : Bool) (m : ByteArray) (xs : List ByteArray) (l : List PsV) : Bool := (simpleL m.toList || l.any (okM wi m)) && xs.all fun n => l.any (okH wi n)
end Go.Proofs.YtoblpjknnchlmabGreatDoor

/- The library's functions over a row of passes that lies somewhere. -/
namespace Go.Proofs.YtoblpjknnchlmabGreatDoor
open Go.RowKit

/-- A function that says whether a pass is of a kind, at these, and what it holds. -/
structure KindQ (K : Nat) (lb : Array Value) (f : PsV → Bool) (ps : List PsV) (w : World) : Prop where
  says : ∀ p ∈ ps, ∀ W : World, Below w.heap.size w W → Calls Tryz.prog K (#[.agg #[.bool p.fs, .string p.fh, .int .i64 p.fp, .bool p.us, .string p.uh, .int .i64 p.up, .string p.pa, .string p.qu, .bool p.wi, .string p.me, .string p.he, .int .i64 p.un]] ++ lb) W fun e w' => e = .returned (.bool (f p)) ∧ Below W.heap.size W w'
  enters : ∀ (args : Array Value) (W : World), (callFunc K args).run Tryz.prog W = .ok (.enter K args) W
set_option maxRecDepth 100000 in
set_option maxHeartbeats 4000000 in
theorem indexQ_any (K : Nat) (lb : Array Value) (f : PsV → Bool) (ps : List PsV) (w : World) (hK : KindQ K lb f ps w) (a0 : Option Addr) (len cap b off : Nat) (hlen : len ≤ 1000000) (hx : Pss w a0 len b off ps) :
    Calls Tryz.prog 77 #[.slice a0 len cap, .func (.func K) #[] lb] w fun e w' => (∃ r : Int, e = .returned (.int .i64 r) ∧ Hid (decide (0 ≤ r) = ps.any f)) ∧ Below w.heap.size w w' := by
  have HX : Hid (Pss w a0 len b off ps) := hx
  have hl := hx.len_eq
  have HL : Hid (ps.length = len) := hl
  have HK0 : Hid (KindQ K lb f ps w) := hK
  have hen := hK.enters
  clear hK hx hl
  go_enter Tryz.func77, Tryz.ntmps77
  go_wp2
  go_loopw [8] (fun i wr => ∃ (k : Nat), k ≤ len ∧ i = .int .i64 k ∧ Hid ((ps.take k).any f = false) ∧ Hid (Below w.heap.size w wr)) (fun i _ => len - (intOf i).toNat)
  case atStart => exact ⟨0, Nat.zero_le _, rfl, rfl, Below.refl _ _⟩
  case round =>
    obtain ⟨k, hk, rfl, HK, HB⟩ := hrel
    by_cases hlt : k < len
    · have hltz : (k : Int) < (len : Int) := by omega
      obtain ⟨p, hp⟩ : ∃ p, ps[k]? = some p := ⟨ps[k]'(by have := HL.out; omega), List.getElem?_eq_getElem (by have := HL.out; omega)⟩
      have HPK : Hid (ps[k]? = some p) := hp
      have HM : Hid (p ∈ ps) := List.mem_of_getElem? hp
      obtain ⟨ha0, _⟩ := HX.out.lies (by omega)
      subst ha0
      obtain ⟨c0, c1, c2, c3, c4, c5, c6, c7, c8, c9, c10, c11⟩ := (HX.out.below HB.out).all hp
      have hsay := HK0.out.says p HM.out wr HB.out
      clear hp
      obtain ⟨q, HF⟩ : ∃ q, Hid (f p = q) := ⟨_, rfl⟩
      rw [HF.out] at hsay
      obtain ⟨xfs, xfh, xfp, xus, xuh, xup, xpa, xqu, xwi, xme, xhe, xun⟩ := p
      have HSAY : Hid (Calls Tryz.prog K (#[.agg #[.bool xfs, .string xfh, .int .i64 xfp, .bool xus, .string xuh, .int .i64 xup, .string xpa, .string xqu, .bool xwi, .string xme, .string xhe, .int .i64 xun]] ++ lb) wr fun e w' => e = .returned (.bool q) ∧ Below wr.heap.size wr w') := hsay
      clear hsay
      simp only at c0 c1 c2 c3 c4 c5 c6 c7 c8 c9 c10 c11
      cases q
      · have HS : Hid ((ps.take (k + 1)).any f = false) := take_any HK.out HPK.out HF.out
        go_wp2_with fail
        refine HSAY.out.mono ?_
        rintro e w' ⟨rfl, hb'⟩
        have HB2 : Hid (Below w.heap.size w w') := HB.out.trans (hb'.mono HB.out.size)
        clear hb'
        go_wp2
        go_roundw
        case rel => exact ⟨k + 1, by omega, by go_num, HS, HB2⟩
        case measure => simp [intOf]; omega
      · have HS : Hid (ps.any f = true) := List.any_eq_true.2 ⟨_, HM.out, HF.out⟩
        go_wp2_with fail
        refine HSAY.out.mono ?_
        rintro e w' ⟨rfl, hb'⟩
        have HB2 : Hid (Below w.heap.size w w') := HB.out.trans (hb'.mono HB.out.size)
        clear hb'
        go_wp2
        go_ret
        exact ⟨⟨_, rfl, by show _ = _; rw [HS.out]; exact decide_eq_true (Int.natCast_nonneg _)⟩, HB2.out⟩
    · have hltz : ¬ (k : Int) < (len : Int) := by omega
      have HS : Hid (ps.any f = false) := by
        have := HK.out
        rw [List.take_of_length_le (by have := HL.out; omega)] at this
        exact this
      go_wp2
      go_ret
      exact ⟨⟨_, rfl, by show _ = _; rw [HS.out]; rfl⟩, HB.out⟩
theorem containsQ_any (K : Nat) (lb : Array Value) (f : PsV → Bool) (ps : List PsV) (w : World) (hK : KindQ K lb f ps w) (a0 : Option Addr) (len cap b off : Nat) (hlen : len ≤ 1000000) (hx : Pss w a0 len b off ps) :
    Calls Tryz.prog 46 #[.slice a0 len cap, .func (.func K) #[] lb] w fun e w' => e = .returned (.bool (ps.any f)) ∧ Below w.heap.size w w' := by
  go_enter Tryz.func46, Tryz.ntmps46
  go_wp2_with (go_at_call 77; refine (indexQ_any K lb f ps w hK a0 len cap b off hlen hx).mono ?_; rintro e w'' ⟨⟨r, rfl, HR⟩, hb⟩)
  go_ret
  exact ⟨ret_bool HR.out, hb⟩
end Go.Proofs.YtoblpjknnchlmabGreatDoor

/- Which headers must be asked for, by the program: the walk. -/
namespace Go.Proofs.YtoblpjknnchlmabGreatDoor
open Go.RowKit Go.Shelf

/-- The headers are small, and few. -/
def Small8 (ps : List Par) : Prop := ∀ p ∈ ps, p.1.size ≤ 3000 ∧ p.2.size ≤ 3000
def AskInv (w : World) (ps : List Par) (k : Nat) (u v : Value) (W : World) : Prop :=
  Two W w.heap.size u v (notPlain (ps.take k)) (arePlain (ps.take k)) ∧ Below w.heap.size w W
theorem OwnS.slice {w : World} {B : Nat} {v : Value} {xs : List ByteArray} (h : OwnS w B v xs) : ∃ a cap, v = .slice a xs.length cap := by
  obtain ⟨a, cap, _, e, _⟩ := h.strs
  exact ⟨a, cap, e⟩
set_option maxRecDepth 100000 in
set_option maxHeartbeats 8000000 in
theorem asked8_any (ps : List Par) (hps : Small8 ps) (a0 : Option Addr) (len cap b off : Nat) (hlen : len ≤ 60) (w : World) (hx : Pars w a0 len b off ps) :
    Calls Tryz.prog 47 #[.slice a0 len cap] w fun e w' => (∃ v, e = .returned v ∧ OwnS w' w.heap.size v (askedL ps)) ∧ Below w.heap.size w w' := by
  have HX : Hid (Pars w a0 len b off ps) := hx
  have HP : Hid (Small8 ps) := hps
  have HL : Hid (ps.length = len) := hx.len_eq
  clear hx hps
  go_enter Tryz.func47, Tryz.ntmps47
  go_wp2
  go_loopw [3, 4, 5, 11] (fun su sv t i wr => ∃ (k : Nat) (tg : Nat) (u v : Value), k ≤ len ∧ u = su ∧ v = sv ∧ i = .int .i64 k ∧ t = .int .i64 tg ∧ tg ≤ 10000 ∧ Hid (tg = together (ps.take k)) ∧ Hid (AskInv w ps k u v wr)) (fun _ _ _ i _ => len - (intOf i).toNat)
  case atStart => exact ⟨0, 0, _, _, Nat.zero_le _, rfl, rfl, rfl, rfl, by omega, rfl, ⟨⟨ownS_nil _ _, ownS_nil _ _, fun k h => by cases h⟩, Below.refl _ _⟩⟩
  case round =>
    obtain ⟨k, tg, u, v, hk, rfl, rfl, rfl, rfl, htg, HT, HI⟩ := hrel
    by_cases hlt : k < len
    · have hltz : (k : Int) < (len : Int) := by omega
      obtain ⟨p, hp⟩ : ∃ p, ps[k]? = some p := ⟨ps[k]'(by have := HL.out; omega), List.getElem?_eq_getElem _⟩
      obtain ⟨pn, pv⟩ := p
      have HPK : Hid (ps[k]? = some (pn, pv)) := hp
      have hpz := HP.out _ (List.mem_of_getElem? hp)
      have hpz1 : pn.size ≤ 3000 := hpz.1
      have hpz2 : pv.size ≤ 3000 := hpz.2
      obtain ⟨ha0, _⟩ := HX.out.lies (by omega)
      subst ha0
      have hXr := HX.out.below HI.out.2
      have c1 : wr.cell? ⟨b, off + k * 2, none⟩ = some (.string pn) := hXr.one k _ hp
      have c2 : wr.cell? ⟨b, off + k * 2 + 1, none⟩ = some (.string pv) := hXr.two k _ hp
      have HW0 : Hid (∀ w', Below (wr.alloc (.cells #[.string pn, .string pv] 37)).heap.size (wr.alloc (.cells #[.string pn, .string pv] 37)) w' → AskInv w ps k u v w' ∧ w'.heap[wr.heap.size]? = some (.cells #[.string pn, .string pv] 37 (0, 0))) := fun w' hb => by
        have hb0 : Below wr.heap.size wr (wr.alloc (.cells #[.string pn, .string pv] 37)) := (Below.refl _ _).alloc (Nat.le_refl _) _
        have hb1 : Below wr.heap.size wr w' := hb0.trans (hb.mono (by simp))
        exact ⟨⟨HI.out.1.below hb1, HI.out.2.trans (hb1.mono HI.out.2.size)⟩, (hb.block _ (by simp)).trans (heap_alloc_new wr _)⟩
      obtain ⟨x, HN⟩ : ∃ x : ByteArray, Hid (bs (pn.data.toList.map low) = x) := ⟨_, rfl⟩
      have HVB : Hid ((∀ j, u.ownBlock = some j → j < wr.heap.size) ∧ (∀ j, v.ownBlock = some j → j < wr.heap.size)) := ⟨fun j h => (HI.out.1.one.lt j h).2, fun j h => (HI.out.1.two.lt j h).2⟩
      clear hp hpz hXr HI
      go_wp2_with fail
      refine (lower_any pn _ (by omega)).mono ?_
      rintro e w1 ⟨rfl, hb1⟩
      rw [HN.out]
      have HW1 : Hid (AskInv w ps k u v w1 ∧ w1.heap[wr.heap.size]? = some (.cells #[.string pn, .string pv] 37 (0, 0))) := HW0.out _ hb1
      clear hb1 HW0 c1 c2
      obtain ⟨x0, x1, _⟩ := two_at HW1.out.2
      obtain ⟨q, HQ⟩ : ∃ q, Hid (plainL pn.data.toList pv.data.toList = q) := ⟨_, rfl⟩
      go_wp2_with fail
      refine (plain_any pn pv (by omega) (by omega) _).mono ?_
      rintro e w2 ⟨rfl, hb2⟩
      rw [HQ.out]
      have HW2 : Hid (AskInv w ps k u v w2 ∧ w2.heap[wr.heap.size]? = some (.cells #[.string pn, .string pv] 37 (0, 0))) := ⟨⟨HW1.out.1.1.below hb2, HW1.out.1.2.trans (hb2.mono HW1.out.1.2.size)⟩, (hb2.block _ (Array.getElem?_eq_some_iff.1 HW1.out.2).1).trans HW1.out.2⟩
      clear hb2 x0 x1 HW1
      have hlens : (notPlain (ps.take k)).length + (arePlain (ps.take k)).length ≤ 60 := by
        have h1 := lens_le (ps.take k)
        have h2 : (ps.take k).length ≤ k := List.length_take_le _ _
        omega
      obtain ⟨au, cu, rfl⟩ := HW2.out.1.1.one.slice
      obtain ⟨av, cv, rfl⟩ := HW2.out.1.1.two.slice
      obtain ⟨nu, HNU⟩ : ∃ n, Hid ((notPlain (ps.take k)).length = n) := ⟨_, rfl⟩
      obtain ⟨nv, HNV⟩ : ∃ n, Hid ((arePlain (ps.take k)).length = n) := ⟨_, rfl⟩
      rw [HNU.out, HNV.out] at hlens
      rw [HNU.out, HNV.out] at HW2 HVB ⊢
      cases q
      · have HS := notPlain_no ps k _ HPK.out HQ.out
        have HNX : Hid (lowN (pn, pv) = x) := HN.out
        go_wp2_with (at_builtin; refine wp_app2 rfl _ _ rfl w.heap.size w2 (.slice au nu cu) (.slice av nv cv) _ _ nu rfl HW2.out.1.1 HNU.out (by omega) HW2.out.1.2.size x rfl ?_; intro g4 cap4 w4 hown4 hb4 hk4; have HW4 : Hid (Two w4 w.heap.size (.slice (some ⟨g4, 0, none⟩) (nu + 1) cap4) (.slice av nv cv) (notPlain (ps.take k) ++ [x]) (arePlain (ps.take k)) ∧ Below w.heap.size w w4) := ⟨hown4, HW2.out.1.2.trans hb4⟩; clear hown4 hb4 hk4)
        go_roundw
        case rel => exact ⟨k + 1, tg, _, _, by omega, rfl, rfl, by go_num, rfl, htg, by rw [HS.2.2]; exact HT, ⟨by rw [HS.1, HS.2.1, HNX.out]; exact HW4.out.1, HW4.out.2⟩⟩
        case measure => simp [intOf]; omega
      · have HS := notPlain_yes ps k _ HPK.out HQ.out
        have HNX : Hid (lowN (pn, pv) = x) := HN.out
        have htn : tg + pv.size ≤ 10000 := by
          have h1 := together_le (ps.take (k + 1))
          have h2 : (ps.take (k + 1)).length ≤ k + 1 := List.length_take_le _ _
          have h3 := HS.2.2
          have h4 : tg = together (ps.take k) := HT
          simp only at h3
          omega
        go_wp2_with (at_builtin; refine wp_app2 rfl _ _ rfl w.heap.size w2 (.slice av nv cv) (.slice au nu cu) _ _ nv rfl HW2.out.1.1.swap HNV.out (by omega) HW2.out.1.2.size x rfl ?_; intro g4 cap4 w4 hown4 hb4 hk4; have HW4 : Hid (Two w4 w.heap.size (.slice au nu cu) (.slice (some ⟨g4, 0, none⟩) (nv + 1) cap4) (notPlain (ps.take k)) (arePlain (ps.take k) ++ [x]) ∧ Below w.heap.size w w4) := ⟨hown4.swap, HW2.out.1.2.trans hb4⟩; have x1 := (two_at ((hk4 wr.heap.size (Array.getElem?_eq_some_iff.1 HW2.out.2).1 (fun e => Nat.lt_irrefl _ (HVB.out.2 _ e))).trans HW2.out.2)).2.1; clear hown4 hb4 hk4)
        go_roundw
        case rel => exact ⟨k + 1, tg + pv.size, _, _, by omega, rfl, rfl, by go_num, by go_num, htn, by rw [HS.2.2]; show tg + pv.size = _ + pv.size; rw [HT.out], ⟨by rw [HS.1, HS.2.1, HNX.out]; exact HW4.out.1, HW4.out.2⟩⟩
        case measure => simp [intOf]; omega
    · have hltz : ¬ (k : Int) < (len : Int) := by omega
      have HE : Hid (Two wr w.heap.size u v (notPlain ps) (arePlain ps) ∧ Below w.heap.size w wr ∧ tg = together ps) := by
        have h1 := HI.out
        have h2 : tg = together (ps.take k) := HT
        unfold AskInv at h1
        rw [List.take_of_length_le (by have := HL.out; omega)] at h1 h2
        exact ⟨h1.1, h1.2, h2⟩
      have hlens : (notPlain ps).length + (arePlain ps).length ≤ 60 := by
        have h1 := lens_le ps
        have := HL.out
        omega
      clear HI HT
      obtain ⟨au, cu, rfl⟩ := HE.out.1.one.slice
      obtain ⟨av, cv, rfl⟩ := HE.out.1.two.slice
      obtain ⟨nu, HNU⟩ : ∃ n, Hid ((notPlain ps).length = n) := ⟨_, rfl⟩
      obtain ⟨nv, HNV⟩ : ∃ n, Hid ((arePlain ps).length = n) := ⟨_, rfl⟩
      rw [HNU.out, HNV.out] at hlens
      rw [HNU.out, HNV.out] at HE ⊢
      go_upto_if 35 with fail
      go_cut [3] (fun s3 wc => ∃ u' : Value, u' = s3 ∧ Hid (OwnS wc w.heap.size u' (askedNames ps) ∧ Below w.heap.size w wc))
      case first =>
        by_cases hbig : 1024 < tg
        · have hbz : (1024 : Int) < (tg : Int) := by omega
          have HN : Hid (askedNames ps = notPlain ps ++ arePlain ps) := by
            show _ = _
            unfold askedNames
            rw [if_pos (by rw [← HE.out.2.2]; exact hbig)]
          have hn0 : 0 < nv := by
            rcases Nat.eq_zero_or_pos nv with h0 | h0
            · have h1 := together_none ps (by rw [HNV.out]; exact h0)
              have h2 := HE.out.2.2
              omega
            · exact h0
          go_wp2_with (at_builtin; refine wp_appAll rfl _ _ rfl w.heap.size wr (.slice au nu cu) (.slice av nv cv) _ _ nu nv rfl rfl HE.out.1 HNU.out HNV.out hn0 (by omega) HE.out.2.1.size ?_; intro g4 cap4 w4 hown4 hb4; have HW4 : Hid (OwnS w4 w.heap.size (.slice (some ⟨g4, 0, none⟩) (nu + nv) cap4) (notPlain ps ++ arePlain ps) ∧ Below w.heap.size w w4) := ⟨hown4, HE.out.2.1.trans hb4⟩; clear hown4 hb4)
          go_meet
          exact ⟨_, rfl, by rw [HN.out]; exact HW4⟩
        · have hbz : ¬ (1024 : Int) < (tg : Int) := by omega
          have HN : Hid (askedNames ps = notPlain ps) := by
            show _ = _
            unfold askedNames
            rw [if_neg (by rw [← HE.out.2.2]; exact hbig)]
          go_wp2
          go_meet
          exact ⟨_, rfl, by rw [HN.out]; exact ⟨HE.out.1.one, HE.out.2.1⟩⟩
      case rest =>
      obtain ⟨u', rfl, HC⟩ := hcut
      have hal : (askedNames ps).length ≤ 1000000 := by
        unfold askedNames
        split
        · rw [List.length_append, HNU.out, HNV.out]; omega
        · rw [HNU.out]; omega
      clear HE hlens
      go_wp2_with fail
      refine (sort_own _ w.heap.size u' _ HC.out.1 hal).mono ?_
      rintro e w5 ⟨rfl, hown5, hg5⟩
      have HW5 : Hid (OwnS w5 w.heap.size u' ((sortL (tx (askedNames ps))).map bs) ∧ Below w.heap.size w w5) := ⟨hown5, HC.out.2.grown hg5 HC.out.2.size (fun j hj => (HC.out.1.lt j hj).1)⟩
      clear hown5 hg5
      go_wp2_with fail
      refine (compact_own _ w.heap.size u' _ HW5.out.1 (by rw [List.length_map, sortL_len]; unfold tx; rw [List.length_map]; exact hal)).mono ?_
      rintro e w6 ⟨⟨v6, rfl, hown6⟩, hg6⟩
      have HW6 : Hid (OwnS w6 w.heap.size v6 (askedL ps) ∧ Below w.heap.size w w6) := by
        rw [tx_bs] at hown6
        exact ⟨hown6, HW5.out.2.grown hg6 HW5.out.2.size (fun j hj => (HW5.out.1.lt j hj).1)⟩
      clear hown6 hg6
      go_wp2
      go_ret
      exact ⟨⟨v6, rfl, HW6.out.1⟩, HW6.out.2⟩
end Go.Proofs.YtoblpjknnchlmabGreatDoor

/- Covers: whether passes allow a request, by the program. -/
namespace Go.Proofs.YtoblpjknnchlmabGreatDoor
open Go.RowKit

set_option maxRecDepth 100000 in
set_option maxHeartbeats 2000000 in
theorem allowsM (p : PsV) (gm gr : Nat) (m : ByteArray) (wi : Bool) (w : World) (h1 : w.cell? ⟨gm, 0, none⟩ = some (.string m)) (h2 : w.cell? ⟨gr, 11, none⟩ = some (.bool wi)) :
    Calls Tryz.prog 44 #[.agg #[.bool p.fs, .string p.fh, .int .i64 p.fp, .bool p.us, .string p.uh, .int .i64 p.up, .string p.pa, .string p.qu, .bool p.wi, .string p.me, .string p.he, .int .i64 p.un], .pointer (some ⟨gm, 0, none⟩), .pointer (some ⟨gr, 0, none⟩)] w fun e w' => e = .returned (.bool (okM wi m p)) ∧ Below w.heap.size w w' := by
  have HB : Hid (BoxQ 50 w #[.bool p.fs, .string p.fh, .int .i64 p.fp, .bool p.us, .string p.uh, .int .i64 p.up, .string p.pa, .string p.qu, .bool p.wi, .string p.me, .string p.he, .int .i64 p.un] (w.alloc (.cells #[.bool p.fs, .string p.fh, .int .i64 p.fp, .bool p.us, .string p.uh, .int .i64 p.up, .string p.pa, .string p.qu, .bool p.wi, .string p.me, .string p.he, .int .i64 p.un] 50))) := BoxQ.new _ _ _
  have h1' : (w.alloc (.cells #[.bool p.fs, .string p.fh, .int .i64 p.fp, .bool p.us, .string p.uh, .int .i64 p.up, .string p.pa, .string p.qu, .bool p.wi, .string p.me, .string p.he, .int .i64 p.un] 50)).cell? ⟨gm, 0, none⟩ = some (.string m) := (HB.out.bel.cell (p := ⟨gm, 0, none⟩) (lt_cell9 h1)).trans h1
  have h2' : (w.alloc (.cells #[.bool p.fs, .string p.fh, .int .i64 p.fp, .bool p.us, .string p.uh, .int .i64 p.up, .string p.pa, .string p.qu, .bool p.wi, .string p.me, .string p.he, .int .i64 p.un] 50)).cell? ⟨gr, 11, none⟩ = some (.bool wi) := (HB.out.bel.cell (p := ⟨gr, 11, none⟩) (lt_cell9 h2)).trans h2
  have c9 := HB.out.at 9 _ rfl
  obtain ⟨q, HQ⟩ : ∃ q, Hid ((p.me.toList == m.toList) = q) := ⟨_, rfl⟩
  obtain ⟨r, HR⟩ : ∃ r, Hid ((p.me.toList == [42]) = r) := ⟨_, rfl⟩
  have q1 : (p.me.toList == m.toList) = q := HQ.out
  have r1 : (p.me.toList == [42]) = r := HR.out
  have HA : Hid (okM wi m p = (q || (r && !wi))) := by show _ = _; unfold okM; rw [q1, r1]
  clear h1 h2
  go_enter Tryz.func44, Tryz.ntmps44
  cases q
  · cases r
    · go_wp2
      go_ret
      exact ⟨ret_bool (by rw [HA.out]; rfl), HB.out.bel⟩
    · go_wp2
      go_ret
      exact ⟨ret_bool (by rw [HA.out]; simp), HB.out.bel⟩
  · go_wp2
    go_ret
    exact ⟨ret_bool (by rw [HA.out]; rfl), HB.out.bel⟩
set_option maxRecDepth 100000 in
set_option maxHeartbeats 2000000 in
theorem allowsH (p : PsV) (gm gr : Nat) (n : ByteArray) (wi : Bool) (w : World) (h1 : w.cell? ⟨gm, 0, none⟩ = some (.string n)) (h2 : w.cell? ⟨gr, 11, none⟩ = some (.bool wi)) :
    Calls Tryz.prog 48 #[.agg #[.bool p.fs, .string p.fh, .int .i64 p.fp, .bool p.us, .string p.uh, .int .i64 p.up, .string p.pa, .string p.qu, .bool p.wi, .string p.me, .string p.he, .int .i64 p.un], .pointer (some ⟨gm, 0, none⟩), .pointer (some ⟨gr, 0, none⟩)] w fun e w' => e = .returned (.bool (okH wi n p)) ∧ Below w.heap.size w w' := by
  have HB : Hid (BoxQ 50 w #[.bool p.fs, .string p.fh, .int .i64 p.fp, .bool p.us, .string p.uh, .int .i64 p.up, .string p.pa, .string p.qu, .bool p.wi, .string p.me, .string p.he, .int .i64 p.un] (w.alloc (.cells #[.bool p.fs, .string p.fh, .int .i64 p.fp, .bool p.us, .string p.uh, .int .i64 p.up, .string p.pa, .string p.qu, .bool p.wi, .string p.me, .string p.he, .int .i64 p.un] 50))) := BoxQ.new _ _ _
  have h1' : (w.alloc (.cells #[.bool p.fs, .string p.fh, .int .i64 p.fp, .bool p.us, .string p.uh, .int .i64 p.up, .string p.pa, .string p.qu, .bool p.wi, .string p.me, .string p.he, .int .i64 p.un] 50)).cell? ⟨gm, 0, none⟩ = some (.string n) := (HB.out.bel.cell (p := ⟨gm, 0, none⟩) (lt_cell9 h1)).trans h1
  have h2' : (w.alloc (.cells #[.bool p.fs, .string p.fh, .int .i64 p.fp, .bool p.us, .string p.uh, .int .i64 p.up, .string p.pa, .string p.qu, .bool p.wi, .string p.me, .string p.he, .int .i64 p.un] 50)).cell? ⟨gr, 11, none⟩ = some (.bool wi) := (HB.out.bel.cell (p := ⟨gr, 11, none⟩) (lt_cell9 h2)).trans h2
  have c10 := HB.out.at 10 _ rfl
  obtain ⟨q, HQ⟩ : ∃ q, Hid ((p.he.toList == n.toList) = q) := ⟨_, rfl⟩
  obtain ⟨r, HR⟩ : ∃ r, Hid ((p.he.toList == [42]) = r) := ⟨_, rfl⟩
  have q1 : (p.he.toList == n.toList) = q := HQ.out
  have r1 : (p.he.toList == [42]) = r := HR.out
  have HA : Hid (okH wi n p = (q || (r && !wi && !(n.toList == [97, 117, 116, 104, 111, 114, 105, 122, 97, 116, 105, 111, 110])))) := by show _ = _; unfold okH; rw [q1, r1]
  clear h1 h2
  go_enter Tryz.func48, Tryz.ntmps48
  cases q
  · cases r
    · go_wp2
      go_ret
      exact ⟨ret_bool (by rw [HA.out]; rfl), HB.out.bel⟩
    · cases wi
      · go_wp2
        go_ret
        exact ⟨ret_bool (by rw [HA.out]; simp), HB.out.bel⟩
      · go_wp2
        go_ret
        exact ⟨ret_bool (by rw [HA.out]; rfl), HB.out.bel⟩
  · go_wp2
    go_ret
    exact ⟨ret_bool (by rw [HA.out]; rfl), HB.out.bel⟩
theorem kindM (ps : List PsV) (gm gr : Nat) (m : ByteArray) (wi : Bool) (w : World) (h1 : w.cell? ⟨gm, 0, none⟩ = some (.string m)) (h2 : w.cell? ⟨gr, 11, none⟩ = some (.bool wi)) :
    KindQ 44 #[.pointer (some ⟨gm, 0, none⟩), .pointer (some ⟨gr, 0, none⟩)] (okM wi m) ps w :=
  ⟨fun p _ W hW => allowsM p gm gr m wi W ((hW.cell (p := ⟨gm, 0, none⟩) (lt_cell9 h1)).trans h1) ((hW.cell (p := ⟨gr, 11, none⟩) (lt_cell9 h2)).trans h2), enters_at Tryz.func44 (by kernel_rfl) rfl⟩
theorem kindH (ps : List PsV) (gm gr : Nat) (n : ByteArray) (wi : Bool) (w : World) (h1 : w.cell? ⟨gm, 0, none⟩ = some (.string n)) (h2 : w.cell? ⟨gr, 11, none⟩ = some (.bool wi)) :
    KindQ 48 #[.pointer (some ⟨gm, 0, none⟩), .pointer (some ⟨gr, 0, none⟩)] (okH wi n) ps w :=
  ⟨fun p _ W hW => allowsH p gm gr n wi W ((hW.cell (p := ⟨gm, 0, none⟩) (lt_cell9 h1)).trans h1) ((hW.cell (p := ⟨gr, 11, none⟩) (lt_cell9 h2)).trans h2), enters_at Tryz.func48 (by kernel_rfl) rfl⟩
set_option maxRecDepth 100000 in
set_option maxHeartbeats 8000000 in
theorem covers9_any (hs : List Par) (hps : Small8 hs) (ra : Option Addr) (rl rc rb ro : Nat) (hrl : rl ≤ 60) (pt fp up : Int) (fs us wi : Bool) (fh uh pa qu me bo : ByteArray) (hme : me.size ≤ 3000)
    (ps : List PsV) (a0 : Option Addr) (len cap b off : Nat) (hlen : len ≤ 1000000) (w : World) (hm : Methods w) (hh : Pars w ra rl rb ro hs) (hx : Pss w a0 len b off ps) :
    Calls Tryz.prog 23 #[.agg #[.int .i64 pt, .bool fs, .string fh, .int .i64 fp, .bool us, .string uh, .int .i64 up, .string pa, .string qu, .string me, .slice ra rl rc, .bool wi, .string bo], .slice a0 len cap] w fun e w' => e = .returned (.bool (coversL wi (methodB me) (askedL hs) ps)) ∧ Below w.heap.size w w' := by
  have HQ : Hid (BoxQ 28 w #[.int .i64 pt, .bool fs, .string fh, .int .i64 fp, .bool us, .string uh, .int .i64 up, .string pa, .string qu, .string me, .slice ra rl rc, .bool wi, .string bo] (w.alloc (.cells #[.int .i64 pt, .bool fs, .string fh, .int .i64 fp, .bool us, .string uh, .int .i64 up, .string pa, .string qu, .string me, .slice ra rl rc, .bool wi, .string bo] 28))) := BoxQ.new _ _ _
  have HX : Hid (Pss w a0 len b off ps) := hx
  have HH : Hid (Pars w ra rl rb ro hs) := hh
  have HPS : Hid (Small8 hs) := hps
  have hmc := method_any me hme _ (hm.below HQ.out.bel (Nat.le_refl _))
  obtain ⟨m, HM⟩ : ∃ m, Hid (methodB me = m) := ⟨_, rfl⟩
  rw [HM.out] at hmc
  rw [HM.out]
  obtain ⟨xs, HXS⟩ : ∃ xs, Hid (askedL hs = xs) := ⟨_, rfl⟩
  rw [HXS.out]
  have hxl : xs.length ≤ 60 := by
    rw [← HXS.out]
    unfold askedL
    rw [List.length_map]
    have h1 := compact_len (sortL (tx (askedNames hs)))
    have h2 : (tx (askedNames hs)).length = (askedNames hs).length := by unfold tx; simp
    rw [sortL_len, h2] at h1
    have h3 := lens_le hs
    have h4 : (askedNames hs).length ≤ hs.length := by
      unfold askedNames
      split
      · rw [List.length_append]; omega
      · omega
    have := hh.len_eq
    omega
  clear hx hh hps hm
  have c9 := HQ.out.at 9 _ rfl
  go_enter Tryz.func23, Tryz.ntmps23
  go_wp2_with fail
  refine hmc.mono ?_
  rintro e w1 ⟨rfl, hb1⟩
  have HQ1 : Hid (BoxQ 28 w #[.int .i64 pt, .bool fs, .string fh, .int .i64 fp, .bool us, .string uh, .int .i64 up, .string pa, .string qu, .string me, .slice ra rl rc, .bool wi, .string bo] w1) := HQ.out.step hb1
  have HB2 : Hid (Below w1.heap.size w1 (w1.alloc (.cells #[.string m] 9))) := (Below.refl _ _).alloc (Nat.le_refl _) _
  have HQ2 : Hid (BoxQ 28 w #[.int .i64 pt, .bool fs, .string fh, .int .i64 fp, .bool us, .string uh, .int .i64 up, .string pa, .string qu, .string me, .slice ra rl rc, .bool wi, .string bo] (w1.alloc (.cells #[.string m] 9))) := HQ1.out.step HB2.out
  have cm : (w1.alloc (.cells #[.string m] 9)).cell? ⟨w1.heap.size, 0, none⟩ = some (.string m) := World.cell?_alloc_mark _ _ _ _ _
  have HCM : Hid ((w1.alloc (.cells #[.string m] 9)).cell? ⟨w1.heap.size, 0, none⟩ = some (.string m)) := cm
  have hlt1 := HQ1.out.lt
  clear hmc hb1 c9 HQ HQ1
  obtain ⟨z, HZ⟩ : ∃ z, Hid (simpleL m.toList = z) := ⟨_, rfl⟩
  have hsm := fun W => simple_any m W
  rw [HZ.out] at hsm
  have HW2 : Hid (Below w.heap.size w (w1.alloc (.cells #[.string m] 9))) := HQ2.out.bel
  have HCT : Hid (∀ (K : Nat) (lb : Array Value) (f : PsV → Bool) (W : World), Below w.heap.size w W → KindQ K lb f ps W → Calls Tryz.prog 46 #[.slice a0 len cap, .func (.func K) #[] lb] W fun e w' => e = .returned (.bool (ps.any f)) ∧ Below W.heap.size W w') :=
    fun K lb f W hW hk => containsQ_any K lb f ps W hk a0 len cap b off hlen (HX.out.below hW)
  obtain ⟨u, HU⟩ : ∃ u, Hid (ps.any (okM wi m) = u) := ⟨_, rfl⟩
  go_upto_region 3 with fail
  generalize hW : w1.alloc (.cells #[.string m] 9) = W2 at HB2 HQ2 HCM HW2 cm ⊢
  have HG : Hid (w1.heap.size < W2.heap.size) := by show _ < _; rw [← hW]; simp
  obtain ⟨gm, HGM⟩ : ∃ gm, Hid (w1.heap.size = gm) := ⟨_, rfl⟩
  rw [HGM.out] at HCM HG cm hlt1 ⊢
  clear hW
  have HKM : Hid (∀ W, Below W2.heap.size W2 W → KindQ 44 #[.pointer (some ⟨gm, 0, none⟩), .pointer (some ⟨w.heap.size, 0, none⟩)] (okM wi m) ps W) := fun W hW =>
    kindM ps gm w.heap.size m wi W ((hW.cell (p := ⟨gm, 0, none⟩) (lt_cell9 HCM.out)).trans HCM.out) ((HQ2.out.step hW).at 11 _ rfl)
  go_cut [22] (fun v wc => v = .bool (!(z || u)) ∧ Hid (Below W2.heap.size W2 wc))
  case first =>
    go_wp2_with fail
    refine (hsm _).mono ?_
    rintro e w3 ⟨rfl, hw3⟩
    obtain rfl := hw3.symm
    cases z
    · go_wp2_with fail
      refine (HCT.out _ _ _ _ HW2.out (HKM.out _ (Below.refl _ _))).mono ?_
      rintro e w4 ⟨rfl, hb4⟩
      rw [HU.out]
      have HB4 : Hid (Below W2.heap.size W2 w4) := hb4
      clear hb4
      go_wp2
      go_meet
      exact ⟨rfl, HB4⟩
    · go_wp2
      go_meet
      exact ⟨rfl, Below.refl _ _⟩
  case rest =>
  obtain ⟨rfl, HBC⟩ := hcut
  clear hsm cm
  have HA : Hid (coversL wi m xs ps = ((z || u) && xs.all fun n => ps.any (okH wi n))) := by show _ = _; unfold coversL; rw [HZ.out, HU.out]
  cases hzu : (z || u)
  · have HE : Hid (coversL wi m xs ps = false) := by show _ = _; rw [HA.out, hzu]; rfl
    have HB4 : Hid (Below w.heap.size w wc) := HQ2.out.inB HBC.out
    go_wp2
    go_ret
    exact ⟨ret_bool HE.out.symm, HB4.out⟩
  have HE : Hid (coversL wi m xs ps = xs.all fun n => ps.any (okH wi n)) := by show _ = _; rw [HA.out, hzu, Bool.true_and]
  clear hzu HA HZ HU HKM HCM
  have HQC : Hid (BoxQ 28 w #[.int .i64 pt, .bool fs, .string fh, .int .i64 fp, .bool us, .string uh, .int .i64 up, .string pa, .string qu, .string me, .slice ra rl rc, .bool wi, .string bo] wc) := HQ2.out.step HBC.out
  have c10 := HQC.out.at 10 _ rfl
  go_wp2_with fail
  refine (asked8_any hs HPS.out ra rl rc rb ro hrl _ (HH.out.below HQC.out.bel)).mono ?_
  rintro e w5 ⟨⟨v, rfl, hown⟩, hb5⟩
  rw [HXS.out] at hown
  obtain ⟨xa, xc, xg, rfl, hst⟩ := hown.strs
  have HQ5 : Hid (BoxQ 28 w #[.int .i64 pt, .bool fs, .string fh, .int .i64 fp, .bool us, .string uh, .int .i64 up, .string pa, .string qu, .string me, .slice ra rl rc, .bool wi, .string bo] w5) := HQC.out.step hb5
  have HS5 : Hid (Strs w5 xa xs.length xg 0 xs) := hst
  clear hown hb5 hst c10 HQC HBC HQ2 HB2
  obtain ⟨n, HN⟩ : ∃ n, Hid (xs.length = n) := ⟨_, rfl⟩
  rw [HN.out] at HS5 hxl ⊢
  go_wp2
  go_loopw [27] (fun i wr => ∃ k : Nat, k ≤ n ∧ i = .int .i64 k ∧ Hid (Below w5.heap.size w5 wr) ∧ Hid (((xs.take k).all fun n => ps.any (okH wi n)) = true)) (fun i _ => n - (intOf i).toNat)
  case atStart => exact ⟨0, Nat.zero_le _, rfl, Below.refl _ _, rfl⟩
  case round =>
    obtain ⟨k, hk, rfl, HBR, HK⟩ := hrel
    by_cases hlt : k < n
    · have hltz : (k : Int) < (n : Int) := by omega
      obtain ⟨x, hx⟩ : ∃ x, xs[k]? = some x := ⟨xs[k]'(by have := HN.out; omega), List.getElem?_eq_getElem _⟩
      have HXK : Hid (xs[k]? = some x) := hx
      obtain ⟨ha, _⟩ := HS5.out.lies (by omega)
      subst ha
      have cx : wr.cell? ⟨xg, k, none⟩ = some (.string x) := by
        have := (HS5.out.below HBR.out).cells k x hx
        rwa [Nat.zero_add] at this
      have HBA : Hid (Below wr.heap.size wr (wr.alloc (.cells #[.string x] 9))) := (Below.refl _ _).alloc (Nat.le_refl _) _
      have cn : (wr.alloc (.cells #[.string x] 9)).cell? ⟨wr.heap.size, 0, none⟩ = some (.string x) := World.cell?_alloc_mark _ _ _ _ _
      have HQA : Hid (BoxQ 28 w #[.int .i64 pt, .bool fs, .string fh, .int .i64 fp, .bool us, .string uh, .int .i64 up, .string pa, .string qu, .string me, .slice ra rl rc, .bool wi, .string bo] (wr.alloc (.cells #[.string x] 9))) := (HQ5.out.step HBR.out).step HBA.out
      have HKH : Hid (KindQ 48 #[.pointer (some ⟨wr.heap.size, 0, none⟩), .pointer (some ⟨w.heap.size, 0, none⟩)] (okH wi x) ps (wr.alloc (.cells #[.string x] 9))) := kindH ps _ _ x wi _ cn (HQA.out.at 11 _ rfl)
      obtain ⟨t, HTT⟩ : ∃ t, Hid (ps.any (okH wi x) = t) := ⟨_, rfl⟩
      clear hx cn
      go_wp2_with fail
      refine (HCT.out _ _ _ _ HQA.out.bel HKH.out).mono ?_
      rintro e w6 ⟨rfl, hb6⟩
      rw [HTT.out]
      have HB6 : Hid (Below w5.heap.size w5 w6) := HBR.out.trans ((HBA.out.trans (hb6.mono HBA.out.size)).mono HBR.out.size)
      clear hb6 cx
      cases t
      · have HEE : Hid (coversL wi m xs ps = false) := by show _ = _; rw [HE.out]; exact not_all HXK.out HTT.out
        go_wp2
        go_ret
        exact ⟨ret_bool HEE.out.symm, HQ5.out.inB HB6.out⟩
      · have HKK : Hid (((xs.take (k + 1)).all fun n => ps.any (okH wi n)) = true) := take_all HK.out HXK.out HTT.out
        go_wp2
        go_roundw
        case rel => exact ⟨k + 1, by omega, by go_num, HB6, HKK⟩
        case measure => simp [intOf]; omega
    · have hltz : ¬ (k : Int) < (n : Int) := by omega
      have HEE : Hid (coversL wi m xs ps = true) := by
        have := HK.out
        rw [List.take_of_length_le (by have := HN.out; omega)] at this
        show _ = _
        rw [HE.out]
        exact this
      go_wp2
      go_ret
      exact ⟨ret_bool HEE.out.symm, HQ5.out.inB HBR.out⟩
end Go.Proofs.YtoblpjknnchlmabGreatDoor

/- Needs: whether a request must be asked for first, by the program. -/
namespace Go.Proofs.YtoblpjknnchlmabGreatDoor
open Go.RowKit

def sameO (fs : Bool) (fh : ByteArray) (fp : Int) (us : Bool) (uh : ByteArray) (up : Int) : Bool := fs == us && (fh.toList == uh.toList && fp == up)
theorem eqR9 (a c : Bool) (x y : ByteArray) (n m : Int) (E : Bool) (hE : sameO a x n c y m = E) (w : World) :
    (Op.equalIn 10000 23 (.agg #[.bool a, .string x, .int .i64 n]) (.agg #[.bool c, .string y, .int .i64 m])).run Tryz.prog w = .ok E w := by
  have u3 := Tryz.underlying3
  have u4 := Tryz.underlying4
  have u9 := Tryz.underlying9
  have a3 := Tryz.isAgg3
  have z3 := Tryz.sizeOf3
  have hS : Tryz.prog.underlying 23 = some (.struct (Tryz.prog.fieldsOf 23)) := by kernel_rfl
  have hp : Tryz.prog.stoodInHeld 23 = false := by kernel_rfl
  unfold sameO at hE
  rw [show (10000 : Nat) = 9999 + 1 from rfl, run_equalIn_agg w 9999 23 _ _ hS hp, ← hE]
  simp only [Program.fieldsOf, Tryz.underlying23]
  go_simp
  rw [← hE]
  by_cases h1 : a = c <;> by_cases h2 : x.toList = y.toList <;> by_cases h3 : n = m <;> simp [h1, h2, h3]
set_option maxRecDepth 100000 in
set_option maxHeartbeats 4000000 in
theorem needs9_any (hs : List Par) (hps : Small8 hs) (ra : Option Addr) (rl rc rb ro : Nat) (hrl : rl ≤ 60) (pt fp up : Int) (fs us wi : Bool) (fh uh pa qu me bo : ByteArray) (hme : me.size ≤ 3000)
    (w : World) (hm : Methods w) (hh : Pars w ra rl rb ro hs) :
    Calls Tryz.prog 10 #[.agg #[.int .i64 pt, .bool fs, .string fh, .int .i64 fp, .bool us, .string uh, .int .i64 up, .string pa, .string qu, .string me, .slice ra rl rc, .bool wi, .string bo]] w fun e w' => e = .returned (.bool (!sameO fs fh fp us uh up && !coversL wi (methodB me) (askedL hs) [])) ∧ Below w.heap.size w w' := by
  have HQ : Hid (BoxQ 28 w #[.int .i64 pt, .bool fs, .string fh, .int .i64 fp, .bool us, .string uh, .int .i64 up, .string pa, .string qu, .string me, .slice ra rl rc, .bool wi, .string bo] (w.alloc (.cells #[.int .i64 pt, .bool fs, .string fh, .int .i64 fp, .bool us, .string uh, .int .i64 up, .string pa, .string qu, .string me, .slice ra rl rc, .bool wi, .string bo] 28))) := BoxQ.new _ _ _
  obtain ⟨t, HT⟩ : ∃ t, Hid (coversL wi (methodB me) (askedL hs) [] = t) := ⟨_, rfl⟩
  have hcv := covers9_any hs hps ra rl rc rb ro hrl pt fp up fs us wi fh uh pa qu me bo hme [] none 0 0 0 0 (by decide) _ (hm.below HQ.out.bel (Nat.le_refl _)) (hh.below HQ.out.bel) (pss_nil _)
  rw [HT.out] at hcv
  rw [HT.out]
  obtain ⟨q, HE⟩ : ∃ q, Hid (sameO fs fh fp us uh up = q) := ⟨_, rfl⟩
  have eo := fun W => eqR9 fs us fh uh fp up q HE.out W
  rw [HE.out]
  have c0 := HQ.out.at 0 _ rfl
  have c1 := HQ.out.at 1 _ rfl
  have c2 := HQ.out.at 2 _ rfl
  have c3 := HQ.out.at 3 _ rfl
  have c4 := HQ.out.at 4 _ rfl
  have c5 := HQ.out.at 5 _ rfl
  have c6 := HQ.out.at 6 _ rfl
  have c7 := HQ.out.at 7 _ rfl
  have c8 := HQ.out.at 8 _ rfl
  have c9 := HQ.out.at 9 _ rfl
  have c10 := HQ.out.at 10 _ rfl
  have c11 := HQ.out.at 11 _ rfl
  have c12 := HQ.out.at 12 _ rfl
  clear hm hh hps
  go_enter Tryz.func10, Tryz.ntmps10
  cases q
  · go_wp2_with fail
    refine hcv.mono ?_
    rintro e w1 ⟨rfl, hb1⟩
    have HB1 : Hid (Below w.heap.size w w1) := HQ.out.inB hb1
    clear hb1 hcv c0 c1 c2 c3 c4 c5 c6 c7 c8 c9 c10 c11 c12
    go_wp2
    go_ret
    exact ⟨ret_bool (by simp), HB1.out⟩
  · go_wp2
    go_ret
    exact ⟨ret_bool (by simp), HQ.out.bel⟩
end Go.Proofs.YtoblpjknnchlmabGreatDoor

/- A part of a text is no longer than it. -/
namespace Go.Proofs.YtoblpjknnchlmabGreatDoor

theorem splitL_lens (d : UInt8) : ∀ (l : List UInt8) (p : List UInt8), p ∈ splitL d l → p.length ≤ l.length
  | [], p, h => by
    rw [splitL] at h
    rw [List.mem_singleton.1 h]
    exact Nat.le_refl _
  | c :: t, p, h => by
    have ih := splitL_lens d t
    rw [splitL] at h
    split at h
    · rcases List.mem_cons.1 h with h | h
      · rw [h]; exact Nat.zero_le _
      · have := ih p h
        rw [List.length_cons]
        omega
    · split at h
      · rename_i h2
        rw [List.mem_singleton.1 h]
        simp
      · rename_i q r h2
        rcases List.mem_cons.1 h with h | h
        · rw [h]
          have := ih q (by rw [h2]; exact List.mem_cons_self)
          simp
          omega
        · have := ih p (by rw [h2]; exact List.mem_cons_of_mem _ h)
          rw [List.length_cons]
          omega
end Go.Proofs.YtoblpjknnchlmabGreatDoor
