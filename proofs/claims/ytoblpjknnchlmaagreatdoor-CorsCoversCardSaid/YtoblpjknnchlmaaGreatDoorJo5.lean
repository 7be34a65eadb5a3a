/- Texts of one claim, joined: each begins with what it proves. -/
import Derived.Test.YtoblpjknnchlmaaGreatDoorJo4
import Derived.Test.YtoblpjknnchlmaaGreatDoorJo3
import Derived.Test.YtoblpjknnchlmaaGreatDoorJo1
import Derived.Deep.QuietTactic
import Derived.BigQuiet
import Derived.Deep.LoopGhost
import Derived.Deep.RegionHeld3
import Derived.Deep.DeepCutAuto
import Derived.RegionTactic
import Derived.ProofKit
import Derived.OpenShut
import Derived.SliceStrings
import Derived.Carry
import Derived.SizedLaws
import Derived.Deep.Slices
import Derived.Deep.SlicePairs
import Derived.Deep.Strs
import Derived.Lib.SmallJoins
/- What must be asked for, as lists: rising, each once, in small letters; in whichever order. -/
namespace Go.Proofs.YtoblpjknnchlmaaGreatDoor
open Go.RowKit

theorem lt_of_le_ne8 {a b : List UInt8} (h : a ≤ b) (hne : a ≠ b) : a < b := by
  rcases Decidable.em (a < b) with h1 | h1
  · exact h1
  · exact absurd (List.le_antisymm h (List.not_lt.1 h1)) hne
theorem compact_rises (ss : List (List UInt8)) (hs : ss.Pairwise fun a b => a ≤ b) : ∀ m, m ≤ ss.length → (Lib.compactUpTo ss.toArray m).Pairwise (fun a b => a < b) ∧ ∀ x ∈ Lib.compactUpTo ss.toArray m, ∀ z, ss[m - 1]? = some z → x = z ∨ x < z
  | 0, _ => by
    unfold Lib.compactUpTo
    simp
  | m + 1, hm => by
    obtain ⟨h1, h2⟩ := compact_rises ss hs m (by omega)
    have hml : m < ss.length := by omega
    have em : ss.toArray[m]! = ss[m] := by simp [getElem!_pos, hml]
    rw [Lib.compactUpTo_succ]
    by_cases h0 : m = 0
    · subst h0
      have e0 : Lib.compactUpTo ss.toArray 0 = [] := by unfold Lib.compactUpTo; simp
      rw [e0, if_pos (by simp [Lib.keeps]), em]
      refine ⟨by simp, fun x hx z hz => ?_⟩
      have hz' : ss[0]? = some z := by simpa using hz
      obtain ⟨_, e⟩ := List.getElem?_eq_some_iff.1 hz'
      exact .inl ((show x = ss[0] by simpa using hx).trans e)
    · have em1 : ss.toArray[m - 1]! = ss[m - 1] := by simp [getElem!_pos, show m - 1 < ss.length by omega]
      have hle : ss[m - 1] ≤ ss[m] := List.pairwise_iff_getElem.1 hs (m - 1) m (by omega) hml (by omega)
      by_cases he : ss[m] = ss[m - 1]
      · rw [if_neg (by unfold Lib.keeps; rw [em, em1]; simp [h0, he])]
        simp only [List.append_nil]
        refine ⟨h1, fun x hx z hz => ?_⟩
        have hz' : ss[m]? = some z := by simpa using hz
        obtain ⟨_, e⟩ := List.getElem?_eq_some_iff.1 hz'
        rw [← e, he]
        exact h2 x hx _ (List.getElem?_eq_getElem (by omega))
      · have hlt : ss[m - 1] < ss[m] := lt_of_le_ne8 hle (fun e => he e.symm)
        rw [if_pos (by unfold Lib.keeps; rw [em, em1]; simp [he]), em]
        have hall : ∀ x ∈ Lib.compactUpTo ss.toArray m, x < ss[m] := fun x hx => by
          rcases h2 x hx _ (List.getElem?_eq_getElem (show m - 1 < ss.length by omega)) with e | e
          · rw [e]; exact hlt
          · exact List.lt_trans e hlt
        refine ⟨?_, fun x hx z hz => ?_⟩
        · rw [List.pairwise_append]
          exact ⟨h1, by simp, fun a ha b hb => by rw [List.mem_singleton.1 hb]; exact hall a ha⟩
        · have hz' : ss[m]? = some z := by simpa using hz
          obtain ⟨_, e⟩ := List.getElem?_eq_some_iff.1 hz'
          rw [← e]
          rcases List.mem_append.1 hx with h | h
          · exact .inr (hall x h)
          · exact .inl (List.mem_singleton.1 h)
theorem compact_mem (ss : List (List UInt8)) (x : List UInt8) (h : x ∈ Lib.compact ss) : x ∈ ss := by
  unfold Lib.compact Lib.compactUpTo at h
  obtain ⟨j, hj, rfl⟩ := List.mem_map.1 h
  have hj1 := List.mem_range.1 (List.mem_filter.1 hj).1
  rw [show ss.toArray[j]! = ss[j] by simp [getElem!_pos, hj1]]
  exact List.getElem_mem hj1
/-- The names that must be asked for, as lists. -/
def askT (ps : List Par) : List (List UInt8) := Lib.compact (sortL (tx (askedNames ps)))
theorem askedL_is (ps : List Par) : askedL ps = (askT ps).map bs := rfl
theorem askT_rises (ps : List Par) : (askT ps).Pairwise fun a b => a < b := by
  have := (compact_rises (sortL (tx (askedNames ps))) (sortL_sorted _) _ (Nat.le_refl _)).1
  exact this
theorem askT_next (ps : List Par) (k : Nat) (x y : List UInt8) (hx : (askT ps)[k]? = some x) (hy : (askT ps)[k + 1]? = some y) : x < y := by
  obtain ⟨h1, e1⟩ := List.getElem?_eq_some_iff.1 hx
  obtain ⟨h2, e2⟩ := List.getElem?_eq_some_iff.1 hy
  rw [← e1, ← e2]
  exact List.pairwise_iff_getElem.1 (askT_rises ps) k (k + 1) h1 h2 (by omega)
theorem low8_low : ∀ c : UInt8, low (low c) = low c := by
  intro c
  have : ∀ n : Fin 256, low (low (UInt8.ofNat n.1)) = low (UInt8.ofNat n.1) := by decide +kernel
  have h := this ⟨c.toNat, c.toNat_lt⟩
  simpa using h
theorem askT_from (ps : List Par) (x : List UInt8) (h : x ∈ askT ps) : ∃ p ∈ ps, x = p.1.data.toList.map low := by
  have h1 := compact_mem _ x h
  have h2 := (sortL_perm _).mem_iff.1 h1
  unfold tx at h2
  obtain ⟨b, hb, rfl⟩ := List.mem_map.1 h2
  have h3 : ∃ p ∈ ps, b = lowN p := by
    unfold askedNames notPlain arePlain at hb
    split at hb
    · rcases List.mem_append.1 hb with h | h
      · obtain ⟨p, hp, e⟩ := List.mem_map.1 h; exact ⟨p, (List.mem_filter.1 hp).1, e.symm⟩
      · obtain ⟨p, hp, e⟩ := List.mem_map.1 h; exact ⟨p, (List.mem_filter.1 hp).1, e.symm⟩
    · obtain ⟨p, hp, e⟩ := List.mem_map.1 hb; exact ⟨p, (List.mem_filter.1 hp).1, e.symm⟩
  obtain ⟨p, hp, rfl⟩ := h3
  exact ⟨p, hp, by unfold lowN; rw [bs_data]⟩
theorem askT_low (ps : List Par) (x : List UInt8) (h : x ∈ askT ps) : x.map low = x := by
  obtain ⟨p, _, rfl⟩ := askT_from ps x h
  rw [List.map_map]
  apply List.map_congr_left
  intro c _
  exact low8_low c
theorem askT_size (ps : List Par) (hs : Small8 ps) (x : List UInt8) (h : x ∈ askT ps) : (bs x).size ≤ 3000 := by
  obtain ⟨p, hp, rfl⟩ := askT_from ps x h
  rw [bs_size, List.length_map]
  have e : p.1.data.toList.length = p.1.size := Array.length_toList
  have := (hs p hp).1
  omega
theorem together_rev (ps : List Par) : together ps.reverse = together ps := by
  unfold together
  rw [List.filter_reverse, List.map_reverse, List.sum_reverse]
theorem askedL_rev (ps : List Par) : askedL ps.reverse = askedL ps := by
  unfold askedL
  congr 2
  apply sortL_of_perm
  unfold tx
  apply List.Perm.map
  unfold askedNames
  rw [together_rev]
  have h1 : (notPlain ps.reverse).Perm (notPlain ps) := by
    unfold notPlain
    rw [List.filter_reverse, List.map_reverse]
    exact List.reverse_perm _
  have h2 : (arePlain ps.reverse).Perm (arePlain ps) := by
    unfold arePlain
    rw [List.filter_reverse, List.map_reverse]
    exact List.reverse_perm _
  split
  · exact h1.append h2
  · exact h1
theorem not_leq (x y : List UInt8) (h : x < y) : (Op.bytesLess y x || y == x) = false := by
  rw [bytesLess_eq]
  have h1 : ¬ y < x := fun h2 => List.lt_irrefl x (List.lt_trans h h2)
  have h2 : y ≠ x := fun e => List.lt_irrefl x (by rw [e] at h; exact h)
  rw [decide_eq_false h1, beq_eq_false_iff_ne.2 h2]
  rfl
theorem asked_len (ps : List Par) : (askedL ps).length ≤ ps.length := by
  unfold askedL
  rw [List.length_map]
  have h1 := compact_len (sortL (tx (askedNames ps)))
  have h2 : (tx (askedNames ps)).length = (askedNames ps).length := by unfold tx; simp
  rw [sortL_len, h2] at h1
  have h3 := lens_le ps
  have h4 : (askedNames ps).length ≤ ps.length := by
    unfold askedNames
    split
    · rw [List.length_append]; omega
    · omega
  omega
end Go.Proofs.YtoblpjknnchlmaaGreatDoor

/- How long the names are that must be asked for. -/
namespace Go.Proofs.YtoblpjknnchlmaaGreatDoor
open Go.RowKit

theorem askedL_size (ps : List Par) (hs : Small8 ps) (x : ByteArray) (h : x ∈ askedL ps) : x.size ≤ 3000 := by
  rw [askedL_is] at h
  obtain ⟨y, hy, rfl⟩ := List.mem_map.1 h
  exact askT_size ps hs y hy
end Go.Proofs.YtoblpjknnchlmaaGreatDoor

/- Headers that are too long to be held. -/
namespace Go.Proofs.YtoblpjknnchlmaaGreatDoor
open Go.RowKit

def overP (p : Par) : Bool := decide (300 < p.1.size + p.2.size)
/-- Headers that are too many, or too long; n: the bytes of all else. -/
def largeL (ps : List Par) (n : Nat) : Bool := decide (45 < ps.length) || (decide (900 < n) || ps.any overP)
theorem over_snoc {ps : List Par} {k : Nat} {p : Par} (h : (ps.take k).any overP = false) (hk : ps[k]? = some p) (hp : ¬ 300 < p.1.size + p.2.size) : (ps.take (k + 1)).any overP = false := by
  obtain ⟨hk1, e⟩ := List.getElem?_eq_some_iff.1 hk
  rw [List.take_succ_eq_append_getElem hk1, List.any_append, h, e]
  have : overP p = false := by unfold overP; exact decide_eq_false hp
  simp [this]
theorem large_small {ps : List Par} {n : Nat} (h : largeL ps n = false) : ps.length ≤ 45 ∧ n ≤ 900 ∧ ∀ p ∈ ps, p.1.size + p.2.size ≤ 300 := by
  unfold largeL at h
  simp only [Bool.or_eq_false_iff, decide_eq_false_iff_not] at h
  refine ⟨by omega, by omega, fun p hp => ?_⟩
  have h3 := List.any_eq_false.1 h.2.2 p hp
  unfold overP at h3
  simpa using h3
end Go.Proofs.YtoblpjknnchlmaaGreatDoor

/- New blocks: what they hold, and that nothing older has turned. -/
namespace Go.Proofs.YtoblpjknnchlmaaGreatDoor
open Go.RowKit

theorem cells_new (W : World) (cs : Array Value) (t : TypeId) (j : Nat) : (W.alloc (.cells cs t)).cell? ⟨W.heap.size, j, none⟩ = cs[j]? := World.cell?_alloc_mark _ _ _ _ _
theorem drewN_below {B : Nat} {a w : World} (h : Below B a w) (n : Nat) : Below B a (w.drewN n) := h.trans ⟨rfl, rfl, rfl, Nat.le_refl _, fun _ _ => rfl⟩
end Go.Proofs.YtoblpjknnchlmaaGreatDoor

/- Whether a request is too large to be held, by the law's own words. -/
namespace Go.Proofs.YtoblpjknnchlmaaGreatDoor
open Go.RowKit

theorem req_at {w : World} {g : Nat} {v0 v1 v2 v3 v4 v5 v6 v7 v8 v9 v10 v11 v12 : Value} {T : TypeId} (h : w.heap[g]? = some (.cells #[v0, v1, v2, v3, v4, v5, v6, v7, v8, v9, v10, v11, v12] T (0, 0))) :
    w.cell? ⟨g, 0, none⟩ = some v0 ∧ w.cell? ⟨g, 2, none⟩ = some v2 ∧ w.cell? ⟨g, 5, none⟩ = some v5 ∧ w.cell? ⟨g, 7, none⟩ = some v7 ∧ w.cell? ⟨g, 8, none⟩ = some v8 ∧ w.cell? ⟨g, 9, none⟩ = some v9 ∧ w.cell? ⟨g, 10, none⟩ = some v10 ∧ w.cell? ⟨g, 12, none⟩ = some v12 :=
  ⟨by simp [World.cell?, h], by simp [World.cell?, h], by simp [World.cell?, h], by simp [World.cell?, h], by simp [World.cell?, h], by simp [World.cell?, h], by simp [World.cell?, h], by simp [World.cell?, h]⟩
set_option maxRecDepth 100000 in
set_option maxHeartbeats 4000000 in
theorem large_any (ps : List Par) (hz : ∀ p ∈ ps, p.1.size ≤ 140737488355328 ∧ p.2.size ≤ 140737488355328) (a0 : Option Addr) (len cap b off : Nat) (hlb : len ≤ 9223372036854775807)
    (pt fp up : Int) (fs us wi : Bool) (fh uh pa qu me bo : ByteArray) (h1 : fh.size ≤ 140737488355328) (h2 : uh.size ≤ 140737488355328) (h3 : pa.size ≤ 140737488355328) (h4 : qu.size ≤ 140737488355328) (h5 : me.size ≤ 140737488355328) (h6 : bo.size ≤ 140737488355328) (w : World) (hx : Pars w a0 len b off ps) :
    Calls Tryz.prog 4 #[.agg #[.int .i64 pt, .bool fs, .string fh, .int .i64 fp, .bool us, .string uh, .int .i64 up, .string pa, .string qu, .string me, .slice a0 len cap, .bool wi, .string bo]] w fun e w' => e = .returned (.bool (largeL ps (me.size + pa.size + qu.size + uh.size + fh.size + bo.size))) ∧ Below w.heap.size w w' := by
  have hb0 : Below w.heap.size w (w.alloc (.cells #[.int .i64 pt, .bool fs, .string fh, .int .i64 fp, .bool us, .string uh, .int .i64 up, .string pa, .string qu, .string me, .slice a0 len cap, .bool wi, .string bo] 28)) := (Below.refl _ _).alloc (Nat.le_refl _) _
  have HX : Hid (Pars (w.alloc (.cells #[.int .i64 pt, .bool fs, .string fh, .int .i64 fp, .bool us, .string uh, .int .i64 up, .string pa, .string qu, .string me, .slice a0 len cap, .bool wi, .string bo] 28)) a0 len b off ps) := hx.below hb0
  have HL : Hid (ps.length = len) := hx.len_eq
  have HZ : Hid (∀ p ∈ ps, p.1.size ≤ 140737488355328 ∧ p.2.size ≤ 140737488355328) := hz
  have HB0 : Hid (Below w.heap.size w (w.alloc (.cells #[.int .i64 pt, .bool fs, .string fh, .int .i64 fp, .bool us, .string uh, .int .i64 up, .string pa, .string qu, .string me, .slice a0 len cap, .bool wi, .string bo] 28)) ∧ (w.alloc (.cells #[.int .i64 pt, .bool fs, .string fh, .int .i64 fp, .bool us, .string uh, .int .i64 up, .string pa, .string qu, .string me, .slice a0 len cap, .bool wi, .string bo] 28)).heap[w.heap.size]? = some (.cells #[.int .i64 pt, .bool fs, .string fh, .int .i64 fp, .bool us, .string uh, .int .i64 up, .string pa, .string qu, .string me, .slice a0 len cap, .bool wi, .string bo] 28 (0, 0))) := ⟨hb0, heap_alloc_new w _⟩
  clear hb0 hx hz
  by_cases h45 : (45 : Int) < (len : Int)
  · have HA : Hid (largeL ps (me.size + pa.size + qu.size + uh.size + fh.size + bo.size) = true) := by
      show _ = _
      unfold largeL
      rw [decide_eq_true (by have := HL.out; omega), Bool.true_or]
    go_enter Tryz.func4, Tryz.ntmps4
    go_wp2
    go_ret
    exact ⟨ret_bool (by rw [HA.out]), HB0.out.1⟩
  by_cases h900 : (900 : Int) < (me.size : Int) + (pa.size : Int) + (qu.size : Int) + (uh.size : Int) + (fh.size : Int) + (bo.size : Int)
  · have HA : Hid (largeL ps (me.size + pa.size + qu.size + uh.size + fh.size + bo.size) = true) := by
      show _ = _
      unfold largeL
      rw [decide_eq_true (show 900 < me.size + pa.size + qu.size + uh.size + fh.size + bo.size by omega), Bool.true_or, Bool.or_true]
    go_enter Tryz.func4, Tryz.ntmps4
    go_wp2
    go_ret
    exact ⟨ret_bool (by rw [HA.out]), HB0.out.1⟩
  have HAA : Hid (largeL ps (me.size + pa.size + qu.size + uh.size + fh.size + bo.size) = ps.any overP) := by
    show _ = _
    unfold largeL
    rw [decide_eq_false (by have := HL.out; omega), decide_eq_false (show ¬ 900 < me.size + pa.size + qu.size + uh.size + fh.size + bo.size by omega), Bool.false_or, Bool.false_or]
  go_enter Tryz.func4, Tryz.ntmps4
  go_wp2
  generalize hW0 : w.alloc (.cells #[.int .i64 pt, .bool fs, .string fh, .int .i64 fp, .bool us, .string uh, .int .i64 up, .string pa, .string qu, .string me, .slice a0 len cap, .bool wi, .string bo] 28) = W0 at HB0 HX ⊢
  clear hW0
  obtain ⟨_, c2, c5, c7, c8, c9, c10, c12⟩ := req_at HB0.out.2
  go_loopw [4] (fun i wr => ∃ (k q : Nat), k ≤ len ∧ i = .int .i64 k ∧ wr = W0.drewN q ∧ Hid ((ps.take k).any overP = false)) (fun i _ => len - (intOf i).toNat)
  case atStart => exact ⟨0, 0, Nat.zero_le _, rfl, rfl, rfl⟩
  case round =>
    obtain ⟨k, q, hk, rfl, rfl, HK⟩ := hrel
    have c10' : (W0.drewN q).cell? ⟨w.heap.size, 10, none⟩ = some (.slice a0 len cap) := c10
    by_cases hlt : k < len
    · have hltz : (k : Int) < (len : Int) := by omega
      obtain ⟨p, hp⟩ : ∃ p, ps[k]? = some p := ⟨ps[k]'(by have := HL.out; omega), List.getElem?_eq_getElem _⟩
      have hpz := HZ.out p (List.mem_of_getElem? hp)
      obtain ⟨pn, pv⟩ := p
      have HPK : Hid (ps[k]? = some (pn, pv)) := hp
      have hp1 : pn.size ≤ 140737488355328 := hpz.1
      have hp2 : pv.size ≤ 140737488355328 := hpz.2
      obtain ⟨ha0, _⟩ := HX.out.lies (by omega)
      subst ha0
      have d1 : W0.cell? ⟨b, off + k * 2, none⟩ = some (.string pn) := HX.out.one k _ hp
      have d2 : W0.cell? ⟨b, off + k * 2 + 1, none⟩ = some (.string pv) := HX.out.two k _ hp
      clear hp hpz
      by_cases h300 : (300 : Int) < (pn.size : Int) + (pv.size : Int)
      · have HE : Hid (ps.any overP = true) := List.any_eq_true.2 ⟨_, List.mem_of_getElem? HPK.out, by unfold overP; exact decide_eq_true (by show 300 < pn.size + pv.size; omega)⟩
        go_wp2
        go_quiet (fail)
        go_wp2
        go_ret
        exact ⟨ret_bool (by rw [HAA.out, HE.out]), drewN_below (drewN_below HB0.out.1 _) _⟩
      · have HS : Hid ((ps.take (k + 1)).any overP = false) := over_snoc HK.out HPK.out (by show ¬ 300 < pn.size + pv.size; omega)
        go_wp2
        go_quiet (fail)
        go_wp2
        go_roundw
        case rel => exact ⟨k + 1, _, by omega, by go_num, rfl, HS⟩
        case measure => simp [intOf]; omega
    · have hltz : ¬ (k : Int) < (len : Int) := by omega
      have HE : Hid (ps.any overP = false) := by
        have := HK.out
        rw [List.take_of_length_le (by have := HL.out; omega)] at this
        exact this
      go_wp2
      go_ret
      exact ⟨ret_bool (by rw [HAA.out, HE.out]), drewN_below HB0.out.1 _⟩
end Go.Proofs.YtoblpjknnchlmaaGreatDoor

/- A region driven by hand: an operation taken first. -/
namespace Go.Proofs.YtoblpjknnchlmaaGreatDoor
open Go.RowKit

section
variable {P : Program} {ops : Array Oper} {Q : Exit → Act → World → Prop} {md : Region.Mode} {S : World → Prop}
theorem takeH {i : Nat} {oi : Oper} {d : Option Tmp} {v : Value} {fuel : Nat} {listed : Array Bool} {a : Act} {w : World} (hi : ops[i]? = some oi) (hd : oi.dst = d)
    (hs : Region.noSelect ops = true) (hf : Region.free md ops listed i = true) (hr : (Region.ready md ops listed).contains i = true)
    (hQ : ∀ c a w, Q (.panic c) (a.put oi.dst v) w → Q (.panic c) a w) (hw : Region.wanted oi (yielded ops a.tmps) = true) (hy : ∀ w, S w → (execOp a.eval oi).run P w = .ok (.value v) w) (hS : S w)
    (h : wpAnyH P md ops Q S fuel (listed.setIfInBounds i true) (a.put d v) w) : wpAnyH P md ops Q S (fuel + 1) listed a w := by
  subst hd
  exact wpAnyH_take hi hs hf hr hQ (Or.inl ⟨hw, hy⟩) hS h
theorem skipH {i : Nat} {oi : Oper} {d : Option Tmp} {fuel : Nat} {listed : Array Bool} {a : Act} {w : World} (hi : ops[i]? = some oi) (hd : oi.dst = d)
    (hs : Region.noSelect ops = true) (hf : Region.free md ops listed i = true) (hr : (Region.ready md ops listed).contains i = true)
    (hQ : ∀ c a w, Q (.panic c) (a.put oi.dst undef) w → Q (.panic c) a w) (hw : Region.wanted oi (yielded ops a.tmps) = false) (hS : S w)
    (h : wpAnyH P md ops Q S fuel (listed.setIfInBounds i true) (a.put d undef) w) : wpAnyH P md ops Q S (fuel + 1) listed a w := by
  subst hd
  exact wpAnyH_take hi hs hf hr hQ (Or.inr ⟨hw, rfl⟩) hS h
end
end Go.Proofs.YtoblpjknnchlmaaGreatDoor

/- The law CorsCovers, walked. -/
namespace Go.Proofs.YtoblpjknnchlmaaGreatDoor
open Go.RowKit
set_option linter.unusedVariables false
set_option linter.unusedSimpArgs false

set_option maxRecDepth 100000 in
set_option maxHeartbeats 8000000 in
theorem corsCovers_walk (pt fp up : Int) (ht : (-9223372036854775808 ≤ pt ∧ pt ≤ 9223372036854775807) ∧ (-9223372036854775808 ≤ fp ∧ fp ≤ 9223372036854775807) ∧ -9223372036854775808 ≤ up ∧ up ≤ 9223372036854775807) (fs us wi : Bool) (fh uh pa qu me bo : ByteArray) (hs : List Par) (hz : (fh.size ≤ 140737488355328 ∧ uh.size ≤ 140737488355328 ∧ pa.size ≤ 140737488355328 ∧ qu.size ≤ 140737488355328 ∧ me.size ≤ 140737488355328 ∧ bo.size ≤ 140737488355328) ∧ ∀ q ∈ hs, q.1.size ≤ 140737488355328 ∧ q.2.size ≤ 140737488355328) (ra : Option Addr) (rl rc rb ro : Nat) (hlr : rl ≤ 9223372036854775807) (a0 : Option Addr) (len cap b off : Nat) (ps : List PsV) (hl : len ≤ cap ∧ cap ≤ 9223372036854775807) (hpz : ∀ p ∈ ps, p.me.size ≤ 140737488355328 ∧ p.he.size ≤ 140737488355328) (w : World) (hh : Pars w ra rl rb ro hs) (hx : Pss w a0 len b off ps) (hm : Methods w) :
    Calls Tryz.prog 3 #[.agg #[.int .i64 pt, .bool fs, .string fh, .int .i64 fp, .bool us, .string uh, .int .i64 up, .string pa, .string qu, .string me, .slice ra rl rc, .bool wi, .string bo], .slice a0 len cap] w fun e w' => e = .returned (.bool true) ∧ Below w.heap.size w w' := by
  have HQ := BoxQ.new 28 w #[.int .i64 pt, .bool fs, .string fh, .int .i64 fp, .bool us, .string uh, .int .i64 up, .string pa, .string qu, .string me, .slice ra rl rc, .bool wi, .string bo]
  have HD : Hid (BoxQ 28 w #[.int .i64 pt, .bool fs, .string fh, .int .i64 fp, .bool us, .string uh, .int .i64 up, .string pa, .string qu, .string me, .slice ra rl rc, .bool wi, .string bo] (w.alloc (.cells #[.int .i64 pt, .bool fs, .string fh, .int .i64 fp, .bool us, .string uh, .int .i64 up, .string pa, .string qu, .string me, .slice ra rl rc, .bool wi, .string bo] 28)).drew) := HQ.step (Below.refl _ _).drew
  have hbase : ∀ W, Hid (BoxQ 28 w #[.int .i64 pt, .bool fs, .string fh, .int .i64 fp, .bool us, .string uh, .int .i64 up, .string pa, .string qu, .string me, .slice ra rl rc, .bool wi, .string bo] W) → W.cell? ⟨w.heap.size, 0, none⟩ = some (.int .i64 pt) ∧ W.cell? ⟨w.heap.size, 1, none⟩ = some (.bool fs) ∧ W.cell? ⟨w.heap.size, 2, none⟩ = some (.string fh) ∧ W.cell? ⟨w.heap.size, 3, none⟩ = some (.int .i64 fp) ∧ W.cell? ⟨w.heap.size, 4, none⟩ = some (.bool us) ∧ W.cell? ⟨w.heap.size, 5, none⟩ = some (.string uh) ∧ W.cell? ⟨w.heap.size, 6, none⟩ = some (.int .i64 up) ∧ W.cell? ⟨w.heap.size, 7, none⟩ = some (.string pa) ∧ W.cell? ⟨w.heap.size, 8, none⟩ = some (.string qu) ∧ W.cell? ⟨w.heap.size, 9, none⟩ = some (.string me) ∧ W.cell? ⟨w.heap.size, 10, none⟩ = some (.slice ra rl rc) ∧ W.cell? ⟨w.heap.size, 11, none⟩ = some (.bool wi) ∧ W.cell? ⟨w.heap.size, 12, none⟩ = some (.string bo) ∧ Hid (BoxQ 28 w #[.int .i64 pt, .bool fs, .string fh, .int .i64 fp, .bool us, .string uh, .int .i64 up, .string pa, .string qu, .string me, .slice ra rl rc, .bool wi, .string bo] W) := fun W h => ⟨(show BoxQ _ _ _ _ from h.out).at 0 _ rfl, (show BoxQ _ _ _ _ from h.out).at 1 _ rfl, (show BoxQ _ _ _ _ from h.out).at 2 _ rfl, (show BoxQ _ _ _ _ from h.out).at 3 _ rfl, (show BoxQ _ _ _ _ from h.out).at 4 _ rfl, (show BoxQ _ _ _ _ from h.out).at 5 _ rfl, (show BoxQ _ _ _ _ from h.out).at 6 _ rfl, (show BoxQ _ _ _ _ from h.out).at 7 _ rfl, (show BoxQ _ _ _ _ from h.out).at 8 _ rfl, (show BoxQ _ _ _ _ from h.out).at 9 _ rfl, (show BoxQ _ _ _ _ from h.out).at 10 _ rfl, (show BoxQ _ _ _ _ from h.out).at 11 _ rfl, (show BoxQ _ _ _ _ from h.out).at 12 _ rfl, h⟩
  obtain ⟨z1, HZ1⟩ : ∃ z, Hid (largeL hs (me.size + pa.size + qu.size + uh.size + fh.size + bo.size) = z) := ⟨_, rfl⟩
  have HL1 : Hid (∀ W, Below w.heap.size w W → Calls Tryz.prog 4 #[.agg #[.int .i64 pt, .bool fs, .string fh, .int .i64 fp, .bool us, .string uh, .int .i64 up, .string pa, .string qu, .string me, .slice ra rl rc, .bool wi, .string bo]] W fun e w' => e = .returned (.bool z1) ∧ Below W.heap.size W w') := fun W hW => by
    have := large_any hs hz.2 ra rl rc rb ro hlr pt fp up fs us wi fh uh pa qu me bo hz.1.1 hz.1.2.1 hz.1.2.2.1 hz.1.2.2.2.1 hz.1.2.2.2.2.1 hz.1.2.2.2.2.2 W (hh.below hW)
    rw [HZ1.out] at this
    exact this
  cases z1
  · by_cases hlen : len ≤ 60
    · obtain ⟨hl45, hn, hsm⟩ := large_small HZ1.out
      have HS8 : Hid (Small8 hs) := fun p hp => by have := hsm p hp; omega
      have hme : me.size ≤ 3000 := by omega
      have hrl : rl ≤ 60 := by have := hh.len_eq; omega
      obtain ⟨y, HY⟩ : ∃ y, Hid (coversL wi (methodB me) (askedL hs) ps = y) := ⟨_, rfl⟩
      have HM1 : Hid (∀ W, Below w.heap.size w W → Calls Tryz.prog 5 #[.agg #[.int .i64 pt, .bool fs, .string fh, .int .i64 fp, .bool us, .string uh, .int .i64 up, .string pa, .string qu, .string me, .slice ra rl rc, .bool wi, .string bo], .slice a0 len cap] W fun e w' => e = .returned (.bool y) ∧ Below W.heap.size W w') := fun W hW => by
        have := covers9_any hs HS8.out ra rl rc rb ro hrl pt fp up fs us wi fh uh pa qu me bo hme ps a0 len cap b off (by omega) W (hm.below hW (Nat.le_refl _)) (hh.below hW) (hx.below hW)
        rw [HY.out] at this
        exact this
      have HM2 : Hid (∀ W, Below w.heap.size w W → Calls Tryz.prog 6 #[.agg #[.int .i64 pt, .bool fs, .string fh, .int .i64 fp, .bool us, .string uh, .int .i64 up, .string pa, .string qu, .string me, .slice ra rl rc, .bool wi, .string bo], .slice a0 len cap] W fun e w' => e = .returned (.bool y) ∧ Below W.heap.size W w') := fun W hW => by
        have := refCovers9_any hs HS8.out ra rl rc rb ro hrl pt fp up fs us wi fh uh pa qu me bo hme (fun x hx => askedL_size hs HS8.out x hx) ps hpz a0 len cap b off hlen W (hh.below hW) (hx.below hW)
        rw [HY.out] at this
        exact this
      have hg : ((len : Int) > 60) = False := by simp; omega
      have hg2 : ¬ ((60 : Int) < (len : Int)) := by omega
      have hgd : decide ((60 : Int) < (len : Int)) = false := by simpa using hg2
      clear hz hh hm hx hpz ht hlr hl45 hn hsm hme hrl HQ hlen hg
      go_enter Tryz.func3, Tryz.ntmps3
      go_upto_region 1 with fail
      refine wp_region_held_drew (S := fun W => W.cell? ⟨w.heap.size, 0, none⟩ = some (.int .i64 pt) ∧ W.cell? ⟨w.heap.size, 1, none⟩ = some (.bool fs) ∧ W.cell? ⟨w.heap.size, 2, none⟩ = some (.string fh) ∧ W.cell? ⟨w.heap.size, 3, none⟩ = some (.int .i64 fp) ∧ W.cell? ⟨w.heap.size, 4, none⟩ = some (.bool us) ∧ W.cell? ⟨w.heap.size, 5, none⟩ = some (.string uh) ∧ W.cell? ⟨w.heap.size, 6, none⟩ = some (.int .i64 up) ∧ W.cell? ⟨w.heap.size, 7, none⟩ = some (.string pa) ∧ W.cell? ⟨w.heap.size, 8, none⟩ = some (.string qu) ∧ W.cell? ⟨w.heap.size, 9, none⟩ = some (.string me) ∧ W.cell? ⟨w.heap.size, 10, none⟩ = some (.slice ra rl rc) ∧ W.cell? ⟨w.heap.size, 11, none⟩ = some (.bool wi) ∧ W.cell? ⟨w.heap.size, 12, none⟩ = some (.string bo) ∧ Hid (BoxQ 28 w #[.int .i64 pt, .bool fs, .string fh, .int .i64 fp, .bool us, .string uh, .int .i64 up, .string pa, .string qu, .string me, .slice ra rl rc, .bool wi, .string bo] W)) (by kernel_rfl) (hbase _ HD) (fun hHeld => ?_)
      refine takeH (i := 0) (d := some 5) (v := ?_) rfl rfl (by kernel_rfl) (by kernel_rfl) (by kernel_rfl) (fun _ _ _ h => h) (by rfl) ?_ (by assumption) ?_
      rotate_left
      · intro w hSw; (try dsimp only at hSw); obtain ⟨q0, q1, q2, q3, q4, q5, q6, q7, q8, q9, q10, q11, q12, _⟩ := hSw; go_simp; with_reducible rfl
      try simp only [Act.put, List.setIfInBounds_toArray, List.set_cons_zero, List.set_cons_succ]
      refine wpAnyH_ready (rs := [1]) (by kernel_rfl) (by simp) ?_
      refine AllReadyH.cons (by rfl) (fun K hKK => ?_) AllReadyH.nil
      go_simp
      refine (HL1.out _ (show BoxQ _ _ _ _ from HD.out).bel).mono ?_
      rintro e w1 ⟨rfl, hb⟩
      have H1 : Hid (BoxQ 28 w #[.int .i64 pt, .bool fs, .string fh, .int .i64 fp, .bool us, .string uh, .int .i64 up, .string pa, .string qu, .string me, .slice ra rl rc, .bool wi, .string bo] w1) := (show BoxQ _ _ _ _ from HD.out).step hb
      clear hb
      go_wp2_with fail
      refine hKK.out _ _ (hbase _ H1) (fun hHeld => ?_)
      clear hKK K
      try simp only [Act.put, List.setIfInBounds_toArray, List.set_cons_zero, List.set_cons_succ]
      refine takeH (i := 2) (d := some 7) (v := ?_) rfl rfl (by kernel_rfl) (by kernel_rfl) (by kernel_rfl) (fun _ _ _ h => h) (by rfl) ?_ (by assumption) ?_
      rotate_left
      · intro w hSw; (try dsimp only at hSw); obtain ⟨q0, q1, q2, q3, q4, q5, q6, q7, q8, q9, q10, q11, q12, _⟩ := hSw; go_simp; with_reducible rfl
      try simp only [Act.put, List.setIfInBounds_toArray, List.set_cons_zero, List.set_cons_succ]
      refine takeH (i := 3) (d := some 8) (v := ?_) rfl rfl (by kernel_rfl) (by kernel_rfl) (by kernel_rfl) (fun _ _ _ h => h) (by rfl) ?_ (by assumption) ?_
      rotate_left
      · intro w hSw; (try dsimp only at hSw); obtain ⟨q0, q1, q2, q3, q4, q5, q6, q7, q8, q9, q10, q11, q12, _⟩ := hSw; go_simp; with_reducible rfl
      try simp only [Act.put, List.setIfInBounds_toArray, List.set_cons_zero, List.set_cons_succ]
      refine takeH (i := 4) (d := some 9) (v := ?_) rfl rfl (by kernel_rfl) (by kernel_rfl) (by kernel_rfl) (fun _ _ _ h => h) (by rfl) ?_ (by assumption) ?_
      rotate_left
      · intro w hSw; (try dsimp only at hSw); obtain ⟨q0, q1, q2, q3, q4, q5, q6, q7, q8, q9, q10, q11, q12, _⟩ := hSw; go_simp; with_reducible rfl
      try simp only [Act.put, List.setIfInBounds_toArray, List.set_cons_zero, List.set_cons_succ]
      refine takeH (i := 5) (d := some 10) (v := ?_) rfl rfl (by kernel_rfl) (by kernel_rfl) (by kernel_rfl) (fun _ _ _ h => h) (by rfl) ?_ (by assumption) ?_
      rotate_left
      · intro w hSw; (try dsimp only at hSw); obtain ⟨q0, q1, q2, q3, q4, q5, q6, q7, q8, q9, q10, q11, q12, _⟩ := hSw; go_simp; with_reducible rfl
      try simp only [Act.put, List.setIfInBounds_toArray, List.set_cons_zero, List.set_cons_succ]
      refine takeH (i := 6) (d := some 11) (v := ?_) rfl rfl (by kernel_rfl) (by kernel_rfl) (by kernel_rfl) (fun _ _ _ h => h) (by rfl) ?_ (by assumption) ?_
      rotate_left
      · intro w hSw; (try dsimp only at hSw); obtain ⟨q0, q1, q2, q3, q4, q5, q6, q7, q8, q9, q10, q11, q12, _⟩ := hSw; go_simp; with_reducible rfl
      try simp only [Act.put, List.setIfInBounds_toArray, List.set_cons_zero, List.set_cons_succ]
      refine takeH (i := 7) (d := some 12) (v := ?_) rfl rfl (by kernel_rfl) (by kernel_rfl) (by kernel_rfl) (fun _ _ _ h => h) (by rfl) ?_ (by assumption) ?_
      rotate_left
      · intro w hSw; (try dsimp only at hSw); obtain ⟨q0, q1, q2, q3, q4, q5, q6, q7, q8, q9, q10, q11, q12, _⟩ := hSw; go_simp; with_reducible rfl
      try simp only [Act.put, List.setIfInBounds_toArray, List.set_cons_zero, List.set_cons_succ]
      refine takeH (i := 8) (d := some 13) (v := ?_) rfl rfl (by kernel_rfl) (by kernel_rfl) (by kernel_rfl) (fun _ _ _ h => h) (by rfl) ?_ (by assumption) ?_
      rotate_left
      · intro w hSw; (try dsimp only at hSw); obtain ⟨q0, q1, q2, q3, q4, q5, q6, q7, q8, q9, q10, q11, q12, _⟩ := hSw; go_simp; with_reducible rfl
      try simp only [Act.put, List.setIfInBounds_toArray, List.set_cons_zero, List.set_cons_succ]
      refine takeH (i := 9) (d := some 14) (v := ?_) rfl rfl (by kernel_rfl) (by kernel_rfl) (by kernel_rfl) (fun _ _ _ h => h) (by rfl) ?_ (by assumption) ?_
      rotate_left
      · intro w hSw; (try dsimp only at hSw); obtain ⟨q0, q1, q2, q3, q4, q5, q6, q7, q8, q9, q10, q11, q12, _⟩ := hSw; go_simp; with_reducible rfl
      try simp only [Act.put, List.setIfInBounds_toArray, List.set_cons_zero, List.set_cons_succ]
      refine takeH (i := 11) (d := some 16) (v := ?_) rfl rfl (by kernel_rfl) (by kernel_rfl) (by kernel_rfl) (fun _ _ _ h => h) (by rfl) ?_ (by assumption) ?_
      rotate_left
      · intro w hSw; (try dsimp only at hSw); obtain ⟨q0, q1, q2, q3, q4, q5, q6, q7, q8, q9, q10, q11, q12, _⟩ := hSw; go_simp; with_reducible rfl
      try simp only [Act.put, List.setIfInBounds_toArray, List.set_cons_zero, List.set_cons_succ]
      refine takeH (i := 12) (d := some 17) (v := ?_) rfl rfl (by kernel_rfl) (by kernel_rfl) (by kernel_rfl) (fun _ _ _ h => h) (by rfl) ?_ (by assumption) ?_
      rotate_left
      · intro w hSw; (try dsimp only at hSw); obtain ⟨q0, q1, q2, q3, q4, q5, q6, q7, q8, q9, q10, q11, q12, _⟩ := hSw; go_simp; with_reducible rfl
      try simp only [Act.put, List.setIfInBounds_toArray, List.set_cons_zero, List.set_cons_succ]
      refine wpAnyH_ready (rs := [10]) (by kernel_rfl) (by simp) ?_
      refine AllReadyH.cons (by rfl) (fun K hKK => ?_) AllReadyH.nil
      go_simp
      refine (HM1.out _ (show BoxQ _ _ _ _ from H1.out).bel).mono ?_
      rintro e w2 ⟨rfl, hb⟩
      have H2 : Hid (BoxQ 28 w #[.int .i64 pt, .bool fs, .string fh, .int .i64 fp, .bool us, .string uh, .int .i64 up, .string pa, .string qu, .string me, .slice ra rl rc, .bool wi, .string bo] w2) := (show BoxQ _ _ _ _ from H1.out).step hb
      clear hb
      go_wp2_with fail
      refine hKK.out _ _ (hbase _ H2) (fun hHeld => ?_)
      clear hKK K
      try simp only [Act.put, List.setIfInBounds_toArray, List.set_cons_zero, List.set_cons_succ]
      refine wpAnyH_ready (rs := [13]) (by kernel_rfl) (by simp) ?_
      refine AllReadyH.cons (by rfl) (fun K hKK => ?_) AllReadyH.nil
      go_simp
      refine (HM2.out _ (show BoxQ _ _ _ _ from H2.out).bel).mono ?_
      rintro e w3 ⟨rfl, hb⟩
      have H3 : Hid (BoxQ 28 w #[.int .i64 pt, .bool fs, .string fh, .int .i64 fp, .bool us, .string uh, .int .i64 up, .string pa, .string qu, .string me, .slice ra rl rc, .bool wi, .string bo] w3) := (show BoxQ _ _ _ _ from H2.out).step hb
      clear hb
      go_wp2_with fail
      refine hKK.out _ _ (hbase _ H3) (fun hHeld => ?_)
      clear hKK K
      try simp only [Act.put, List.setIfInBounds_toArray, List.set_cons_zero, List.set_cons_succ]
      refine takeH (i := 14) (d := some 19) (v := ?_) rfl rfl (by kernel_rfl) (by kernel_rfl) (by kernel_rfl) (fun _ _ _ h => h) (by rfl) ?_ (by assumption) ?_
      rotate_left
      · intro w hSw; (try dsimp only at hSw); obtain ⟨q0, q1, q2, q3, q4, q5, q6, q7, q8, q9, q10, q11, q12, _⟩ := hSw; go_simp; with_reducible rfl
      try simp only [Act.put, List.setIfInBounds_toArray, List.set_cons_zero, List.set_cons_succ]
      refine takeH (i := 15) (d := some 20) (v := ?_) rfl rfl (by kernel_rfl) (by kernel_rfl) (by kernel_rfl) (fun _ _ _ h => h) (by rfl) ?_ (by assumption) ?_
      rotate_left
      · intro w hSw; (try dsimp only at hSw); obtain ⟨q0, q1, q2, q3, q4, q5, q6, q7, q8, q9, q10, q11, q12, _⟩ := hSw; go_simp; with_reducible rfl
      try simp only [Act.put, List.setIfInBounds_toArray, List.set_cons_zero, List.set_cons_succ]
      refine takeH (i := 16) (d := some 4) (v := ?_) rfl rfl (by kernel_rfl) (by kernel_rfl) (by kernel_rfl) (fun _ _ _ h => h) (by rfl) ?_ (by assumption) ?_
      rotate_left
      · intro w hSw; (try dsimp only at hSw); obtain ⟨q0, q1, q2, q3, q4, q5, q6, q7, q8, q9, q10, q11, q12, _⟩ := hSw; go_simp; with_reducible rfl
      try simp only [Act.put, List.setIfInBounds_toArray, List.set_cons_zero, List.set_cons_succ]
      refine wpAnyH_done (by kernel_rfl) ?_ _
      go_wp2_with fail
      go_ret
      exact ⟨ret_bool (by simp), (show BoxQ _ _ _ _ from H3.out).bel⟩
    · have hg2 : ((60 : Int) < (len : Int)) := by omega
      have hgd : decide ((60 : Int) < (len : Int)) = true := by simpa using hg2
      clear hz hh hm hx hpz ht hlr HQ hlen
      go_enter Tryz.func3, Tryz.ntmps3
      go_upto_region 1 with fail
      refine wp_region_held_drew (S := fun W => W.cell? ⟨w.heap.size, 0, none⟩ = some (.int .i64 pt) ∧ W.cell? ⟨w.heap.size, 1, none⟩ = some (.bool fs) ∧ W.cell? ⟨w.heap.size, 2, none⟩ = some (.string fh) ∧ W.cell? ⟨w.heap.size, 3, none⟩ = some (.int .i64 fp) ∧ W.cell? ⟨w.heap.size, 4, none⟩ = some (.bool us) ∧ W.cell? ⟨w.heap.size, 5, none⟩ = some (.string uh) ∧ W.cell? ⟨w.heap.size, 6, none⟩ = some (.int .i64 up) ∧ W.cell? ⟨w.heap.size, 7, none⟩ = some (.string pa) ∧ W.cell? ⟨w.heap.size, 8, none⟩ = some (.string qu) ∧ W.cell? ⟨w.heap.size, 9, none⟩ = some (.string me) ∧ W.cell? ⟨w.heap.size, 10, none⟩ = some (.slice ra rl rc) ∧ W.cell? ⟨w.heap.size, 11, none⟩ = some (.bool wi) ∧ W.cell? ⟨w.heap.size, 12, none⟩ = some (.string bo) ∧ Hid (BoxQ 28 w #[.int .i64 pt, .bool fs, .string fh, .int .i64 fp, .bool us, .string uh, .int .i64 up, .string pa, .string qu, .string me, .slice ra rl rc, .bool wi, .string bo] W)) (by kernel_rfl) (hbase _ HD) (fun hHeld => ?_)
      refine takeH (i := 0) (d := some 5) (v := ?_) rfl rfl (by kernel_rfl) (by kernel_rfl) (by kernel_rfl) (fun _ _ _ h => h) (by rfl) ?_ (by assumption) ?_
      rotate_left
      · intro w hSw; (try dsimp only at hSw); obtain ⟨q0, q1, q2, q3, q4, q5, q6, q7, q8, q9, q10, q11, q12, _⟩ := hSw; go_simp; with_reducible rfl
      try simp only [Act.put, List.setIfInBounds_toArray, List.set_cons_zero, List.set_cons_succ]
      refine wpAnyH_ready (rs := [1]) (by kernel_rfl) (by simp) ?_
      refine AllReadyH.cons (by rfl) (fun K hKK => ?_) AllReadyH.nil
      go_simp
      refine (HL1.out _ (show BoxQ _ _ _ _ from HD.out).bel).mono ?_
      rintro e w1 ⟨rfl, hb⟩
      have H1 : Hid (BoxQ 28 w #[.int .i64 pt, .bool fs, .string fh, .int .i64 fp, .bool us, .string uh, .int .i64 up, .string pa, .string qu, .string me, .slice ra rl rc, .bool wi, .string bo] w1) := (show BoxQ _ _ _ _ from HD.out).step hb
      clear hb
      go_wp2_with fail
      refine hKK.out _ _ (hbase _ H1) (fun hHeld => ?_)
      clear hKK K
      try simp only [Act.put, List.setIfInBounds_toArray, List.set_cons_zero, List.set_cons_succ]
      refine takeH (i := 2) (d := some 7) (v := ?_) rfl rfl (by kernel_rfl) (by kernel_rfl) (by kernel_rfl) (fun _ _ _ h => h) (by rfl) ?_ (by assumption) ?_
      rotate_left
      · intro w hSw; (try dsimp only at hSw); obtain ⟨q0, q1, q2, q3, q4, q5, q6, q7, q8, q9, q10, q11, q12, _⟩ := hSw; go_simp; with_reducible rfl
      try simp only [Act.put, List.setIfInBounds_toArray, List.set_cons_zero, List.set_cons_succ]
      refine takeH (i := 3) (d := some 8) (v := ?_) rfl rfl (by kernel_rfl) (by kernel_rfl) (by kernel_rfl) (fun _ _ _ h => h) (by rfl) ?_ (by assumption) ?_
      rotate_left
      · intro w hSw; (try dsimp only at hSw); obtain ⟨q0, q1, q2, q3, q4, q5, q6, q7, q8, q9, q10, q11, q12, _⟩ := hSw; go_simp; with_reducible rfl
      try simp only [Act.put, List.setIfInBounds_toArray, List.set_cons_zero, List.set_cons_succ]
      refine takeH (i := 4) (d := some 9) (v := ?_) rfl rfl (by kernel_rfl) (by kernel_rfl) (by kernel_rfl) (fun _ _ _ h => h) (by rfl) ?_ (by assumption) ?_
      rotate_left
      · intro w hSw; (try dsimp only at hSw); obtain ⟨q0, q1, q2, q3, q4, q5, q6, q7, q8, q9, q10, q11, q12, _⟩ := hSw; go_simp; with_reducible rfl
      try simp only [Act.put, List.setIfInBounds_toArray, List.set_cons_zero, List.set_cons_succ]
      refine takeH (i := 5) (d := some 10) (v := ?_) rfl rfl (by kernel_rfl) (by kernel_rfl) (by kernel_rfl) (fun _ _ _ h => h) (by rfl) ?_ (by assumption) ?_
      rotate_left
      · intro w hSw; (try dsimp only at hSw); obtain ⟨q0, q1, q2, q3, q4, q5, q6, q7, q8, q9, q10, q11, q12, _⟩ := hSw; go_simp; with_reducible rfl
      try simp only [Act.put, List.setIfInBounds_toArray, List.set_cons_zero, List.set_cons_succ]
      refine takeH (i := 6) (d := some 11) (v := ?_) rfl rfl (by kernel_rfl) (by kernel_rfl) (by kernel_rfl) (fun _ _ _ h => h) (by rfl) ?_ (by assumption) ?_
      rotate_left
      · intro w hSw; (try dsimp only at hSw); obtain ⟨q0, q1, q2, q3, q4, q5, q6, q7, q8, q9, q10, q11, q12, _⟩ := hSw; go_simp; with_reducible rfl
      try simp only [Act.put, List.setIfInBounds_toArray, List.set_cons_zero, List.set_cons_succ]
      refine takeH (i := 7) (d := some 12) (v := ?_) rfl rfl (by kernel_rfl) (by kernel_rfl) (by kernel_rfl) (fun _ _ _ h => h) (by rfl) ?_ (by assumption) ?_
      rotate_left
      · intro w hSw; (try dsimp only at hSw); obtain ⟨q0, q1, q2, q3, q4, q5, q6, q7, q8, q9, q10, q11, q12, _⟩ := hSw; go_simp; with_reducible rfl
      try simp only [Act.put, List.setIfInBounds_toArray, List.set_cons_zero, List.set_cons_succ]
      refine skipH (i := 8) (d := some 13) rfl rfl (by kernel_rfl) (by kernel_rfl) (by kernel_rfl) (fun _ _ _ h => h) (by rfl) (by assumption) ?_
      try simp only [Act.put, List.setIfInBounds_toArray, List.set_cons_zero, List.set_cons_succ]
      refine skipH (i := 9) (d := some 14) rfl rfl (by kernel_rfl) (by kernel_rfl) (by kernel_rfl) (fun _ _ _ h => h) (by rfl) (by assumption) ?_
      try simp only [Act.put, List.setIfInBounds_toArray, List.set_cons_zero, List.set_cons_succ]
      refine skipH (i := 10) (d := some 15) rfl rfl (by kernel_rfl) (by kernel_rfl) (by kernel_rfl) (fun _ _ _ h => h) (by rfl) (by assumption) ?_
      try simp only [Act.put, List.setIfInBounds_toArray, List.set_cons_zero, List.set_cons_succ]
      refine skipH (i := 11) (d := some 16) rfl rfl (by kernel_rfl) (by kernel_rfl) (by kernel_rfl) (fun _ _ _ h => h) (by rfl) (by assumption) ?_
      try simp only [Act.put, List.setIfInBounds_toArray, List.set_cons_zero, List.set_cons_succ]
      refine skipH (i := 12) (d := some 17) rfl rfl (by kernel_rfl) (by kernel_rfl) (by kernel_rfl) (fun _ _ _ h => h) (by rfl) (by assumption) ?_
      try simp only [Act.put, List.setIfInBounds_toArray, List.set_cons_zero, List.set_cons_succ]
      refine skipH (i := 13) (d := some 18) rfl rfl (by kernel_rfl) (by kernel_rfl) (by kernel_rfl) (fun _ _ _ h => h) (by rfl) (by assumption) ?_
      try simp only [Act.put, List.setIfInBounds_toArray, List.set_cons_zero, List.set_cons_succ]
      refine skipH (i := 14) (d := some 19) rfl rfl (by kernel_rfl) (by kernel_rfl) (by kernel_rfl) (fun _ _ _ h => h) (by rfl) (by assumption) ?_
      try simp only [Act.put, List.setIfInBounds_toArray, List.set_cons_zero, List.set_cons_succ]
      refine takeH (i := 15) (d := some 20) (v := ?_) rfl rfl (by kernel_rfl) (by kernel_rfl) (by kernel_rfl) (fun _ _ _ h => h) (by rfl) ?_ (by assumption) ?_
      rotate_left
      · intro w hSw; (try dsimp only at hSw); obtain ⟨q0, q1, q2, q3, q4, q5, q6, q7, q8, q9, q10, q11, q12, _⟩ := hSw; go_simp; with_reducible rfl
      try simp only [Act.put, List.setIfInBounds_toArray, List.set_cons_zero, List.set_cons_succ]
      refine takeH (i := 16) (d := some 4) (v := ?_) rfl rfl (by kernel_rfl) (by kernel_rfl) (by kernel_rfl) (fun _ _ _ h => h) (by rfl) ?_ (by assumption) ?_
      rotate_left
      · intro w hSw; (try dsimp only at hSw); obtain ⟨q0, q1, q2, q3, q4, q5, q6, q7, q8, q9, q10, q11, q12, _⟩ := hSw; go_simp; with_reducible rfl
      try simp only [Act.put, List.setIfInBounds_toArray, List.set_cons_zero, List.set_cons_succ]
      refine wpAnyH_done (by kernel_rfl) ?_ _
      go_wp2_with fail
      go_ret
      exact ⟨rfl, (show BoxQ _ _ _ _ from H1.out).bel⟩
  · clear hz hh hm hx hpz ht hlr HQ
    go_enter Tryz.func3, Tryz.ntmps3
    go_upto_region 1 with fail
    refine wp_region_held_drew (S := fun W => W.cell? ⟨w.heap.size, 0, none⟩ = some (.int .i64 pt) ∧ W.cell? ⟨w.heap.size, 1, none⟩ = some (.bool fs) ∧ W.cell? ⟨w.heap.size, 2, none⟩ = some (.string fh) ∧ W.cell? ⟨w.heap.size, 3, none⟩ = some (.int .i64 fp) ∧ W.cell? ⟨w.heap.size, 4, none⟩ = some (.bool us) ∧ W.cell? ⟨w.heap.size, 5, none⟩ = some (.string uh) ∧ W.cell? ⟨w.heap.size, 6, none⟩ = some (.int .i64 up) ∧ W.cell? ⟨w.heap.size, 7, none⟩ = some (.string pa) ∧ W.cell? ⟨w.heap.size, 8, none⟩ = some (.string qu) ∧ W.cell? ⟨w.heap.size, 9, none⟩ = some (.string me) ∧ W.cell? ⟨w.heap.size, 10, none⟩ = some (.slice ra rl rc) ∧ W.cell? ⟨w.heap.size, 11, none⟩ = some (.bool wi) ∧ W.cell? ⟨w.heap.size, 12, none⟩ = some (.string bo) ∧ Hid (BoxQ 28 w #[.int .i64 pt, .bool fs, .string fh, .int .i64 fp, .bool us, .string uh, .int .i64 up, .string pa, .string qu, .string me, .slice ra rl rc, .bool wi, .string bo] W)) (by kernel_rfl) (hbase _ HD) (fun hHeld => ?_)
    refine takeH (i := 0) (d := some 5) (v := ?_) rfl rfl (by kernel_rfl) (by kernel_rfl) (by kernel_rfl) (fun _ _ _ h => h) (by rfl) ?_ (by assumption) ?_
    rotate_left
    · intro w hSw; (try dsimp only at hSw); obtain ⟨q0, q1, q2, q3, q4, q5, q6, q7, q8, q9, q10, q11, q12, _⟩ := hSw; go_simp; with_reducible rfl
    try simp only [Act.put, List.setIfInBounds_toArray, List.set_cons_zero, List.set_cons_succ]
    refine wpAnyH_ready (rs := [1]) (by kernel_rfl) (by simp) ?_
    refine AllReadyH.cons (by rfl) (fun K hKK => ?_) AllReadyH.nil
    go_simp
    refine (HL1.out _ (show BoxQ _ _ _ _ from HD.out).bel).mono ?_
    rintro e w1 ⟨rfl, hb⟩
    have H1 : Hid (BoxQ 28 w #[.int .i64 pt, .bool fs, .string fh, .int .i64 fp, .bool us, .string uh, .int .i64 up, .string pa, .string qu, .string me, .slice ra rl rc, .bool wi, .string bo] w1) := (show BoxQ _ _ _ _ from HD.out).step hb
    clear hb
    go_wp2_with fail
    refine hKK.out _ _ (hbase _ H1) (fun hHeld => ?_)
    clear hKK K
    try simp only [Act.put, List.setIfInBounds_toArray, List.set_cons_zero, List.set_cons_succ]
    refine takeH (i := 2) (d := some 7) (v := ?_) rfl rfl (by kernel_rfl) (by kernel_rfl) (by kernel_rfl) (fun _ _ _ h => h) (by rfl) ?_ (by assumption) ?_
    rotate_left
    · intro w hSw; (try dsimp only at hSw); obtain ⟨q0, q1, q2, q3, q4, q5, q6, q7, q8, q9, q10, q11, q12, _⟩ := hSw; go_simp; with_reducible rfl
    try simp only [Act.put, List.setIfInBounds_toArray, List.set_cons_zero, List.set_cons_succ]
    refine skipH (i := 3) (d := some 8) rfl rfl (by kernel_rfl) (by kernel_rfl) (by kernel_rfl) (fun _ _ _ h => h) (by rfl) (by assumption) ?_
    try simp only [Act.put, List.setIfInBounds_toArray, List.set_cons_zero, List.set_cons_succ]
    refine skipH (i := 4) (d := some 9) rfl rfl (by kernel_rfl) (by kernel_rfl) (by kernel_rfl) (fun _ _ _ h => h) (by rfl) (by assumption) ?_
    try simp only [Act.put, List.setIfInBounds_toArray, List.set_cons_zero, List.set_cons_succ]
    refine skipH (i := 5) (d := some 10) rfl rfl (by kernel_rfl) (by kernel_rfl) (by kernel_rfl) (fun _ _ _ h => h) (by rfl) (by assumption) ?_
    try simp only [Act.put, List.setIfInBounds_toArray, List.set_cons_zero, List.set_cons_succ]
    refine takeH (i := 6) (d := some 11) (v := ?_) rfl rfl (by kernel_rfl) (by kernel_rfl) (by kernel_rfl) (fun _ _ _ h => h) (by rfl) ?_ (by assumption) ?_
    rotate_left
    · intro w hSw; (try dsimp only at hSw); obtain ⟨q0, q1, q2, q3, q4, q5, q6, q7, q8, q9, q10, q11, q12, _⟩ := hSw; go_simp; with_reducible rfl
    try simp only [Act.put, List.setIfInBounds_toArray, List.set_cons_zero, List.set_cons_succ]
    refine takeH (i := 7) (d := some 12) (v := ?_) rfl rfl (by kernel_rfl) (by kernel_rfl) (by kernel_rfl) (fun _ _ _ h => h) (by rfl) ?_ (by assumption) ?_
    rotate_left
    · intro w hSw; (try dsimp only at hSw); obtain ⟨q0, q1, q2, q3, q4, q5, q6, q7, q8, q9, q10, q11, q12, _⟩ := hSw; go_simp; with_reducible rfl
    try simp only [Act.put, List.setIfInBounds_toArray, List.set_cons_zero, List.set_cons_succ]
    refine skipH (i := 8) (d := some 13) rfl rfl (by kernel_rfl) (by kernel_rfl) (by kernel_rfl) (fun _ _ _ h => h) (by rfl) (by assumption) ?_
    try simp only [Act.put, List.setIfInBounds_toArray, List.set_cons_zero, List.set_cons_succ]
    refine skipH (i := 9) (d := some 14) rfl rfl (by kernel_rfl) (by kernel_rfl) (by kernel_rfl) (fun _ _ _ h => h) (by rfl) (by assumption) ?_
    try simp only [Act.put, List.setIfInBounds_toArray, List.set_cons_zero, List.set_cons_succ]
    refine skipH (i := 10) (d := some 15) rfl rfl (by kernel_rfl) (by kernel_rfl) (by kernel_rfl) (fun _ _ _ h => h) (by rfl) (by assumption) ?_
    try simp only [Act.put, List.setIfInBounds_toArray, List.set_cons_zero, List.set_cons_succ]
    refine skipH (i := 11) (d := some 16) rfl rfl (by kernel_rfl) (by kernel_rfl) (by kernel_rfl) (fun _ _ _ h => h) (by rfl) (by assumption) ?_
    try simp only [Act.put, List.setIfInBounds_toArray, List.set_cons_zero, List.set_cons_succ]
    refine skipH (i := 12) (d := some 17) rfl rfl (by kernel_rfl) (by kernel_rfl) (by kernel_rfl) (fun _ _ _ h => h) (by rfl) (by assumption) ?_
    try simp only [Act.put, List.setIfInBounds_toArray, List.set_cons_zero, List.set_cons_succ]
    refine skipH (i := 13) (d := some 18) rfl rfl (by kernel_rfl) (by kernel_rfl) (by kernel_rfl) (fun _ _ _ h => h) (by rfl) (by assumption) ?_
    try simp only [Act.put, List.setIfInBounds_toArray, List.set_cons_zero, List.set_cons_succ]
    refine skipH (i := 14) (d := some 19) rfl rfl (by kernel_rfl) (by kernel_rfl) (by kernel_rfl) (fun _ _ _ h => h) (by rfl) (by assumption) ?_
    try simp only [Act.put, List.setIfInBounds_toArray, List.set_cons_zero, List.set_cons_succ]
    refine takeH (i := 15) (d := some 20) (v := ?_) rfl rfl (by kernel_rfl) (by kernel_rfl) (by kernel_rfl) (fun _ _ _ h => h) (by rfl) ?_ (by assumption) ?_
    rotate_left
    · intro w hSw; (try dsimp only at hSw); obtain ⟨q0, q1, q2, q3, q4, q5, q6, q7, q8, q9, q10, q11, q12, _⟩ := hSw; go_simp; with_reducible rfl
    try simp only [Act.put, List.setIfInBounds_toArray, List.set_cons_zero, List.set_cons_succ]
    refine takeH (i := 16) (d := some 4) (v := ?_) rfl rfl (by kernel_rfl) (by kernel_rfl) (by kernel_rfl) (fun _ _ _ h => h) (by rfl) ?_ (by assumption) ?_
    rotate_left
    · intro w hSw; (try dsimp only at hSw); obtain ⟨q0, q1, q2, q3, q4, q5, q6, q7, q8, q9, q10, q11, q12, _⟩ := hSw; go_simp; with_reducible rfl
    try simp only [Act.put, List.setIfInBounds_toArray, List.set_cons_zero, List.set_cons_succ]
    refine wpAnyH_done (by kernel_rfl) ?_ _
    go_wp2_with fail
    go_ret
    exact ⟨rfl, (show BoxQ _ _ _ _ from H1.out).bel⟩
end Go.Proofs.YtoblpjknnchlmaaGreatDoor

/- What came in: no text of it is longer than a machine can hold. -/
namespace Go.Proofs.YtoblpjknnchlmaaGreatDoor
open Go.ChangeShapes Go.WideShapes Go.ChangeAt Go.RowKit Go.Joins

theorem laidOutP : laidOutB Tryz.prog = true := by kernel_rfl
theorem weightsAll_mem {H : Type} {P : Program} {e : TypeId} : ∀ {ds : List (DataW H)} {d : DataW H}, d ∈ ds → ∀ n ∈ d.weights P e, n ∈ DataW.weightsAll P e ds
  | d0 :: ds, d, hd, n, hn => by
    rw [DataW.weightsAll, List.mem_append]
    rcases List.mem_cons.1 hd with rfl | h
    · exact .inl hn
    · exact .inr (weightsAll_mem h n hn)
theorem weights_slice {H : Type} {t e : TypeId} (ht : Tryz.prog.underlying t = some (.slice e)) {ds es : List (DataW H)} {d : DataW H} (hd : d ∈ ds) : ∀ n ∈ d.weights Tryz.prog e, n ∈ (DataW.slice ds es).weights Tryz.prog t := by
  intro n hn
  rw [DataW.weights, ht]
  simp only [List.mem_cons, List.mem_append]
  exact .inr (.inl (weightsAll_mem hd n hn))
/-- No text of it is longer than a machine can hold. -/
def Reach {H : Type} (t : TypeId) (d : DataW H) : Prop := ∀ n ∈ d.weights Tryz.prog t, n ≤ 140737488355328
theorem reach_all {H : Type} {ts : List TypeId} {ds : List (DataW H)} (h : (DataW.weightsEach Tryz.prog ts ds).all (· ≤ reachBytes) = true) {j : Nat} {t : TypeId} {d : DataW H} (ht : ts[j]? = some t) (hd : ds[j]? = some d) : Reach t d := fun n hn => by
  have h1 := List.all_eq_true.1 h _ (DataW.weights_mem_each ht hd n hn)
  have h2 : n ≤ reachBytes := of_decide_eq_true h1
  have := reachBytes_lt
  have e3 : (2 : Nat) ^ 47 = 140737488355328 := by decide
  omega
theorem reach_string {H : Type} {t : TypeId} {s : ByteArray} (h : Reach (H := H) t (.lit (.string s.data.toList))) : s.size ≤ 140737488355328 := by
  have := h s.data.toList.length (by simp [DataW.weights])
  rw [Array.length_toList] at this
  exact this
def strOf : Value → ByteArray
  | .string s => s
  | _ => ⟨#[]⟩
end Go.Proofs.YtoblpjknnchlmaaGreatDoor

/- Parameters that came in: one, and a row of them. -/
namespace Go.Proofs.YtoblpjknnchlmaaGreatDoor
open Go.ChangeShapes Go.WideShapes Go.ChangeAt Go.RowKit Go.Joins

theorem cellsP : Tryz.prog.cellsOf 33 = 2 := by kernel_rfl
section
variable {H : Type} {enc : TypeId × Value → H} {W : World}
theorem open_pars {fuel : Nat} {v : Value} {x : DataW H × List MemPlace} (h : DataW.trod enc Tryz.prog W 0 (fun _ => true) true fuel 26 [v] = some x) :
    ∃ (a0 : Option Addr) (len cap b off : Nat) (ps : List Par), v = .slice a0 len cap ∧ (len ≤ cap ∧ cap ≤ 9223372036854775807) ∧ Pars W a0 len b off ps ∧ (Reach 26 x.1 → ∀ p ∈ ps, p.1.size ≤ 140737488355328 ∧ p.2.size ≤ 140737488355328) := by
  rcases Go.Deep.open_slice_pairs Tryz.underlying26 Tryz.underlying33 cellsP rfl rfl (by kernel_rfl) (by kernel_rfl) h with ⟨hcs, hx⟩ | ⟨a, len, cap, m, n, V0, V1, D0, D1, P0, P1, hcs, _, hl, hm, hmm, hx, hall⟩
  · simp only [List.cons.injEq, and_true] at hcs
    exact ⟨none, 0, 0, 0, 0, [], hcs, ⟨by omega, by omega⟩, ⟨rfl, fun h => absurd h (by omega), (fun j p hp => by simp at hp), (fun j p hp => by simp at hp)⟩, fun _ p hp => by cases hp⟩
  · simp only [List.cons.injEq, and_true] at hcs
    simp only [if_true] at hmm
    obtain rfl := hmm.symm
    unfold maxLen at hm
    have hS : ∀ i, i < len → V0 i = .string (strOf (V0 i)) ∧ V1 i = .string (strOf (V1 i)) ∧ D0 i = .lit (.string (strOf (V0 i)).data.toList) ∧ D1 i = .lit (.string (strOf (V1 i)).data.toList) := fun i hi => by
      obtain ⟨_, _, t0, t1⟩ := hall i (by omega)
      obtain ⟨s0, e0, x0, _⟩ := DataW.trod_string Tryz.underlying9 t0
      obtain ⟨s1, e1, x1, _⟩ := DataW.trod_string Tryz.underlying9 t1
      simp only [List.cons.injEq, and_true] at e0 e1
      simp only [Prod.mk.injEq] at x0 x1
      rw [e0, e1, x0.1, x1.1]
      exact ⟨rfl, rfl, rfl, rfl⟩
    obtain ⟨b, off, spot⟩ := a
    have hget : ∀ (j : Nat) (p : Par), ((List.range len).map fun i => ((strOf (V0 i), strOf (V1 i)) : Par))[j]? = some p → j < len ∧ p = (strOf (V0 j), strOf (V1 j)) := fun j p hp => by
      rw [List.getElem?_map] at hp
      by_cases hj : j < len
      · rw [List.getElem?_range hj] at hp
        simp only [Option.map_some, Option.some.injEq] at hp
        exact ⟨hj, hp.symm⟩
      · rw [List.getElem?_eq_none (by simp; omega)] at hp
        cases hp
    have hspot : 0 < len → spot = none := fun h0 => by simpa [Addr.add] using World.cell?_spot (hall 0 (by omega)).1
    refine ⟨some ⟨b, off, spot⟩, len, cap, b, off, (List.range len).map fun i => (strOf (V0 i), strOf (V1 i)), hcs, ⟨by omega, by omega⟩, ⟨by simp, fun h0 => ?_, fun j p hp => ?_, fun j p hp => ?_⟩, fun hr p hp => ?_⟩
    · obtain rfl := hspot h0
      refine ⟨rfl, ?_⟩
      have hc := (hall 0 (by omega)).1
      rcases Nat.lt_or_ge b W.heap.size with h1 | h1
      · exact h1
      · simp [World.cell?, Addr.add, Array.getElem?_eq_none h1] at hc
    · obtain ⟨hj, rfl⟩ := hget j p hp
      obtain rfl := hspot (by omega)
      rw [← add_plain]
      exact (hall j (by omega)).1.trans (congrArg some (hS j hj).1)
    · obtain ⟨hj, rfl⟩ := hget j p hp
      obtain rfl := hspot (by omega)
      rw [Nat.add_assoc, ← add_plain]
      exact (hall j (by omega)).2.1.trans (congrArg some (hS j hj).2.1)
    · obtain ⟨i, hi, rfl⟩ := List.mem_map.1 hp
      have hi' : i < len := List.mem_range.1 hi
      have hw : ∀ n ∈ (DataW.agg [D0 i, D1 i]).weights Tryz.prog 33, n ≤ 140737488355328 := fun n hn => by
        refine hr n ?_
        rw [hx]
        exact weights_slice Tryz.underlying26 (List.mem_map.2 ⟨i, hi, rfl⟩) n hn
      rw [(hS i hi').2.2.1, (hS i hi').2.2.2] at hw
      have w0 := hw (strOf (V0 i)).data.toList.length (by simp [DataW.weights, DataW.weightsEach, Tryz.underlying33])
      have w1 := hw (strOf (V1 i)).data.toList.length (by simp [DataW.weights, DataW.weightsEach, Tryz.underlying33])
      rw [Array.length_toList] at w0 w1
      exact ⟨w0, w1⟩
set_option maxRecDepth 100000 in
/-- A parameter that came in. -/
theorem open_param {b0 : Nat} {v : Value} {d : DataW H} {p : List MemPlace} (hv : Value.okWide Tryz.prog W .any b0 33 v) (h : DataW.Trod enc Tryz.prog W 0 (fun _ => true) true 33 v d p) :
    ∃ x y : ByteArray, v = .agg #[.string x, .string y] ∧ (Reach 33 d → x.size ≤ 140737488355328 ∧ y.size ≤ 140737488355328) := by
  obtain ⟨c0, c1, y0, y1, m, rfl, rfl, rfl, g0, g1⟩ := open_agg2 Tryz.underlying33 (by kernel_rfl) (by kernel_rfl) hv h
  obtain ⟨s0, e0, rfl, _⟩ := DataW.trod_string Tryz.underlying9 g0
  obtain ⟨s1, e1, rfl, _⟩ := DataW.trod_string Tryz.underlying9 g1
  simp only [List.cons.injEq, and_true] at e0 e1
  subst e0 e1
  refine ⟨s0, s1, rfl, fun hw => ?_⟩
  have w0 := hw s0.data.toList.length (by simp [DataW.weights, DataW.weightsEach, Tryz.underlying33])
  have w1 := hw s1.data.toList.length (by simp [DataW.weights, DataW.weightsEach, Tryz.underlying33])
  rw [Array.length_toList] at w0 w1
  exact ⟨w0, w1⟩
/-- A row of parameters that came in. -/
theorem open_parsT {v : Value} {d : DataW H} {p : List MemPlace} {a0 : Option Addr} {len cap : Nat} (h : DataW.Trod enc Tryz.prog W 0 (fun _ => true) true 26 v d p) (hv : v = .slice a0 len cap) :
    ∃ (b off : Nat) (ps : List Par), (len ≤ cap ∧ cap ≤ 9223372036854775807) ∧ Pars W a0 len b off ps ∧ (Reach 26 d → ∀ q ∈ ps, q.1.size ≤ 140737488355328 ∧ q.2.size ≤ 140737488355328) := by
  subst hv
  obtain ⟨fuel, hf⟩ := h
  obtain ⟨a1, n1, c1, b, off, ps, e, hl, hp, hr⟩ := open_pars (v := .slice a0 len cap) hf
  injection e with e1 e2 e3
  subst e1 e2 e3
  exact ⟨b, off, ps, hl, hp, hr⟩
end
end Go.Proofs.YtoblpjknnchlmaaGreatDoor

/- A request that came in: opened, with its numbers' bounds. -/
namespace Go.Proofs.YtoblpjknnchlmaaGreatDoor
open Go.ChangeShapes Go.WideShapes Go.ChangeAt Go.RowKit Go.Joins

theorem array13q {α : Type} {cs : Array α} (h : cs.size = 13) : ∃ c0 c1 c2 c3 c4 c5 c6 c7 c8 c9 c10 c11 c12, cs = #[c0, c1, c2, c3, c4, c5, c6, c7, c8, c9, c10, c11, c12] := by
  obtain ⟨l⟩ := cs
  match l, h with
  | [c0, c1, c2, c3, c4, c5, c6, c7, c8, c9, c10, c11, c12], _ => exact ⟨c0, c1, c2, c3, c4, c5, c6, c7, c8, c9, c10, c11, c12, rfl⟩
theorem list3q {α : Type} {l : List α} (h : l.length = 3) : ∃ c0 c1 c2, l = [c0, c1, c2] := by
  match l, h with
  | [c0, c1, c2], _ => exact ⟨c0, c1, c2, rfl⟩
theorem list7q {α : Type} {l : List α} (h : l.length = 7) : ∃ c0 c1 c2 c3 c4 c5 c6, l = [c0, c1, c2, c3, c4, c5, c6] := by
  match l, h with
  | [c0, c1, c2, c3, c4, c5, c6], _ => exact ⟨c0, c1, c2, c3, c4, c5, c6, rfl⟩
section
variable {H : Type} {enc : TypeId × Value → H} {W : World}
set_option maxRecDepth 100000 in
/-- An origin among the cells of a greater thing. -/
theorem open_orgAt9 {fuel : Nat} {c0 c1 c2 : Value} {x : DataW H × List MemPlace} (h : DataW.trod enc Tryz.prog W 0 (fun _ => true) true fuel 23 [c0, c1, c2] = some x) :
    ∃ (s : Bool) (t : ByteArray) (p : Int), c0 = .bool s ∧ c1 = .string t ∧ c2 = .int .i64 p ∧ x.1 = .agg [.lit (.bool s), .lit (.string t.data.toList), .lit (.int .i64 p)] ∧ (Lit.int .i64 p).wf = true := by
  obtain ⟨xs, n, rfl, rfl, _, hlen, hff⟩ := DataW.trod_struct Tryz.underlying23 h
  obtain ⟨y0, y1, y2, rfl⟩ := list3q (hlen.trans rfl)
  have g0 : DataW.trod enc Tryz.prog W 0 (fun _ => true) true n 4 [c0] = some y0 := hff 0 _ rfl
  have g1 : DataW.trod enc Tryz.prog W 0 (fun _ => true) true n 9 [c1] = some y1 := hff 1 _ rfl
  have g2 : DataW.trod enc Tryz.prog W 0 (fun _ => true) true n 3 [c2] = some y2 := hff 2 _ rfl
  obtain ⟨s, e0, rfl⟩ := DataW.trod_bool Tryz.underlying4 g0
  obtain ⟨t, e1, rfl, _⟩ := DataW.trod_string Tryz.underlying9 g1
  obtain ⟨p, e2, rfl, wp⟩ := DataW.trod_int Tryz.underlying3 g2
  simp only [List.cons.injEq, and_true] at e0 e1 e2
  exact ⟨s, t, p, e0, e1, e2, rfl, wp⟩
set_option maxRecDepth 100000 in
set_option maxHeartbeats 2000000 in
theorem open_req9 {b0 : Nat} {v : Value} {d : DataW H} {p : List MemPlace} (hv : Value.okWide Tryz.prog W .any b0 28 v) (h : DataW.Trod enc Tryz.prog W 0 (fun _ => true) true 28 v d p) :
    ∃ (pt fp up : Int) (fs us wi : Bool) (fh uh pa qu me bo : ByteArray) (a0 : Option Addr) (len cap b off : Nat) (ps : List Par),
      v = .agg #[.int .i64 pt, .bool fs, .string fh, .int .i64 fp, .bool us, .string uh, .int .i64 up, .string pa, .string qu, .string me, .slice a0 len cap, .bool wi, .string bo] ∧
      ((Lit.int .i64 pt).wf = true ∧ (Lit.int .i64 fp).wf = true ∧ (Lit.int .i64 up).wf = true) ∧ (len ≤ cap ∧ cap ≤ 9223372036854775807) ∧ Pars W a0 len b off ps ∧
      (Reach 28 d → (fh.size ≤ 140737488355328 ∧ uh.size ≤ 140737488355328 ∧ pa.size ≤ 140737488355328 ∧ qu.size ≤ 140737488355328 ∧ me.size ≤ 140737488355328 ∧ bo.size ≤ 140737488355328) ∧ ∀ q ∈ ps, q.1.size ≤ 140737488355328 ∧ q.2.size ≤ 140737488355328) := by
  obtain ⟨cs, rfl, hsz⟩ := okWide_struct Tryz.underlying28 hv
  obtain ⟨c0, c1, c2, c3, c4, c5, c6, c7, c8, c9, c10, c11, c12, rfl⟩ := array13q (hsz.trans (by kernel_rfl))
  obtain ⟨fuel, hf⟩ := h
  obtain ⟨xs, n, _, hx, _, hlen, hff⟩ := DataW.trod_struct Tryz.underlying28 hf
  obtain ⟨y0, y1, y2, y3, y4, y5, y6, rfl⟩ := list7q (hlen.trans rfl)
  simp only [Prod.mk.injEq] at hx
  have g0 : DataW.trod enc Tryz.prog W 0 (fun _ => true) true n 3 [c0] = some y0 := hff 0 _ rfl
  have g1 : DataW.trod enc Tryz.prog W 0 (fun _ => true) true n 23 [c1, c2, c3] = some y1 := hff 1 _ rfl
  have g2 : DataW.trod enc Tryz.prog W 0 (fun _ => true) true n 25 [c4, c5, c6, c7, c8] = some y2 := hff 2 _ rfl
  have g3 : DataW.trod enc Tryz.prog W 0 (fun _ => true) true n 9 [c9] = some y3 := hff 3 _ rfl
  have g4 : DataW.trod enc Tryz.prog W 0 (fun _ => true) true n 26 [c10] = some y4 := hff 4 _ rfl
  have g5 : DataW.trod enc Tryz.prog W 0 (fun _ => true) true n 4 [c11] = some y5 := hff 5 _ rfl
  have g6 : DataW.trod enc Tryz.prog W 0 (fun _ => true) true n 9 [c12] = some y6 := hff 6 _ rfl
  obtain ⟨pt, e0, rfl, wpt⟩ := DataW.trod_int Tryz.underlying3 g0
  obtain ⟨fs, fh, fp, rfl, rfl, rfl, x1, wfp⟩ := open_orgAt9 g1
  obtain ⟨us', m, rfl, hx2, _, hlen2, hff2⟩ := DataW.trod_struct Tryz.underlying25 g2
  obtain ⟨u0, u1, u2, rfl⟩ := list3q (hlen2.trans rfl)
  have q0 : DataW.trod enc Tryz.prog W 0 (fun _ => true) true m 23 [c4, c5, c6] = some u0 := hff2 0 _ rfl
  have q1 : DataW.trod enc Tryz.prog W 0 (fun _ => true) true m 9 [c7] = some u1 := hff2 1 _ rfl
  have q2 : DataW.trod enc Tryz.prog W 0 (fun _ => true) true m 9 [c8] = some u2 := hff2 2 _ rfl
  obtain ⟨us, uh, up, rfl, rfl, rfl, z0, wup⟩ := open_orgAt9 q0
  obtain ⟨pa, e7, rfl, _⟩ := DataW.trod_string Tryz.underlying9 q1
  obtain ⟨qu, e8, rfl, _⟩ := DataW.trod_string Tryz.underlying9 q2
  obtain ⟨me, e9, rfl, _⟩ := DataW.trod_string Tryz.underlying9 g3
  obtain ⟨a0, len, cap, b, off, ps, rfl, hl, hp, hr⟩ := open_pars g4
  obtain ⟨wi, e11, rfl⟩ := DataW.trod_bool Tryz.underlying4 g5
  obtain ⟨bo, e12, rfl, _⟩ := DataW.trod_string Tryz.underlying9 g6
  simp only [List.cons.injEq, and_true] at e0 e7 e8 e9 e11 e12
  subst e0 e7 e8 e9 e11 e12
  refine ⟨pt, fp, up, fs, us, wi, fh, uh, pa, qu, me, bo, a0, len, cap, b, off, ps, rfl, ⟨wpt, wfp, wup⟩, hl, hp, fun hw => ?_⟩
  have hd := hx.1
  simp only [List.map_cons, List.map_nil, x1, hx2, z0] at hd
  subst hd
  have w1 := hw fh.data.toList.length (by simp [DataW.weights, DataW.weightsEach, Tryz.underlying28, Tryz.underlying23])
  have w2 := hw uh.data.toList.length (by simp [DataW.weights, DataW.weightsEach, Tryz.underlying28, Tryz.underlying23, Tryz.underlying25])
  have w3 := hw pa.data.toList.length (by simp [DataW.weights, DataW.weightsEach, Tryz.underlying28, Tryz.underlying23, Tryz.underlying25])
  have w4 := hw qu.data.toList.length (by simp [DataW.weights, DataW.weightsEach, Tryz.underlying28, Tryz.underlying23, Tryz.underlying25])
  have w5 := hw me.data.toList.length (by simp [DataW.weights, DataW.weightsEach, Tryz.underlying28])
  have w6 := hw bo.data.toList.length (by simp [DataW.weights, DataW.weightsEach, Tryz.underlying28])
  rw [Array.length_toList] at w1 w2 w3 w4 w5 w6
  refine ⟨⟨w1, w2, w3, w4, w5, w6⟩, hr fun k hk => hw k ?_⟩
  simp only [DataW.weights, Tryz.underlying28]
  simp [DataW.weightsEach, hk]
end
end Go.Proofs.YtoblpjknnchlmaaGreatDoor

/- Rows of passes that came in: opened. -/
namespace Go.Proofs.YtoblpjknnchlmaaGreatDoor
open Go.ChangeShapes Go.WideShapes Go.ChangeAt Go.RowKit Go.Joins

theorem list6q {α : Type} {l : List α} (h : l.length = 6) : ∃ c0 c1 c2 c3 c4 c5, l = [c0, c1, c2, c3, c4, c5] := by
  match l, h with
  | [c0, c1, c2, c3, c4, c5], _ => exact ⟨c0, c1, c2, c3, c4, c5, rfl⟩
instance : Inhabited PsV := ⟨⟨false, ⟨#[]⟩, 0, false, ⟨#[]⟩, 0, ⟨#[]⟩, ⟨#[]⟩, false, ⟨#[]⟩, ⟨#[]⟩, 0⟩⟩
theorem cells12 : Tryz.prog.cellsOf 36 = 12 := by kernel_rfl
section
variable {H : Type} {enc : TypeId × Value → H} {W : World}
set_option maxRecDepth 100000 in
theorem open_passAt {fuel : Nat} {c0 c1 c2 c3 c4 c5 c6 c7 c8 c9 c10 c11 : Value} {x : DataW H × List MemPlace} (h : DataW.trod enc Tryz.prog W 0 (fun _ => true) true fuel 36 [c0, c1, c2, c3, c4, c5, c6, c7, c8, c9, c10, c11] = some x) :
    ∃ v : PsV, [c0, c1, c2, c3, c4, c5, c6, c7, c8, c9, c10, c11] = v.vals ∧ (Reach 36 x.1 → v.me.size ≤ 140737488355328 ∧ v.he.size ≤ 140737488355328) := by
  obtain ⟨xs, n, rfl, hx, _, hlen, hff⟩ := DataW.trod_struct Tryz.underlying36 h
  obtain ⟨y0, y1, y2, y3, y4, y5, rfl⟩ := list6q (hlen.trans rfl)
  have g0 : DataW.trod enc Tryz.prog W 0 (fun _ => true) true n 23 [c0, c1, c2] = some y0 := hff 0 _ rfl
  have g1 : DataW.trod enc Tryz.prog W 0 (fun _ => true) true n 25 [c3, c4, c5, c6, c7] = some y1 := hff 1 _ rfl
  have g2 : DataW.trod enc Tryz.prog W 0 (fun _ => true) true n 4 [c8] = some y2 := hff 2 _ rfl
  have g3 : DataW.trod enc Tryz.prog W 0 (fun _ => true) true n 9 [c9] = some y3 := hff 3 _ rfl
  have g4 : DataW.trod enc Tryz.prog W 0 (fun _ => true) true n 9 [c10] = some y4 := hff 4 _ rfl
  have g5 : DataW.trod enc Tryz.prog W 0 (fun _ => true) true n 3 [c11] = some y5 := hff 5 _ rfl
  obtain ⟨fs, fh, fp, rfl, rfl, rfl, _, _⟩ := open_orgAt9 g0
  obtain ⟨us', m, rfl, hx2, _, hlen2, hff2⟩ := DataW.trod_struct Tryz.underlying25 g1
  obtain ⟨u0, u1, u2, rfl⟩ := list3q (hlen2.trans rfl)
  have q0 : DataW.trod enc Tryz.prog W 0 (fun _ => true) true m 23 [c3, c4, c5] = some u0 := hff2 0 _ rfl
  have q1 : DataW.trod enc Tryz.prog W 0 (fun _ => true) true m 9 [c6] = some u1 := hff2 1 _ rfl
  have q2 : DataW.trod enc Tryz.prog W 0 (fun _ => true) true m 9 [c7] = some u2 := hff2 2 _ rfl
  obtain ⟨us, uh, up, rfl, rfl, rfl, _, _⟩ := open_orgAt9 q0
  obtain ⟨pa, e7, _, _⟩ := DataW.trod_string Tryz.underlying9 q1
  obtain ⟨qu, e8, _, _⟩ := DataW.trod_string Tryz.underlying9 q2
  obtain ⟨wi, e9, _⟩ := DataW.trod_bool Tryz.underlying4 g2
  obtain ⟨me, e10, rfl, _⟩ := DataW.trod_string Tryz.underlying9 g3
  obtain ⟨he, e11, rfl, _⟩ := DataW.trod_string Tryz.underlying9 g4
  obtain ⟨un, e12, _, _⟩ := DataW.trod_int Tryz.underlying3 g5
  simp only [List.cons.injEq, and_true] at e7 e8 e9 e10 e11 e12
  subst e7 e8 e9 e10 e11 e12
  refine ⟨⟨fs, fh, fp, us, uh, up, pa, qu, wi, me, he, un⟩, rfl, fun hw => ?_⟩
  subst hx
  have w1 := hw me.data.toList.length (by simp [DataW.weights, DataW.weightsEach, Tryz.underlying36])
  have w2 := hw he.data.toList.length (by simp [DataW.weights, DataW.weightsEach, Tryz.underlying36])
  rw [Array.length_toList] at w1 w2
  exact ⟨w1, w2⟩
theorem open_passes {fuel : Nat} {v : Value} {x : DataW H × List MemPlace} (h : DataW.trod enc Tryz.prog W 0 (fun _ => true) true fuel 29 [v] = some x) :
    ∃ (a0 : Option Addr) (len cap b off : Nat) (gs : List PsV), v = .slice a0 len cap ∧ (len ≤ cap ∧ cap ≤ 9223372036854775807) ∧ Pss W a0 len b off gs ∧ (Reach 29 x.1 → ∀ p ∈ gs, p.me.size ≤ 140737488355328 ∧ p.he.size ≤ 140737488355328) := by
  rcases Go.Deep.open_slice Tryz.underlying29 h with ⟨hcs, hx⟩ | ⟨a, len, cap, m, n, D, Pl, hcs, _, hl, hm, hmm, hx, hall⟩
  · simp only [List.cons.injEq, and_true] at hcs
    exact ⟨none, 0, 0, 0, 0, [], hcs, ⟨by omega, by omega⟩, pss_nil W, fun _ p hp => by cases hp⟩
  · simp only [List.cons.injEq, and_true] at hcs
    simp only [if_true] at hmm
    obtain rfl := hmm.symm
    unfold maxLen at hm
    rw [cells12] at hall
    have each : ∀ i, i < cap → ∃ g : PsV, (∀ (j : Nat) (u : Value), g.vals[j]? = some u → W.cell? (a.add (i * 12 + j)) = some u) ∧ (Reach 36 (D i) → g.me.size ≤ 140737488355328 ∧ g.he.size ≤ 140737488355328) := fun i hi => by
      obtain ⟨cs', h1, h2⟩ := hall i hi
      obtain ⟨_, hlen, hcell⟩ := World.cells?_some h1
      match cs', hlen with
      | [c0, c1, c2, c3, c4, c5, c6, c7, c8, c9, c10, c11], _ =>
        obtain ⟨g, e, hg⟩ := open_passAt h2
        refine ⟨g, fun j u hj => ?_, hg⟩
        have hj12 : j < 12 := (List.getElem?_eq_some_iff.1 hj).1
        have e0 := hcell j hj12
        rw [Go.Deep.add_add] at e0
        rw [e0, e, hj]
    obtain ⟨C, hC⟩ := Go.Deep.choose_lt each
    obtain ⟨b, off, spot⟩ := a
    have hget : ∀ (j : Nat) (c : PsV), ((List.range len).map C)[j]? = some c → j < len ∧ c = C j := fun j p hp => by
      rw [List.getElem?_map] at hp
      by_cases hj : j < len
      · rw [List.getElem?_range hj] at hp
        simp only [Option.map_some, Option.some.injEq] at hp
        exact ⟨hj, hp.symm⟩
      · rw [List.getElem?_eq_none (by simp; omega)] at hp
        cases hp
    have hspot : 0 < len → spot = none := fun h0 => by simpa [Addr.add] using World.cell?_spot ((hC 0 (by omega)).1 0 _ rfl)
    refine ⟨some ⟨b, off, spot⟩, len, cap, b, off, (List.range len).map C, hcs, ⟨by omega, by omega⟩, ⟨by simp, fun h0 => ?_, fun j c hc i u hu => ?_⟩, fun hr p hp => ?_⟩
    · obtain rfl := hspot h0
      refine ⟨rfl, ?_⟩
      have hc := (hC 0 (by omega)).1 0 _ rfl
      rcases Nat.lt_or_ge b W.heap.size with h1 | h1
      · exact h1
      · simp [World.cell?, Addr.add, Array.getElem?_eq_none h1] at hc
    · obtain ⟨hj, rfl⟩ := hget j c hc
      obtain rfl := hspot (by omega)
      rw [Nat.add_assoc, ← add_plain]
      exact (hC j (by omega)).1 i u hu
    · obtain ⟨i, hi, rfl⟩ := List.mem_map.1 hp
      have hi' : i < len := List.mem_range.1 hi
      refine (hC i (by omega)).2 fun n hn => ?_
      refine hr n ?_
      rw [hx]
      exact weights_slice Tryz.underlying29 (List.mem_map.2 ⟨i, hi, rfl⟩) n hn
/-- A row of passes that came in. -/
theorem open_passesT {v : Value} {d : DataW H} {p : List MemPlace} {a : Option Addr} {n k : Nat} (h : DataW.Trod enc Tryz.prog W 0 (fun _ => true) true 29 v d p) (hv : v = .slice a n k) :
    ∃ (b off : Nat) (gs : List PsV), (n ≤ k ∧ k ≤ 9223372036854775807) ∧ Pss W a n b off gs ∧ (Reach 29 d → ∀ p ∈ gs, p.me.size ≤ 140737488355328 ∧ p.he.size ≤ 140737488355328) := by
  subst hv
  obtain ⟨fuel, hf⟩ := h
  obtain ⟨a0, len, cap, b, off, gs, e, h1, h2, h3⟩ := open_passes (v := .slice a n k) hf
  injection e with e1 e2 e3
  subst e1 e2 e3
  exact ⟨b, off, gs, h1, h2, h3⟩
end
end Go.Proofs.YtoblpjknnchlmaaGreatDoor
