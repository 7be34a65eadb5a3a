/- Rows of structs: without those from one place to another, by the library's own function; whatever the program. -/
import Derived.Test.YtdnnlfklanaliabDlfG
import Derived.Deep.RegionLaw
namespace Go.Proofs.Ytdnnlfklanaliab
open Go.RowKit
set_option linter.unusedVariables false

set_option maxRecDepth 100000 in
set_option maxHeartbeats 4000000 in
theorem dltG_of (P : Program) (hf : P.funcs[48]? = some Try.f48) (mixed : P.follows .mixedOrders = true)
    (tS : P.underlying 22 = some (TypeDesc.slice 36)) (aS : ∀ w, (isAgg 22).run P w = .ok false w) (zS : ∀ w, (Go.sizeOf 22).run P w = .ok 1 w)
    (t3 : P.underlying 3 = some (TypeDesc.int IntKind.i64)) (a3 : ∀ w, (isAgg 3).run P w = .ok false w) (z3 : ∀ w, (Go.sizeOf 3).run P w = .ok 1 w) (v3 : ∀ w, (zeroValue 3).run P w = .ok (Value.int IntKind.i64 0) w)
    (t4 : P.underlying 4 = some TypeDesc.bool) (a4 : ∀ w, (isAgg 4).run P w = .ok false w) (z4 : ∀ w, (Go.sizeOf 4).run P w = .ok 1 w)
    (k : Nat) (hk0 : 0 < k) (aE : ∀ w, (isAgg 36).run P w = .ok true w) (zE : ∀ w, (Go.sizeOf 36).run P w = .ok k w) (zc : Array Value) (vE : ∀ w, (zeroValue 36).run P w = .ok (.agg zc) w) (hzc : zc.size = k) (hz1 : ∀ u ∈ zc, u.oneCell' = true)
    (i0 : TypeInfo) (hi0 : P.info? 36 = some i0) (hi1 : i0.size = k)
    (g n cap B : Nat) (xs : List (List Value)) (hn : xs.length = n) (hbig : cap ≤ 9223372036854775807) (w : World) (hown : OwnK k 36 w B (.slice (some ⟨g, 0, none⟩) n cap) xs) (i j : Nat) (hij : i < j) (hj : j ≤ n) :
    Calls P 48 #[.slice (some ⟨g, 0, none⟩) n cap, .int .i64 i, .int .i64 j] w fun e w' => e = .returned (.slice (some ⟨g, 0, none⟩) (i + (n - j)) cap) ∧ Hid (OwnK k 36 w' B (.slice (some ⟨g, 0, none⟩) (i + (n - j)) cap) (xs.take i ++ xs.drop j) ∧ w.grownBy w' (some g)) := by
  have hncap : n ≤ cap := by
    rcases hown.forms with ⟨e, _⟩ | ⟨g', cap', e, _, _, h1, _⟩
    · cases e
    · injection e with _ _ e3
      rw [e3, ← hn]; exact h1
  have mul := fun {a b : Nat} (h : a ≤ b) => Nat.mul_le_mul_right k h
  have hyl : ∀ y ∈ xs.drop j, y.length = k := fun y hy => hown.len y (List.mem_of_mem_drop hy)
  have hy1 : ∀ y ∈ xs.drop j, ∀ u ∈ y, u.oneCell' = true := fun y hy => hown.one y (List.mem_of_mem_drop hy)
  obtain ⟨news, hnews⟩ : ∃ news, news = (xs.drop j).flatten := ⟨_, rfl⟩
  have hlen : news.length = (n - j) * k := by rw [hnews, flat_len hyl, List.length_drop, hn]
  obtain ⟨A, hA, hsrc⟩ : ∃ A : Addr, (if cap = j then some (⟨g, 0, none⟩ : Addr) else some ⟨g, j * k, none⟩) = some A ∧ Hid (∀ t u, news[t]? = some u → w.drew.cell? (A.add t) = some u) := by
    by_cases h : cap = j
    · refine ⟨⟨g, 0, none⟩, by simp [h], fun t u hu => ?_⟩
      have h0 : news.length = 0 := by rw [hlen, show n - j = 0 by omega]; simp
      rw [List.length_eq_zero_iff.1 h0] at hu
      simp at hu
    · refine ⟨⟨g, j * k, none⟩, by simp [h], fun t u hu => ?_⟩
      rw [hnews, ← flat_drop hown.len, List.getElem?_drop] at hu
      have hc := World.ownsRow.cells hown.row (g := g) rfl (j * k + t) u hu
      rw [Addr.add_lit, Nat.zero_add] at hc
      rw [Addr.add_lit]
      exact hc
  have s1 : Hid (news.length = (n - j) * k) := hlen
  have s2 : Hid (∀ u ∈ news, u.oneCell' = true) := by
    intro u hu
    rw [hnews, List.mem_flatten] at hu
    obtain ⟨y, hy, hu⟩ := hu
    exact hy1 y hy u hu
  have hbnd : i * k + (n - j) * k ≤ cap * k := by rw [← Nat.add_mul]; exact mul (by omega)
  have s3 : Hid (∀ t, t < news.length → (w.drew.cell? ⟨g, 0 + i * k + t, none⟩).isSome = true ∧ w.drew.frozen? ⟨g, 0 + i * k + t, none⟩ = false) := by
    intro t ht
    rw [hlen] at ht
    exact ⟨hown.there _ (by omega), hown.frozen _⟩
  obtain ⟨W1, hW1⟩ : ∃ W1, W1 = w.drew.setCells g (i * k) news := ⟨_, rfl⟩
  have hput : OwnK k 36 W1 B (.slice (some ⟨g, 0, none⟩) (xs.take i ++ xs.drop j ++ xs.drop (i + (xs.drop j).length)).length cap) (xs.take i ++ xs.drop j ++ xs.drop (i + (xs.drop j).length)) := by
    rw [hW1, hnews]
    have h := (show OwnK k 36 w.drew B (.slice (some ⟨g, 0, none⟩) n cap) xs from hown.drewN 1).put i (xs.drop j) hyl hy1 (by omega) (by rw [List.length_drop]; omega)
    exact h
  have hLl : (xs.take i ++ xs.drop j ++ xs.drop (i + (xs.drop j).length)).length = n := by simp; omega
  rw [hLl] at hput
  have htk : (xs.take i ++ xs.drop j ++ xs.drop (i + (xs.drop j).length)).take (i + (n - j)) = xs.take i ++ xs.drop j := by
    have : (xs.take i ++ xs.drop j).length = i + (n - j) := by simp; omega
    rw [← this, List.take_left']
    rfl
  have hb2 : (i + (n - j)) * k + (j - i) * k ≤ cap * k := by rw [← Nat.add_mul]; exact mul (by omega)
  have hzl : (Builtin.zeroCells zc (j - i)).toList.length = (j - i) * k := by simp [Builtin.zeroCells, hzc]
  have e1 : n - (i + (n - j)) = j - i := by omega
  have hcl : ∀ ty, (Builtin.clear_ #[22] ty #[.slice (some ⟨g, (i + (n - j)) * k, none⟩) (n - (i + (n - j))) (cap - (i + (n - j)))]).run P W1 = .ok (.tuple #[]) (W1.setCells g ((i + (n - j)) * k) (Builtin.zeroCells zc (j - i)).toList) :=
    fun ty => by
      rw [e1]
      exact run_clear_K P W1 _ _ ty (.agg zc) k tS vE hzc hz1 g ((i + (n - j)) * k) (j - i) _ (by omega) (fun t ht => hput.there _ (by omega)) (fun t ht => hput.frozen _)
  have HE : Hid (OwnK k 36 (W1.setCells g ((i + (n - j)) * k) (Builtin.zeroCells zc (j - i)).toList) B (.slice (some ⟨g, 0, none⟩) (i + (n - j)) cap) (xs.take i ++ xs.drop j) ∧ w.grownBy (W1.setCells g ((i + (n - j)) * k) (Builtin.zeroCells zc (j - i)).toList) (some g)) := by
    have h := hput.wipe (i + (n - j)) (by rw [hLl]; omega) (Builtin.zeroCells zc (j - i)).toList (by rw [hzl]; exact hb2)
    rw [htk] at h
    refine ⟨h, gtrans ?_ (grown_setCells _ _ _ _)⟩
    rw [hW1]
    exact gtrans (show w.grownBy w.drew (some g) from below_grown (Below.refl _ _).drew _) (grown_setCells _ _ _ _)
  have hW : Hid (W1 = w.drew.setCells g (0 + i * k) news) := by show _ = _; rw [Nat.zero_add]; exact hW1
  generalize (Builtin.zeroCells zc (j - i)).toList = zs at hcl HE
  have hic : i ≤ cap := by omega
  have hjc : j ≤ cap := by omega
  have hneq : ((i : Int) == (j : Int)) = false := beq_eq_false_iff_ne.2 (by omega)
  have hij' : (i : Int) ≤ (j : Int) := by omega
  clear hW1 hput hown hnews hlen hLl htk hb2 hzl hzc hz1 hbnd hyl hy1 mul hn e1
  go_enter hf, Try.ntmps48
  go_wp2_with fail
  go_region_law_o (refine step_append_room rfl (.tmp 22) (.tmp 25) 22 rfl 36 i0 k tS hi0 hi1 g 0 i cap (by simp [Act.eval, Act.put]) A (n - j) (cap - j) news (by simp [Act.eval, Act.put]) s1.out hsrc.out s2.out (by omega) s3.out ?_; rw [← hW.out])
  go_wp2
  go_ret
  exact ⟨rfl, HE⟩
set_option maxHeartbeats 2000000 in
theorem infoG : (Try.prog.info? 36).map (fun i => i.size) = some 16 := by kernel_rfl
theorem dltG_any (g n cap B : Nat) (xs : List (List Value)) (hn : xs.length = n) (hbig : cap ≤ 9223372036854775807) (w : World) (hown : OwnK 16 36 w B (.slice (some ⟨g, 0, none⟩) n cap) xs) (i j : Nat) (hij : i < j) (hj : j ≤ n) :
    Calls Try.prog 48 #[.slice (some ⟨g, 0, none⟩) n cap, .int .i64 i, .int .i64 j] w fun e w' => e = .returned (.slice (some ⟨g, 0, none⟩) (i + (n - j)) cap) ∧ Hid (OwnK 16 36 w' B (.slice (some ⟨g, 0, none⟩) (i + (n - j)) cap) (xs.take i ++ xs.drop j) ∧ w.grownBy w' (some g)) := by
  obtain ⟨i0, hi0, hi1⟩ := Option.map_eq_some_iff.1 infoG
  exact dltG_of Try.prog Try.func48 (by kernel_rfl) Try.underlying22 Try.isAgg22 Try.sizeOf22 Try.underlying3 Try.isAgg3 Try.sizeOf3 Try.zeroValue3 Try.underlying4 Try.isAgg4 Try.sizeOf4 16 (by omega) Try.isAgg36 Try.sizeOf36 _ Try.zeroValue36 rfl (by decide) i0 hi0 hi1 g n cap B xs hn hbig w hown i j hij hj
set_option maxHeartbeats 1000000 in
theorem dltG_same (a : Option Addr) (n cap i : Nat) (hi : i ≤ n) (hn : n ≤ cap) (w : World) : Calls Try.prog 48 #[.slice a n cap, .int .i64 i, .int .i64 i] w fun e w' => e = .returned (.slice a n cap) ∧ w' = w := by
  have hic : i ≤ cap := by omega
  cases a with
  | none =>
    go_enter Try.func48, Try.ntmps48
    go_wp2
    all_goals (go_ret; exact ⟨rfl, rfl⟩)
  | some p =>
    go_enter Try.func48, Try.ntmps48
    go_wp2
    all_goals (go_ret; exact ⟨rfl, rfl⟩)
end Go.Proofs.Ytdnnlfklanaliab
