/- What is sent of a URL stands behind its origin, by the program. -/
import Derived.Test.YtclagicimiimfabDoorUrlB
namespace Go.Proofs.YtclagicimiimfabDoor
open Go.RowKit

theorem tgt_slash {p : ByteArray} {r : List UInt8} (q : ByteArray) (h : p.data.toList = 47 :: r) : ∃ r2, (tgt p q).data.toList = 47 :: r2 := by
  have ha : ∀ a b : ByteArray, (a ++ b).data.toList = a.data.toList ++ b.data.toList := fun a b => by simp
  unfold tgt
  split
  · exact ⟨r, h⟩
  · rw [ha, ha, h]
    exact ⟨_, rfl⟩

set_option maxRecDepth 100000 in
set_option maxHeartbeats 1000000 in
theorem urlSends_walk (s : ByteArray) (hs : s.size ≤ 140737488355328) (w : World) (h : Env w) :
    Calls Tryd.prog 5 #[.string s] w fun e w' => e = .returned (.bool true) ∧ Below w.heap.size w w' := by
  by_cases h1 : (500 : Int) < (s.size : Int)
  · go_enter Tryd.func5, Tryd.ntmps5
    go_wp2_with fail
    refine (named_any _ h).mono ?_
    rintro e w1 ⟨rfl, hb1⟩
    go_wp2
    go_ret
    exact ⟨rfl, hb1⟩
  · have hs' : s.size ≤ 900 := by omega
    have hs5 : s.size ≤ 500 := by omega
    go_enter Tryd.func5, Tryd.ntmps5
    go_wp2_with fail
    refine (named_any _ h).mono ?_
    rintro e w1 ⟨rfl, hb1⟩
    have h1 := h.below hb1 (Nat.le_refl _)
    go_wp2_with fail
    refine (parse_any s hs' _ h1.sch).mono ?_
    rintro e w2 ⟨hb2, ⟨sec, x, p, q, n, rfl, hp⟩ | ⟨c, rfl, hp⟩⟩
    · have h2 := h1.below hb2 (Nat.le_refl _)
      have hb12 := hb1.trans (hb2.mono hb1.size)
      obtain ⟨hr, hsp, hsq, h63, ⟨r, hpr⟩, hcl, hlen, hql⟩ := parse_parts hp
      obtain ⟨hxl, hn1, hn2, hh⟩ := rightL_parts hr
      have ex : x.data.toList.length = x.size := Array.length_toList
      have ep : p.data.toList.length = p.size := Array.length_toList
      have eq : q.data.toList.length = q.size := Array.length_toList
      have es : s.data.toList.length = s.size := Array.length_toList
      obtain ⟨r2, hr2⟩ := tgt_slash q hpr
      have cp := fun W hW => print_any sec x n p q (by omega) (by omega) (by omega) (by omega) W hW
      have ct := fun W hW => text_any sec x n (by omega) (by omega) (by omega) W hW
      have cg := fun W => target_any sec x n p q (by omega) W
      obtain ⟨a, ha⟩ : ∃ a, bs (textL sec x.data.toList n) = a := ⟨_, rfl⟩
      obtain ⟨b, hb⟩ : ∃ b, tgt p q = b := ⟨_, rfl⟩
      have ha2 : a.size ≤ 4100 := by
        rw [← ha, bs_size]
        have t2 := textL_length sec x.data.toList n (by omega) (by omega)
        omega
      have hb3 : b.size ≤ 4100 := by
        rw [← hb]
        have t1 := tgt_size p q
        omega
      unfold printB at cp
      rw [ha] at cp ct
      rw [hb] at cp cg hr2
      obtain ⟨y, HY⟩ : ∃ y, Hid (a ++ b = y) := ⟨_, rfl⟩
      rw [HY.out] at cp
      have a1 := fun W => run_string_add_sum (P := Tryd.prog) W a b (by omega)
      have cs := fun W => slash_any hr2 W
      have hQ := begin5 w2 h2 (.bool sec) (.string x) (.int .i64 n) (.string p) (.string q) 26 _ rfl
      clear hp hr hsp hsq h63 hpr hcl hlen hql hxl hn1 hn2 hh ex ep eq es ha hb h1 h h2 hr2
      have hyy : (y.toList == (a ++ b).toList) = true := by rw [HY.out]; simp
      go_wp2_with fail
      go_region_held3 (fun W => W.cell? ⟨w2.heap.size, 0, none⟩ = some (.bool sec) ∧ W.cell? ⟨w2.heap.size, 1, none⟩ = some (.string x) ∧ W.cell? ⟨w2.heap.size, 2, none⟩ = some (.int .i64 n) ∧ W.cell? ⟨w2.heap.size, 3, none⟩ = some (.string p) ∧ W.cell? ⟨w2.heap.size, 4, none⟩ = some (.string q) ∧ TKeep w2 W) (first | assumption | exact hQ) (first
        | (go_at_call 10; refine (cp _ (TKeep.env (And.right (And.right (And.right (And.right (And.right (by assumption)))))))).mono ?_; rintro e w3 ⟨rfl, hb3⟩; have hQ3 := keep5 (by assumption) hb3)
        | (go_at_call 16; refine (ct _ (TKeep.env (And.right (And.right (And.right (And.right (And.right (by assumption)))))))).mono ?_; rintro e w4 ⟨rfl, hb4⟩; have hQ4 := keep5 (by assumption) hb4)
        | (go_at_call 17; refine (cg _).mono ?_; rintro e w5 ⟨rfl, hb5⟩; have hQ5 := keep5 (by assumption) hb5)
        | (go_at_call 12; refine (cs _).mono ?_; rintro e w6 ⟨rfl, rfl⟩))
      go_wp2
      go_ret
      exact ⟨rfl, hb12.trans ((TKeep.bel (And.right (And.right (And.right (And.right (And.right (by assumption))))))).mono hb12.size)⟩
    · have hbb := (hb1.trans (hb2.mono hb1.size)).alloc (hb1.trans (hb2.mono hb1.size)).size (.cells #[.bool false, .string ⟨#[]⟩, .int .i64 0, .string ⟨#[]⟩, .string ⟨#[]⟩] 26)
      clear hp
      go_wp2_with fail
      go_quiet (fail)
      go_wp2
      go_ret
      exact ⟨rfl, drewN_below hbb _⟩
end Go.Proofs.YtclagicimiimfabDoor
