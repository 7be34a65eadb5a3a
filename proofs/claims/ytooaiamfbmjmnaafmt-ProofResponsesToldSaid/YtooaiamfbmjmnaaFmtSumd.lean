/- The sum of texts with colons between, by the program. -/
import Derived.Test.YtooaiamfbmjmnaaFmtPf
import Derived.Test.YtooaiamfbmjmnaaFmtSha
import Derived.Test.YtooaiamfbmjmnaaFmtShJoin
import Derived.Test.YtooaiamfbmjmnaaFmtFib
namespace Go.Proofs.YtooaiamfbmjmnaaFmt
open Go.RowKit Go.Shelf

/-- The tables that the road reads. -/
structure Tabs (w : World) : Prop where
  sines : Hid (Sines w)
  turns : Hid (Turns w)
  begins : Hid (Begin w)
  roots : Hid (Roots w)
  bruijn : Hid (Bruijn w)
theorem Tabs.below {w w' : World} (h : Tabs w) (hb : Below w.heap.size w w') : Tabs w' :=
  ⟨h.sines.out.below hb, h.turns.out.below hb, h.begins.out.below hb, h.roots.out.below hb, h.bruijn.out.below hb (Nat.le_refl _)⟩
def dats (xs : List ByteArray) : List (List UInt8) := xs.map (·.data.toList)
theorem joinC_any (xs : List ByteArray) (b cap : Nat) (hcap : xs.length ≤ cap) (hlen : (Lib.join (dats xs) [58]).length ≤ 1000) (hx : xs.length ≤ 100) (w : World) (hb : b < w.heap.size) (hc : ∀ (j : Nat) x, xs[j]? = some x → w.cell? ⟨b, 0 + j, none⟩ = some (.string x)) :
    Calls Tryf.prog 11 #[.slice (some ⟨b, 0, none⟩) xs.length cap, .string ⟨#[58]⟩] w fun e w' => e = .returned (.string (bs (Lib.join (dats xs) [58]))) ∧ Below w.heap.size w w' := by
  have c := Any.strings_Join lays156 Builder_Extra_156 b 0 cap xs ⟨#[58]⟩ w hc hb (by omega) hcap (by
    show (Lib.join (dats xs) [58]).length ≤ _
    omega)
  exact c
set_option maxHeartbeats 1000000 in
theorem sumd_any (sch : Int) (xs : List ByteArray) (b cap : Nat) (hcap : xs.length ≤ cap) (hlen : (Lib.join (dats xs) [58]).length ≤ 1000) (hx : xs.length ≤ 100) (w : World) (HT : Hid (Tabs w)) (hb : b < w.heap.size) (hc : ∀ (j : Nat) x, xs[j]? = some x → w.cell? ⟨b, 0 + j, none⟩ = some (.string x)) :
    Calls Tryf.prog 7 #[.int .i64 sch, .slice (some ⟨b, 0, none⟩) xs.length cap] w fun e w' => e = .returned (.string (bs (sumT sch (dats xs)))) ∧ Below w.heap.size w w' := by
  have hj := joinC_any xs b cap hcap hlen hx w hb hc
  have hz : (bs (Lib.join (dats xs) [58])).size ≤ 1000 := by rw [bs_size]; exact hlen
  have hd : (bs (Lib.join (dats xs) [58])).data.toList = Lib.join (dats xs) [58] := bs_data _
  unfold sumT sumL
  generalize xs.length = n at hj ⊢
  generalize Lib.join (dats xs) [58] = J at hj hz hd ⊢
  have h1 := fun w h1 h2 => md5_any (bs J) hz w h1 h2
  have h2 := fun w h1 h2 => sha_any (bs J) hz w h1 h2
  rw [hd] at h1 h2
  clear hc
  by_cases h3 : sch = 3
  · have hi : (sch == 3) = true := by simp [h3]
    rw [if_pos h3]
    go_enter Tryf.func7, Tryf.ntmps7
    go_wp2_with fail
    refine hj.mono ?_
    rintro e w1 ⟨rfl, hb1⟩
    go_wp2_with fail
    refine (h2 _ (HT.out.below hb1).begins (HT.out.below hb1).roots).mono ?_
    rintro e w2 ⟨rfl, hb2⟩
    go_wp2
    go_ret
    exact ⟨rfl, hb1.trans (hb2.mono hb1.size)⟩
  · have hi : (sch == 3) = false := by simp [h3]
    rw [if_neg h3]
    go_enter Tryf.func7, Tryf.ntmps7
    go_wp2_with fail
    refine hj.mono ?_
    rintro e w1 ⟨rfl, hb1⟩
    go_wp2_with fail
    refine (h1 _ (HT.out.below hb1).sines (HT.out.below hb1).turns).mono ?_
    rintro e w2 ⟨rfl, hb2⟩
    go_wp2
    go_ret
    exact ⟨rfl, hb1.trans (hb2.mono hb1.size)⟩
/-- The same of texts that were laid just now. -/
theorem sumd_of (sch : Int) (xs : List ByteArray) (n cap : Nat) (hn : xs.length = n) (hcap : n ≤ cap) (hlen : (Lib.join (dats xs) [58]).length ≤ 1000) (hx : n ≤ 100) (W : World) (HT : Hid (Tabs W)) :
    Calls Tryf.prog 7 #[.int .i64 sch, .slice (some ⟨W.heap.size, 0, none⟩) n cap] (W.alloc (.cells (xs.map Value.string).toArray 9)) fun e w' => e = .returned (.string (bs (sumT sch (dats xs)))) ∧ Below W.heap.size W w' := by
  subst hn
  have hb1 : Below W.heap.size W (W.alloc (.cells (xs.map Value.string).toArray 9)) := (Below.refl _ _).alloc (Nat.le_refl _) _
  refine (sumd_any sch xs W.heap.size cap hcap hlen hx _ (HT.out.below hb1) (by simp) (fun j x hj => ?_)).mono ?_
  · rw [World.cell?_alloc_mark, Nat.zero_add]
    simp [hj]
  · rintro e w2 ⟨rfl, hb2⟩
    exact ⟨rfl, hb1.trans (hb2.mono (by simp))⟩
end Go.Proofs.YtooaiamfbmjmnaaFmt
