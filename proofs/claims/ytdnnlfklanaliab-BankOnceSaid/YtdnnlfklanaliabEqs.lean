/- Two rows of the same texts are equal, by the library's own function. -/
import Derived.Test.YtdnnlfklanaliabSrs
import Derived.Test.YtdnnlfklanaliabShEq
namespace Go.Proofs.Ytdnnlfklanaliab
open Go.RowKit Go.Shelf

theorem equal_same (a1 a2 : Option Addr) (n c b1 o1 d b2 o2 : Nat) (xs : List ByteArray) (w : World) (hn : n ≤ 1000000) (h1 : Strs w a1 n b1 o1 xs) (h2 : Strs w a2 n b2 o2 xs) :
    Calls Try.prog 31 #[.slice a1 n c, .slice a2 n d] w fun e w' => e = .returned (.bool true) ∧ ∃ q, w' = w.drewN q := by
  by_cases h0 : n = 0
  · subst h0
    refine (Any.slices_Equal_string_empty lays193 a1 a2 c 0 d w (by omega)).mono ?_
    rintro e w' ⟨rfl, rfl⟩
    exact ⟨rfl, 0, rfl⟩
  · obtain ⟨rfl, _⟩ := h1.lies (by omega)
    obtain ⟨rfl, _⟩ := h2.lies (by omega)
    have hl := h1.len_eq
    have hc : ∀ (b o : Nat), (∀ (j : Nat) (x : ByteArray), xs[j]? = some x → w.cell? ⟨b, o + j, none⟩ = some (.string x)) → ∀ j, j < xs.length → w.cell? ⟨b, o + j, none⟩ = some (.string (xs.getD j ByteArray.empty)) := by
      intro b o h j hj
      have : xs[j]? = some xs[j] := List.getElem?_eq_getElem hj
      rw [h j _ this]
      simp [List.getD, this]
    refine (Any.slices_Equal_string lays193 b1 o1 n c b2 o2 n d xs xs w (by omega) (by omega) (by omega) (by omega) (hc b1 o1 h1.cells) (hc b2 o2 h2.cells)).mono ?_
    rintro e w' ⟨rfl, hq⟩
    exact ⟨by simp, hq⟩
end Go.Proofs.Ytdnnlfklanaliab
