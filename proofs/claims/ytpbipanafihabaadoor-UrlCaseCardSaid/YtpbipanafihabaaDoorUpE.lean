/- A text in great letters, by the library: any text is some text; of ASCII bytes it is letter by letter. The tables that this reads, as the row lays them. -/
import Derived.Test.YtpbipanafihabaaDoorShUp
import Derived.Test.YtpbipanafihabaaDoorCasQ
import Derived.Test.YtpbipanafihabaaDoorRows
import Derived.Lib.LaidCase
import Derived.Lib.LaidU8
import Derived.LaidMore
namespace Go.Proofs.YtpbipanafihabaaDoor
open Go.RowKit Go.Shelf Go.Lib

structure UpT (w : World) : Prop where
  cas : CaseVar 2 caseA w
  tab : Lib.Utf8Tabs 4 5 w
theorem caseX : CaseExtra Tryd.prog lays158_ren := by constructor <;> kernel_rfl
theorem u8X : U8Extra Tryd.prog lays158_ren := by constructor <;> kernel_rfl
theorem casePin : Go.Pinned.caseRanges = caseData := by kernel_rfl
theorem firstPin : Go.Pinned.utf8First = firstData := by kernel_rfl
theorem upT_laid {w : World} (h1 : VarReads Tryd.prog w "unicode.CaseRanges" Rows.laid_unicode_CaseRanges) (h2 : VarReads Tryd.prog w "unicode/utf8.first" Rows.laid_unicode_utf8_first) (h3 : VarReads Tryd.prog w "unicode/utf8.acceptRanges" Rows.laid_unicode_utf8_acceptRanges) : UpT w := by
  refine ⟨caseVar_of_reads { lays158 with } (by kernel_rfl) caseX ?_, utf8Tabs_of_reads { lays158 with } u8X ?_ h3⟩
  · rw [← casePin]; exact h1
  · rw [← firstPin]; exact h2
theorem UpT.below {w w' : World} (h : UpT w) (hb : Below w.heap.size w w') : UpT w' := ⟨CaseVar_below h.cas hb, Utf8Tabs_below h.tab hb⟩
theorem upper_any (s : ByteArray) (hs : s.size ≤ 5000) (w : World) (h : UpT w) :
    Calls Tryd.prog 14 #[.string s] w fun e w' => (∃ x : ByteArray, e = .returned (.string x) ∧ Hid ((∀ c ∈ s.data.toList, c.toNat < 128) → x.data.toList = s.data.toList.map Lib.upperB)) ∧ Below w.heap.size w w' :=
  (Any.strings_ToUpper_any lays158 Builder_Extra_158 s w (by omega) h.cas h.tab).mono fun _ _ ⟨h1, h2⟩ => ⟨⟨_, h1, fun ha => by show Lib.toUpperD s.data.toList = _; rw [Lib.toUpperD_ascii _ ha]; rfl⟩, h2⟩
theorem upper_ascii (s x : ByteArray) (hs : s.size ≤ 5000) (ha : ∀ c ∈ s.data.toList, c.toNat < 128) (hx : s.data.toList.map Lib.upperB = x.data.toList) (w : World) :
    Calls Tryd.prog 14 #[.string s] w fun e w' => e = .returned (.string x) ∧ Below w.heap.size w w' := by
  refine (Any.strings_ToUpper_ascii lays158 Builder_Extra_158 s w (by omega) (fun j b hb => ha b (List.mem_of_getElem? hb))).mono ?_
  rintro e w' ⟨rfl, hb⟩
  refine ⟨?_, hb⟩
  congr 2
  apply ByteArray.ext
  apply Array.ext'
  rw [← hx]
  rfl
end Go.Proofs.YtpbipanafihabaaDoor
