/- The paths that a challenge tells, by the program. -/
import Derived.Test.YtooaiamfbmjmnaaGreatDoorKalg
import Derived.Test.YtooaiamfbmjmnaaGreatDoorSplO
import Derived.Test.YtooaiamfbmjmnaaGreatDoorCle
import Derived.Test.YtooaiamfbmjmnaaGreatDoorSrs
import Derived.Test.YtooaiamfbmjmnaaGreatDoorShPre
import Derived.Test.YtooaiamfbmjmnaaGreatDoorTkR
import Derived.Deep.Onto
namespace Go.Proofs.YtooaiamfbmjmnaaGreatDoor
open Go.RowKit Go.Shelf

theorem slash_pre (l : List UInt8) : Lib.hasPrefix l [47] = slashB l := by
  unfold Lib.hasPrefix
  cases l with
  | nil => rfl
  | cons c t =>
    unfold slashB
    simp [List.isPrefixOf]
    rw [Bool.eq_iff_iff, beq_iff_eq, beq_iff_eq]
    exact eq_comm
theorem slashP_any (p : ByteArray) (w : World) : Calls Tryz.prog 109 #[.string p, .string ⟨#[47]⟩] w fun e w' => e = .returned (.bool (slashB p.data.toList)) ∧ w' = w := by
  rw [← slash_pre]
  exact Any.strings_HasPrefix lays99 p ⟨#[47]⟩ w
def domOf (ps : List ByteArray) : List ByteArray := (ps.filter fun p => slashB p.data.toList).map fun p => bs (cleanL p.data.toList)
theorem domOf_all {ps : List ByteArray} {t : List UInt8} (h : ps.map (·.data.toList) = splitL 32 t) : domOf ps = domL t := by
  unfold domOf domL
  rw [← h, List.filter_map, List.map_map]
  rfl
theorem domOf_yes {ps : List ByteArray} {k : Nat} {p : ByteArray} (h : ps[k]? = some p) (hs : slashB p.data.toList = true) : domOf (ps.take (k + 1)) = domOf (ps.take k) ++ [bs (cleanL p.data.toList)] := by
  obtain ⟨hk, e⟩ := List.getElem?_eq_some_iff.1 h
  unfold domOf
  rw [List.take_succ_eq_append_getElem hk, List.filter_append, List.map_append, e]
  simp [hs]
theorem domOf_no {ps : List ByteArray} {k : Nat} {p : ByteArray} (h : ps[k]? = some p) (hs : slashB p.data.toList = false) : domOf (ps.take (k + 1)) = domOf (ps.take k) := by
  obtain ⟨hk, e⟩ := List.getElem?_eq_some_iff.1 h
  unfold domOf
  rw [List.take_succ_eq_append_getElem hk, List.filter_append, List.map_append, e]
  simp [hs]
theorem domOf_len (ps : List ByteArray) : (domOf ps).length ≤ ps.length := by unfold domOf; rw [List.length_map]; exact List.length_filter_le _ _
set_option maxRecDepth 100000 in
set_option maxHeartbeats 2000000 in
theorem domain_any (c : ChV) (hf : Few c.x.params) (w : World) (hx : ChOk w c) :
    Calls Tryz.prog 72 #[.agg #[.string c.x.scheme, .string c.x.token, .slice c.a c.len c.cap]] w fun e w' => (∃ v, e = .returned v ∧ OwnS w' w.heap.size v (domL ((getL c.x.params kDomain).getD ⟨#[]⟩).data.toList)) ∧ Below w.heap.size w w' := by
  have hb1 : Below w.heap.size w (w.alloc (.cells #[.string c.x.scheme, .string c.x.token, .slice c.a c.len c.cap] 24)) := (Below.refl _ _).alloc (Nat.le_refl _) _
  have hget := get_any c ⟨#[100, 111, 109, 97, 105, 110]⟩ hf (by decide) _ (hx.below hb1)
  have htz : ((getL c.x.params kDomain).getD ⟨#[]⟩).size ≤ 3000 := by
    rcases hg : getL c.x.params kDomain with _ | v
    · decide
    · exact few_get hf hg
  obtain ⟨t, HT⟩ : ∃ t, Hid ((getL c.x.params kDomain).getD ⟨#[]⟩ = t) := ⟨_, rfl⟩
  obtain ⟨is, HI⟩ : ∃ is, Hid ((getL c.x.params kDomain).isSome = is) := ⟨_, rfl⟩
  have hget' : Calls Tryz.prog 32 #[.agg #[.string c.x.scheme, .string c.x.token, .slice c.a c.len c.cap], .string ⟨#[100, 111, 109, 97, 105, 110]⟩] (w.alloc (.cells #[.string c.x.scheme, .string c.x.token, .slice c.a c.len c.cap] 24)) fun e w' => e = .returned (.tuple #[.string t, .bool is]) ∧ Below (w.alloc (.cells #[.string c.x.scheme, .string c.x.token, .slice c.a c.len c.cap] 24)).heap.size (w.alloc (.cells #[.string c.x.scheme, .string c.x.token, .slice c.a c.len c.cap] 24)) w' := by
    rw [← HT.out, ← HI.out]
    exact hget
  rw [HT.out] at htz ⊢
  clear hget hx
  go_enter Tryz.func72, Tryz.ntmps72
  go_wp2_with (go_at_call 32; refine hget'.mono ?_; rintro e w2 ⟨rfl, hb2⟩)
  have HB2 : Hid (Below w.heap.size w w2) := hb1.trans (hb2.mono (by simp))
  clear hget' hb1 hb2
  refine (split_one t 32 (by omega) _).mono ?_
  rintro e w3 ⟨ps, rfl, hpl, hw3, HP⟩
  have hb3 : Below w2.heap.size w2 w3 := by rw [hw3]; exact (Below.refl _ _).alloc (Nat.le_refl _) _
  have HB3 : Hid (Below w.heap.size w w3) := HB2.out.trans (hb3.mono HB2.out.size)
  have hl3 : w2.heap.size < w3.heap.size := by rw [hw3]; simp
  have HC3 : Hid (∀ (j : Nat) (p : ByteArray), ps[j]? = some p → w3.cell? ⟨w2.heap.size, j, none⟩ = some (.string p)) := fun j p hp => by
    rw [hw3]
    refine (World.cell?_alloc_mark _ _ _ _ _).trans ?_
    simp [hp]
  have HPZ : Hid (∀ p ∈ ps, p.size ≤ 3000) := fun p hp => by
    have := part_size 32 t.data.toList p.data.toList (by rw [← HP.out]; exact List.mem_map.2 ⟨p, hp, rfl⟩)
    have e1 : p.data.toList.length = p.size := Array.length_toList
    have e2 : t.data.toList.length = t.size := Array.length_toList
    omega
  clear hb3 hw3
  go_wp2
  go_loopw [5, 16] (fun v i wr => ∃ (k n cap : Nat) (a : Option Addr), k ≤ ps.length ∧ i = .int .i64 k ∧ v = .slice a n cap ∧ n ≤ k ∧ Hid (n = (domOf (ps.take k)).length ∧ OwnS wr w3.heap.size (.slice a n cap) (domOf (ps.take k)) ∧ Below w3.heap.size w3 wr)) (fun _ i _ => ps.length - (intOf i).toNat)
  case atStart => exact ⟨0, 0, 0, none, Nat.zero_le _, rfl, rfl, Nat.le_refl _, ⟨rfl, ownS_nil _ _, Below.refl _ _⟩⟩
  case round =>
    obtain ⟨k, n, cap, a, hk, rfl, rfl, hnk, HR⟩ := hrel
    have hwz : w3.heap.size ≤ wr.heap.size := HR.out.2.2.size
    by_cases hlt : k < ps.length
    · obtain ⟨p, hpk⟩ : ∃ p, ps[k]? = some p := ⟨ps[k], List.getElem?_eq_getElem hlt⟩
      have hcell : wr.cell? ⟨w2.heap.size, k, none⟩ = some (.string p) := (HR.out.2.2.cell (p := ⟨w2.heap.size, k, none⟩) hl3).trans (HC3.out k p hpk)
      have hpz := HPZ.out p (List.mem_of_getElem? hpk)
      cases hsl : slashB p.data.toList
      · have HN : Hid (domOf (ps.take (k + 1)) = domOf (ps.take k)) := domOf_no hpk hsl
        go_wp2_with (go_at_call 109; refine (slashP_any p _).mono ?_; rintro e w4 ⟨rfl, hw4⟩; obtain rfl := hw4.symm; clear hw4; rw [hsl])
        go_roundw
        case rel => exact ⟨k + 1, n, cap, a, by omega, by go_num, rfl, by omega, ⟨by rw [HN.out]; exact HR.out.1, by rw [HN.out]; exact HR.out.2.1, HR.out.2.2⟩⟩
        case measure => simp [intOf]; omega
      · have HN : Hid (domOf (ps.take (k + 1)) = domOf (ps.take k) ++ [bs (cleanL p.data.toList)]) := domOf_yes hpk hsl
        obtain ⟨q, HQ⟩ : ∃ q, Hid (bs (cleanL p.data.toList) = q) := ⟨_, rfl⟩
        rw [HQ.out] at HN
        have hcl : ∀ w, Calls Tryz.prog 110 #[.string p] w fun e w' => e = .returned (.string q) ∧ Below w.heap.size w w' := fun w => by rw [← HQ.out]; exact clean_any p (by omega) w
        go_wp2_with (go_at_call 109; refine (slashP_any p _).mono ?_; rintro e w4 ⟨rfl, hw4⟩; obtain rfl := hw4.symm; clear hw4; rw [hsl])
        refine (hcl _).mono ?_
        rintro e w5 ⟨rfl, hb5⟩
        have HR5 : Hid (OwnS w5 w3.heap.size (.slice a n cap) (domOf (ps.take k)) ∧ Below w3.heap.size w3 w5) := ⟨HR.out.2.1.below hb5, HR.out.2.2.trans (hb5.mono hwz)⟩
        have hz5 : w3.heap.size ≤ w5.heap.size := HR5.out.2.size
        clear hb5
        go_wp2_with (at_builtin; refine wp_apps rfl _ _ rfl w3.heap.size w5 (.slice a n cap) (domOf (ps.take k)) n rfl HR5.out.1 HR.out.1.symm (by omega) hz5 q rfl ?_; intro g6 cap6 w6 hown6 hg6 hlt6; have HR6 : Hid (OwnS w6 w3.heap.size (.slice (some ⟨g6, 0, none⟩) (n + 1) cap6) (domOf (ps.take k) ++ [q]) ∧ Below w3.heap.size w3 w6) := ⟨hown6, (HR5.out.2.alloc hz5 _).grown hg6 (by simp; omega) (fun i hi => (HR5.out.1.lt _ hi).1)⟩; clear hown6 hg6 hlt6)
        go_roundw
        case rel => exact ⟨k + 1, n + 1, cap6, some ⟨g6, 0, none⟩, by omega, by go_num, rfl, by omega, ⟨by rw [HN.out, List.length_append, ← HR.out.1]; rfl, by rw [HN.out]; exact HR6.out.1, HR6.out.2⟩⟩
        case measure => simp [intOf]; omega
    · have HE : Hid (domOf (ps.take k) = domL t.data.toList) := by
        show _ = _
        rw [List.take_of_length_le (by omega)]
        exact domOf_all HP.out
      go_wp2
      go_ret
      exact ⟨⟨_, rfl, by rw [← HE.out]; exact World.ownsRow.mono HR.out.2.1 HB3.out.size⟩, HB3.out.trans (HR.out.2.2.mono HB3.out.size)⟩
end Go.Proofs.YtooaiamfbmjmnaaGreatDoor
