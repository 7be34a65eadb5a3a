/- The text ahead of a closing mark, by the program. -/
import Derived.Test.YtbhnaekkjpcafaaDoorCur3
namespace Go.Proofs.YtbhnaekkjpcafaaDoor
open Go.RowKit

theorem drop_at (s : ByteArray) (k : Nat) (h : k < s.size) (c : UInt8) (e : s[k] = c) : s.data.toList.drop k = c :: s.data.toList.drop (k + 1) := by
  rw [List.drop_eq_getElem_cons (by rw [len_data]; exact h), ← e]
  rfl
/-- What is known of the whole behind k bytes: out stands there, escaped or not. -/
def UnqAt (l : List UInt8) (esc : Bool) (o : List UInt8) (k : Nat) : Prop := unqL false l = (unqL esc (l.drop k)).map fun x => (o ++ x.1, k + x.2)
theorem unq_bad {s : ByteArray} {esc : Bool} {o : List UInt8} {k : Nat} (h : UnqAt s.data.toList esc o k) (hk : k < s.size) (c : UInt8) (e : s[k] = c) (hc : textB c = false) : unqL false s.data.toList = none := by
  unfold UnqAt at h
  rw [h, drop_at s k hk c e, unqL, if_pos hc]
  rfl
theorem unq_esc1 {s : ByteArray} {o : List UInt8} {k : Nat} (h : UnqAt s.data.toList true o k) (hk : k < s.size) (c : UInt8) (e : s[k] = c) (hc : textB c = true) : UnqAt s.data.toList false (o ++ [c]) (k + 1) := by
  unfold UnqAt at *
  rw [h, drop_at s k hk c e, unqL, if_neg (by rw [hc]; simp), if_pos rfl, Option.map_map]
  congr 1
  funext x
  simp
  omega
theorem unq_mark {s : ByteArray} {o : List UInt8} {k : Nat} (h : UnqAt s.data.toList false o k) (hk : k < s.size) (e : s[k] = 34) : unqL false s.data.toList = some (o, k + 1) := by
  unfold UnqAt at h
  rw [h, drop_at s k hk 34 e, unqL]
  simp [show textB 34 = true by decide]
theorem unq_stroke {s : ByteArray} {o : List UInt8} {k : Nat} (h : UnqAt s.data.toList false o k) (hk : k < s.size) (e : s[k] = 92) : UnqAt s.data.toList true o (k + 1) := by
  unfold UnqAt at *
  rw [h, drop_at s k hk 92 e, unqL, if_neg (by decide), if_neg (by simp), if_neg (by decide), if_pos rfl, Option.map_map]
  congr 1
  funext x
  simp
  omega
theorem unq_byte {s : ByteArray} {o : List UInt8} {k : Nat} (h : UnqAt s.data.toList false o k) (hk : k < s.size) (c : UInt8) (e : s[k] = c) (hc : textB c = true) (h1 : c ≠ 34) (h2 : c ≠ 92) : UnqAt s.data.toList false (o ++ [c]) (k + 1) := by
  unfold UnqAt at *
  rw [h, drop_at s k hk c e, unqL, if_neg (by rw [hc]; simp), if_neg (by simp), if_neg h1, if_neg h2, Option.map_map]
  congr 1
  funext x
  simp
  omega
theorem unq_over {s : ByteArray} {esc : Bool} {o : List UInt8} {k : Nat} (h : UnqAt s.data.toList esc o k) (hk : s.size ≤ k) : unqL false s.data.toList = none := by
  unfold UnqAt at h
  rw [h, List.drop_of_length_le (by rw [len_data]; exact hk), unqL]
  rfl
theorem back_any {w : World} {B : Nat} {v : Value} {l : List UInt8} (h : Own w B v l) : (convert 64 9 v).run Tryd.prog w = .ok (.string (bs l)) w := by
  rcases h.2 with ⟨rfl, hl⟩ | ⟨g, cap, cur, rfl, _⟩
  · have e : l = [] := List.eq_nil_of_length_eq_zero hl
    subst e
    simp [convert, underlying, Tryd.underlying64, Tryd.underlying9, Tryd.underlying5, bs]
    rfl
  · exact h.back rfl
theorem own_nil (w : World) (B : Nat) : Own w B (.slice none 0 0) [] := ⟨rfl, .inl ⟨rfl, rfl⟩⟩
def UnqAns (s : ByteArray) (e : Ending) : Prop :=
  (∃ (t : List UInt8) (n : Nat), unqL false s.data.toList = some (t, n) ∧ e = .returned (.tuple #[.string (bs t), .int .i64 (n : Int), .bool true])) ∨ (unqL false s.data.toList = none ∧ e = .returned (.tuple #[.string ⟨#[]⟩, .int .i64 0, .bool false]))
set_option maxRecDepth 100000 in
set_option maxHeartbeats 2000000 in
theorem unquote_any (s : ByteArray) (hs : s.size ≤ 5000) (w : World) :
    Calls Tryd.prog 81 #[.string s] w fun e w' => UnqAns s e ∧ Below w.heap.size w w' := by
  go_enter Tryd.func81, Tryd.ntmps81
  go_wp2
  go_loopw [5, 6, 11] (fun v q i wr => ∃ (k n : Nat) (esc : Bool) (o : List UInt8), k ≤ s.size ∧ n ≤ k ∧ i = .int .i64 k ∧ q = .bool esc ∧ Hid (Own wr w.heap.size v o ∧ o.length = n ∧ UnqAt s.data.toList esc o k) ∧ Below w.heap.size w wr) (fun _ _ i _ => s.size - (intOf i).toNat)
  case atStart => exact ⟨0, 0, false, [], Nat.zero_le _, Nat.le_refl _, rfl, rfl, ⟨own_nil _ _, rfl, by unfold UnqAt; simp⟩, Below.refl _ _⟩
  case round =>
    obtain ⟨k, n, esc, o, hk, hn, rfl, rfl, HO, hb⟩ := hrel
    have hwz : w.heap.size ≤ wr.heap.size := hb.size
    by_cases hlt : k < s.size
    · obtain ⟨c, hcd⟩ : ∃ c : UInt8, s[k] = c := ⟨_, rfl⟩
      have hcl : (c.toNat : Int) < 256 := by have := c.toNat_lt; omega
      cases hf : textB c
      · have HA : Hid (unqL false s.data.toList = none) := unq_bad HO.out.2.2 hlt c hcd hf
        clear HO
        go_wp2_with (go_at_call 80; refine (text_any c _).mono ?_; rintro e w' ⟨rfl, hw⟩; obtain rfl := hw.symm; rw [hf])
        go_ret3
        exact ⟨.inr ⟨HA, rfl⟩, hb⟩
      · cases esc
        · by_cases h34 : c = 34
          · subst h34
            have HA : Hid (unqL false s.data.toList = some (o, k + 1)) := unq_mark HO.out.2.2 hlt hcd
            have hback := back_any HO.out.1
            have hf' := text_any 34
            go_wp2_with (go_at_call 80; refine (hf' _).mono ?_; rintro e w' ⟨rfl, hw⟩; obtain rfl := hw.symm; rw [hf])
            go_ret3
            exact ⟨.inl ⟨_, _, HA, by push_cast; rfl⟩, hb⟩
          · by_cases h92 : c = 92
            · subst h92
              have HA : Hid (UnqAt s.data.toList true o (k + 1)) := unq_stroke HO.out.2.2 hlt hcd
              have hf' := text_any 92
              go_wp2_with (go_at_call 80; refine (hf' _).mono ?_; rintro e w' ⟨rfl, hw⟩; obtain rfl := hw.symm; rw [hf])
              go_roundw
              case rel => exact ⟨k + 1, n, true, o, by omega, by omega, by go_num, rfl, ⟨HO.out.1, HO.out.2.1, HA⟩, hb⟩
              case measure => simp [intOf]; omega
            · have HA : Hid (UnqAt s.data.toList false (o ++ [c]) (k + 1)) := unq_byte HO.out.2.2 hlt c hcd hf h34 h92
              have q34 : ((c.toNat : Int) == 34) = false := beq_eq_false_iff_ne.2 fun h => h34 ((u8_is (n := 34) (by omega)).1 h)
              have q92 : ((c.toNat : Int) == 92) = false := beq_eq_false_iff_ne.2 fun h => h92 ((u8_is (n := 92) (by omega)).1 h)
              clear h34 h92
              go_wp2_with (first | (go_at_call 80; refine (text_any c _).mono ?_; rintro e w' ⟨rfl, hw⟩; obtain rfl := hw.symm; rw [hf]) | (at_builtin; refine wp_app1 rfl _ _ rfl w.heap.size w wr u5 o n rfl HO.out.1 HO.out.2.1 (by omega) hb hwz c _ (by rfl) rfl ?_; intro g4 cap4 w4 hown4 hb4 _ _; have HO4 : Hid (Own w4 w.heap.size (.slice (some ⟨g4, 0, none⟩) (n + 1) cap4) (o ++ [c])) := hown4; clear hown4))
              go_roundw
              case rel => exact ⟨k + 1, n + 1, false, o ++ [c], by omega, by omega, by go_num, rfl, ⟨HO4.out, by rw [List.length_append, HO.out.2.1]; rfl, HA⟩, hb4⟩
              case measure => simp [intOf]; omega
        · have HA : Hid (UnqAt s.data.toList false (o ++ [c]) (k + 1)) := unq_esc1 HO.out.2.2 hlt c hcd hf
          go_wp2_with (first | (go_at_call 80; refine (text_any c _).mono ?_; rintro e w' ⟨rfl, hw⟩; obtain rfl := hw.symm; rw [hf]) | (at_builtin; refine wp_app1 rfl _ _ rfl w.heap.size w wr u5 o n rfl HO.out.1 HO.out.2.1 (by omega) hb hwz c _ (by rfl) rfl ?_; intro g4 cap4 w4 hown4 hb4 _ _; have HO4 : Hid (Own w4 w.heap.size (.slice (some ⟨g4, 0, none⟩) (n + 1) cap4) (o ++ [c])) := hown4; clear hown4))
          go_roundw
          case rel => exact ⟨k + 1, n + 1, false, o ++ [c], by omega, by omega, by go_num, rfl, ⟨HO4.out, by rw [List.length_append, HO.out.2.1]; rfl, HA⟩, hb4⟩
          case measure => simp [intOf]; omega
    · have HA : Hid (unqL false s.data.toList = none) := unq_over HO.out.2.2 (by omega)
      clear HO
      go_wp2
      go_ret3
      exact ⟨.inr ⟨HA, rfl⟩, hb⟩
end Go.Proofs.YtbhnaekkjpcafaaDoor
