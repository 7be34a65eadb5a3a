/- May: whether an answer may be seen by a request's origin, by the program. -/
import Derived.Test.YtoblpjknnchlmabGreatDoorRq9
import Derived.Test.YtoblpjknnchlmabGreatDoorMay9D
import Derived.Test.YtoblpjknnchlmabGreatDoorGet9
import Derived.Test.YtoblpjknnchlmabGreatDoorTxt
namespace Go.Proofs.YtoblpjknnchlmabGreatDoor
open Go.RowKit

set_option maxRecDepth 100000 in
set_option maxHeartbeats 4000000 in
theorem may9_any (ps : List Par) (hf : Few9 ps) (a0 : Option Addr) (len cap b off : Nat) (pt fp up : Int) (fs us : Bool) (fh uh pa qu me bo : ByteArray) (ra : Option Addr) (rl rc : Nat) (wi : Bool) (hfh : fh.size ≤ 4000) (h0 : -9223372036854775808 ≤ fp) (h1 : fp ≤ 9223372036854775807) (w : World) (he : Env w) (hx : Pars w a0 len b off ps) :
    Calls Tryz.prog 19 #[.agg #[.int .i64 pt, .bool fs, .string fh, .int .i64 fp, .bool us, .string uh, .int .i64 up, .string pa, .string qu, .string me, .slice ra rl rc, .bool wi, .string bo], .slice a0 len cap] w fun e w' => e = .returned (.bool (mayL wi (textL fs fh.data.toList fp) ps)) ∧ Below w.heap.size w w' := by
  obtain ⟨x, HXE⟩ : ∃ x, Hid (bs (fieldT oN ps) = x) := ⟨_, rfl⟩
  obtain ⟨c, HCE⟩ : ∃ c, Hid (bs (fieldT cN ps) = c) := ⟨_, rfl⟩
  obtain ⟨t, HTE⟩ : ∃ t, Hid (bs (textL fs fh.data.toList fp) = t) := ⟨_, rfl⟩
  have HA : Hid (mayL wi (textL fs fh.data.toList fp) ps = mayB wi x t c) := by show _ = _; rw [mayL_is, HXE.out, HCE.out, HTE.out]
  have HQ : Hid (BoxQ 28 w #[.int .i64 pt, .bool fs, .string fh, .int .i64 fp, .bool us, .string uh, .int .i64 up, .string pa, .string qu, .string me, .slice ra rl rc, .bool wi, .string bo] (w.alloc (.cells #[.int .i64 pt, .bool fs, .string fh, .int .i64 fp, .bool us, .string uh, .int .i64 up, .string pa, .string qu, .string me, .slice ra rl rc, .bool wi, .string bo] 28))) := BoxQ.new _ _ _
  have HGO : Hid (∀ W, Below w.heap.size w W → ∃ f : Bool, Calls Tryz.prog 16 #[.slice a0 len cap, .string ⟨#[65, 99, 99, 101, 115, 115, 45, 67, 111, 110, 116, 114, 111, 108, 45, 65, 108, 108, 111, 119, 45, 79, 114, 105, 103, 105, 110]⟩] W fun e w' => e = .returned (.tuple #[.string x, .bool f]) ∧ Below W.heap.size W w') := fun W hW => ⟨_, by
    have := get9_any ps hf ⟨#[65, 99, 99, 101, 115, 115, 45, 67, 111, 110, 116, 114, 111, 108, 45, 65, 108, 108, 111, 119, 45, 79, 114, 105, 103, 105, 110]⟩ (by decide) a0 len cap b off W (hx.below hW)
    rw [← oN_is, HXE.out] at this
    exact this⟩
  have HGC : Hid (∀ W, Below w.heap.size w W → ∃ f : Bool, Calls Tryz.prog 16 #[.slice a0 len cap, .string ⟨#[65, 99, 99, 101, 115, 115, 45, 67, 111, 110, 116, 114, 111, 108, 45, 65, 108, 108, 111, 119, 45, 67, 114, 101, 100, 101, 110, 116, 105, 97, 108, 115]⟩] W fun e w' => e = .returned (.tuple #[.string c, .bool f]) ∧ Below W.heap.size W w') := fun W hW => ⟨_, by
    have := get9_any ps hf ⟨#[65, 99, 99, 101, 115, 115, 45, 67, 111, 110, 116, 114, 111, 108, 45, 65, 108, 108, 111, 119, 45, 67, 114, 101, 100, 101, 110, 116, 105, 97, 108, 115]⟩ (by decide) a0 len cap b off W (hx.below hW)
    rw [← cN_is, HCE.out] at this
    exact this⟩
  have HGT : Hid (∀ W, Below w.heap.size w W → Calls Tryz.prog 39 #[.agg #[.bool fs, .string fh, .int .i64 fp]] W fun e w' => e = .returned (.string t) ∧ Below W.heap.size W w') := fun W hW => by
    have := text_any fs fh fp hfh h0 h1 W (he.below hW (Nat.le_refl _))
    rw [HTE.out] at this
    exact this
  clear hf hx he HXE HCE HTE h0 h1 hfh
  obtain ⟨q, HQ1⟩ : ∃ q, Hid ((x.toList == [42]) = q) := ⟨_, rfl⟩
  obtain ⟨r, HQ2⟩ : ∃ r, Hid ((x.toList == t.toList) = r) := ⟨_, rfl⟩
  have q1 : (x.toList == [42]) = q := HQ1.out
  have q2 : (x.toList == t.toList) = r := HQ2.out
  have HB : Hid (mayB wi x t c = (!wi && q || (r && (!wi || c.toList == [116, 114, 117, 101])))) := by show _ = _; unfold mayB; rw [q1, q2]
  go_enter Tryz.func19, Tryz.ntmps19
  go_wp2_with fail
  obtain ⟨f, hg⟩ := HGO.out _ HQ.out.bel
  refine hg.mono ?_
  rintro e w1 ⟨rfl, hb1⟩
  have HQ1' : Hid (BoxQ 28 w #[.int .i64 pt, .bool fs, .string fh, .int .i64 fp, .bool us, .string uh, .int .i64 up, .string pa, .string qu, .string me, .slice ra rl rc, .bool wi, .string bo] w1) := HQ.out.step hb1
  clear hg hb1 HQ HGO
  have c1 := HQ1'.out.at 1 _ rfl
  have c2 := HQ1'.out.at 2 _ rfl
  have c3 := HQ1'.out.at 3 _ rfl
  have c11 := HQ1'.out.at 11 _ rfl
  cases wi
  · cases q
    · go_wp2_with fail
      obtain ⟨f2, hg⟩ := HGC.out _ HQ1'.out.bel
      refine hg.mono ?_
      rintro e w2 ⟨rfl, hb2⟩
      have HQ2' : Hid (BoxQ 28 w #[.int .i64 pt, .bool fs, .string fh, .int .i64 fp, .bool us, .string uh, .int .i64 up, .string pa, .string qu, .string me, .slice ra rl rc, .bool false, .string bo] w2) := HQ1'.out.step hb2
      clear hg hb2 c1 c2 c3 c11
      have c1 := HQ2'.out.at 1 _ rfl
      have c2 := HQ2'.out.at 2 _ rfl
      have c3 := HQ2'.out.at 3 _ rfl
      have c11 := HQ2'.out.at 11 _ rfl
      go_wp2_with fail
      refine (HGT.out _ HQ2'.out.bel).mono ?_
      rintro e w3 ⟨rfl, hb3⟩
      have HQ3' : Hid (BoxQ 28 w #[.int .i64 pt, .bool fs, .string fh, .int .i64 fp, .bool us, .string uh, .int .i64 up, .string pa, .string qu, .string me, .slice ra rl rc, .bool false, .string bo] w3) := HQ2'.out.step hb3
      clear hb3 c1 c2 c3 c11
      have c11 := HQ3'.out.at 11 _ rfl
      cases r
      · go_wp2
        go_ret
        exact ⟨ret_bool (by rw [HA.out, HB.out]; rfl), HQ3'.out.bel⟩
      · go_wp2
        go_ret
        exact ⟨ret_bool (by rw [HA.out, HB.out]; rfl), HQ3'.out.bel⟩
    · go_wp2
      go_ret
      exact ⟨ret_bool (by rw [HA.out, HB.out]; rfl), HQ1'.out.bel⟩
  · go_wp2_with fail
    obtain ⟨f2, hg⟩ := HGC.out _ HQ1'.out.bel
    refine hg.mono ?_
    rintro e w2 ⟨rfl, hb2⟩
    have HQ2' : Hid (BoxQ 28 w #[.int .i64 pt, .bool fs, .string fh, .int .i64 fp, .bool us, .string uh, .int .i64 up, .string pa, .string qu, .string me, .slice ra rl rc, .bool true, .string bo] w2) := HQ1'.out.step hb2
    clear hg hb2 c1 c2 c3 c11
    have c1 := HQ2'.out.at 1 _ rfl
    have c2 := HQ2'.out.at 2 _ rfl
    have c3 := HQ2'.out.at 3 _ rfl
    have c11 := HQ2'.out.at 11 _ rfl
    go_wp2_with fail
    refine (HGT.out _ HQ2'.out.bel).mono ?_
    rintro e w3 ⟨rfl, hb3⟩
    have HQ3' : Hid (BoxQ 28 w #[.int .i64 pt, .bool fs, .string fh, .int .i64 fp, .bool us, .string uh, .int .i64 up, .string pa, .string qu, .string me, .slice ra rl rc, .bool true, .string bo] w3) := HQ2'.out.step hb3
    clear hb3 c1 c2 c3 c11
    have c11 := HQ3'.out.at 11 _ rfl
    cases r
    · go_wp2
      go_ret
      exact ⟨ret_bool (by rw [HA.out, HB.out]; cases q <;> rfl), HQ3'.out.bel⟩
    · go_wp2
      go_ret
      exact ⟨ret_bool (by rw [HA.out, HB.out]; cases q <;> simp), HQ3'.out.bel⟩
end Go.Proofs.YtoblpjknnchlmabGreatDoor
