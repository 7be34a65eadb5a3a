/- Rows of grants that lie somewhere; what held says of them. -/
import Derived.Test.YtdnnlfklanaliabHld8
import Derived.Test.YtdnnlfklanaliabGrD
import Derived.Deep.LoopGhost
namespace Go.Proofs.Ytdnnlfklanaliab
open Go.RowKit
set_option linter.unusedVariables false

/-- A grant that came in, and where its lists lie. -/
structure GrA where
  g : GrP
  da : Option Addr
  dc : Nat
  db : Nat
  doff : Nat
  pa : Option Addr
  pc : Nat
  pb : Nat
  poff : Nat
def GrA.val (v : GrA) : GrV := ⟨v.g, .slice v.da v.g.ask.dom.length v.dc, .slice v.pa v.g.paths.length v.pc⟩
/-- A row of grants that lies somewhere. -/
structure Grs (w : World) (a0 : Option Addr) (len b off : Nat) (gs : List GrA) : Prop where
  len_eq : gs.length = len
  lies : 0 < len → a0 = some ⟨b, off, none⟩ ∧ b < w.heap.size
  cells : ∀ (j : Nat) (v : GrA), gs[j]? = some v → ∀ (i : Nat) (u : Value), (grCells v.val)[i]? = some u → w.cell? ⟨b, off + j * 16 + i, none⟩ = some u
  dom : ∀ v ∈ gs, Strs w v.da v.g.ask.dom.length v.db v.doff v.g.ask.dom
  paths : ∀ v ∈ gs, Strs w v.pa v.g.paths.length v.pb v.poff v.g.paths
theorem Grs.below {w w' : World} {a0 : Option Addr} {len b off : Nat} {gs : List GrA} (h : Grs w a0 len b off gs) (hb : Below w.heap.size w w') : Grs w' a0 len b off gs := by
  refine ⟨h.len_eq, fun h0 => ⟨(h.lies h0).1, Nat.lt_of_lt_of_le (h.lies h0).2 hb.size⟩, fun j v hj i u hi => ?_, fun v hv => (h.dom v hv).below hb, fun v hv => (h.paths v hv).below hb⟩
  have := (List.getElem?_eq_some_iff.1 hj).1
  have hl := h.len_eq
  rw [hb.cell (p := ⟨b, off + j * 16 + i, none⟩) (h.lies (by omega)).2]
  exact h.cells j v hj i u hi
/-- The sixteen cells of a grant of it. -/
theorem Grs.all {w : World} {a0 : Option Addr} {len b off : Nat} {gs : List GrA} (h : Grs w a0 len b off gs) {j : Nat} {v : GrA} (hj : gs[j]? = some v) :
    w.cell? ⟨b, off + j * 16, none⟩ = some (.bool v.g.org.sec) ∧ w.cell? ⟨b, off + j * 16 + 1, none⟩ = some (.string v.g.org.host) ∧ w.cell? ⟨b, off + j * 16 + 2, none⟩ = some (.int .i64 v.g.org.port) ∧ w.cell? ⟨b, off + j * 16 + 3, none⟩ = some (.bool v.g.proxy) ∧
    w.cell? ⟨b, off + j * 16 + 4, none⟩ = some (.string v.g.user) ∧ w.cell? ⟨b, off + j * 16 + 5, none⟩ = some (.string v.g.pass) ∧ w.cell? ⟨b, off + j * 16 + 6, none⟩ = some (.int .i64 v.g.ask.sch) ∧ w.cell? ⟨b, off + j * 16 + 7, none⟩ = some (.string v.g.ask.realm) ∧
    w.cell? ⟨b, off + j * 16 + 8, none⟩ = some (.string v.g.ask.nonce) ∧ w.cell? ⟨b, off + j * 16 + 9, none⟩ = some (.string v.g.ask.opq) ∧ w.cell? ⟨b, off + j * 16 + 10, none⟩ = some (.bool v.g.ask.sess) ∧ w.cell? ⟨b, off + j * 16 + 11, none⟩ = some (.string v.g.ask.qop) ∧
    w.cell? ⟨b, off + j * 16 + 12, none⟩ = some (.bool v.g.ask.stale) ∧ w.cell? ⟨b, off + j * 16 + 13, none⟩ = some (.slice v.da v.g.ask.dom.length v.dc) ∧ w.cell? ⟨b, off + j * 16 + 14, none⟩ = some (.int .i64 v.g.count) ∧ w.cell? ⟨b, off + j * 16 + 15, none⟩ = some (.slice v.pa v.g.paths.length v.pc) :=
  ⟨h.cells j v hj 0 _ rfl, h.cells j v hj 1 _ rfl, h.cells j v hj 2 _ rfl, h.cells j v hj 3 _ rfl, h.cells j v hj 4 _ rfl, h.cells j v hj 5 _ rfl, h.cells j v hj 6 _ rfl, h.cells j v hj 7 _ rfl, h.cells j v hj 8 _ rfl, h.cells j v hj 9 _ rfl, h.cells j v hj 10 _ rfl, h.cells j v hj 11 _ rfl, h.cells j v hj 12 _ rfl, h.cells j v hj 13 _ rfl, h.cells j v hj 14 _ rfl, h.cells j v hj 15 _ rfl⟩
/-- Its texts are no longer than a machine can hold; its count is one. -/
def GrZ (g : GrP) : Prop := g.org.host.size ≤ 140737488355328 ∧ g.user.size ≤ 140737488355328 ∧ g.pass.size ≤ 140737488355328 ∧ g.ask.realm.size ≤ 140737488355328 ∧ g.ask.nonce.size ≤ 140737488355328 ∧ g.ask.opq.size ≤ 140737488355328 ∧ g.ask.qop.size ≤ 140737488355328 ∧ (∀ x ∈ g.ask.dom, x.size ≤ 140737488355328) ∧ (∀ x ∈ g.paths, x.size ≤ 140737488355328) ∧ -9223372036854775808 ≤ g.count
def shortB (v : GrA) : Prop := v.g.ask.dom.length ≤ 6 ∧ v.g.paths.length ≤ 6
set_option maxRecDepth 100000 in
set_option maxHeartbeats 4000000 in
theorem heldIdxG (a0 : Option Addr) (len cap b off : Nat) (gs : List GrA) (hz : ∀ v ∈ gs, GrZ v.g) (hn : len ≤ 1000) (w : World) (h : Grs w a0 len b off gs) :
    Calls Try.prog 44 #[.slice a0 len cap, .func (.func 26) #[] #[]] w fun e w' => (∃ i : Int, e = .returned (.int .i64 i) ∧ -1 ≤ i ∧ Hid (i < 0 → ∀ v ∈ gs, shortB v)) ∧ Below w.heap.size w w' := by
  have HS : Hid (Grs w a0 len b off gs) := h
  have HZ : Hid (∀ v ∈ gs, GrZ v.g) := hz
  have HL : Hid (gs.length = len) := h.len_eq
  clear h hz
  go_enter Try.func44, Try.ntmps44
  go_wp2
  go_loopw [8] (fun i wr => ∃ k : Nat, k ≤ len ∧ i = .int .i64 k ∧ Hid (Below w.heap.size w wr ∧ ∀ v ∈ gs.take k, shortB v)) (fun i _ => len - (intOf i).toNat)
  case atStart => exact ⟨0, Nat.zero_le _, rfl, Below.refl _ _, by simp⟩
  case round =>
    obtain ⟨k, hk, rfl, HI⟩ := hrel
    by_cases hlt : k < len
    · have hkL : (k : Int) < (len : Int) := by omega
      obtain ⟨v, hv⟩ : ∃ v, gs[k]? = some v := ⟨gs[k]'(by have := HL.out; omega), List.getElem?_eq_getElem _⟩
      have HV : Hid (gs[k]? = some v) := hv
      have hvm : v ∈ gs := List.mem_of_getElem? hv
      obtain ⟨ha0, _⟩ := HS.out.lies (by omega)
      subst ha0
      have hW := HS.out.below HI.out.1
      obtain ⟨c0, c1, c2, c3, c4, c5, c6, c7, c8, c9, c10, c11, c12, c13, c14, c15⟩ := hW.all hv
      have hz := HZ.out v hvm
      have hcall := heldOne v.g v.da v.pa v.g.ask.dom.length v.dc v.g.paths.length v.pc v.pb v.poff wr (hW.paths v hvm) hz.1 hz.2.2.2.1 hz.2.2.2.2.1 hz.2.1
      obtain ⟨⟨⟨os, oh, op⟩, px, us, pw, ⟨sc, re, no, oq, se, qo, st, dm⟩, ct, pt⟩, da, dc, db, doff, pa, pc, pb, poff⟩ := v
      simp only at hcall c0 c1 c2 c3 c4 c5 c6 c7 c8 c9 c10 c11 c12 c13 c14 c15
      clear hv hvm hW hz
      go_wp2_with fail
      refine hcall.mono ?_
      rintro e w1 ⟨⟨t, rfl, ht⟩, hb1⟩
      have HB1 : Hid (Below w.heap.size w w1) := HI.out.1.trans (hb1.mono HI.out.1.size)
      clear hb1 hcall c0 c1 c2 c3 c4 c5 c6 c7 c8 c9 c10 c11 c12 c13 c14 c15
      cases t
      · have HSH : Hid (∀ v ∈ gs.take (k + 1), shortB v) := by
          obtain ⟨hk1, e1⟩ := List.getElem?_eq_some_iff.1 HV.out
          intro v hv
          rw [List.take_succ_eq_append_getElem hk1, List.mem_append, e1] at hv
          rcases hv with h | h
          · exact HI.out.2 v h
          · rw [List.mem_singleton.1 h]
            exact ht rfl
        clear ht
        go_wp2
        go_roundw
        case rel => exact ⟨k + 1, by omega, by go_num, HB1.out, HSH.out⟩
        case measure => simp [intOf]; omega
      · clear ht
        go_wp2
        go_ret
        exact ⟨⟨_, rfl, by omega, fun h => by omega⟩, HB1.out⟩
    · have hkL : ¬ (k : Int) < (len : Int) := by omega
      have HE : Hid (∀ v ∈ gs, shortB v) := by
        have := HI.out.2
        rw [List.take_of_length_le (by have := HL.out; omega)] at this
        exact this
      go_wp2
      go_ret
      exact ⟨⟨_, rfl, by omega, fun _ => HE.out⟩, HI.out.1⟩
/-- Whatever held says: where it says yes, the grants are few, and their rows are short. -/
def HeldG (gs : List GrA) (len : Nat) (e : Ending) : Prop := ∃ t : Bool, e = .returned (.bool t) ∧ (t = true → len ≤ 30 ∧ ∀ v ∈ gs, shortB v)
set_option maxHeartbeats 2000000 in
theorem held_any (a0 : Option Addr) (len cap b off : Nat) (gs : List GrA) (hz : ∀ v ∈ gs, GrZ v.g) (hl : len ≤ 9223372036854775807) (w : World) (h : Grs w a0 len b off gs) :
    Calls Try.prog 8 #[.slice a0 len cap] w fun e w' => HeldG gs len e ∧ Below w.heap.size w w' := by
  by_cases h30 : len ≤ 30
  · have h30' : (len : Int) ≤ 30 := by omega
    have hcon : ∀ w', Grs w' a0 len b off gs → Calls Try.prog 25 #[.slice a0 len cap, .func (.func 26) #[] #[]] w' fun e w'' => (∃ t : Bool, e = .returned (.bool t) ∧ Hid (t = false → ∀ v ∈ gs, shortB v)) ∧ Below w'.heap.size w' w'' := fun w' hw' => by
      have hi := heldIdxG a0 len cap b off gs hz (by omega) w' hw'
      clear hw'
      go_enter Try.func25, Try.ntmps25
      go_wp2_with fail
      refine hi.mono ?_
      rintro e w1 ⟨⟨i, rfl, hi0, HI⟩, hb⟩
      by_cases h0 : 0 ≤ i
      · go_wp2
        go_ret
        exact ⟨⟨true, by first | rfl | simp [h0], fun h => by cases h⟩, hb⟩
      · go_wp2
        go_ret
        exact ⟨⟨false, by first | rfl | simp [h0], fun _ => HI.out (by omega)⟩, hb⟩
    have hc := hcon w h
    clear hcon h hz
    go_enter Try.func8, Try.ntmps8
    go_wp2_with fail
    refine hc.mono ?_
    rintro e w1 ⟨⟨t, rfl, HT⟩, hb⟩
    cases t
    · go_wp2
      go_ret
      exact ⟨⟨true, rfl, fun _ => ⟨h30, HT.out (by trivial)⟩⟩, hb⟩
    · go_wp2
      go_ret
      exact ⟨⟨false, rfl, fun h => by cases h⟩, hb⟩
  · have h30' : ¬ (len : Int) ≤ 30 := by omega
    go_enter Try.func8, Try.ntmps8
    go_wp2
    go_ret
    exact ⟨⟨false, rfl, fun h => by cases h⟩, Below.refl _ _⟩
end Go.Proofs.Ytdnnlfklanaliab
