/- Texts of one claim, joined: each begins with what it proves. -/
import Derived.Test.YtoblpjknnchlmaaFmtJo2
import Derived.Test.YtoblpjknnchlmaaFmtJo1
import Derived.Deep.QuietTactic
import Derived.BigQuiet
import Derived.Deep.LoopGhost
import Derived.Deep.RegionHeld3
import Derived.Deep.DeepCutAuto
import Derived.RegionTactic
import Derived.ProofKit
import Derived.OpenShut
import Derived.SliceStrings
import Derived.Carry
import Derived.SizedLaws
import Derived.Deep.Slices
import Derived.Deep.SlicePairs
import Derived.Deep.Strs
import Derived.Lib.SmallJoins
import Derived.Lib.LaidTab
/- An origin as text, by the document. -/
namespace Go.Proofs.YtoblpjknnchlmaaFmt
open Go.RowKit
open Go.Extern.Stop Go.Stop Go.Extern
attribute [local go_sem] callSprint fguard op3v op9v

theorem mark_false (h : ByteArray) : (⟨#[104, 116, 116, 112]⟩ : ByteArray) ++ ((⟨#[58, 47, 47]⟩ : ByteArray) ++ h) = markOf false ++ h := by
  rw [← ByteArray.append_assoc]
  rfl
theorem mark_true (h : ByteArray) : (⟨#[104, 116, 116, 112]⟩ : ByteArray) ++ (⟨#[115]⟩ : ByteArray) ++ ((⟨#[58, 47, 47]⟩ : ByteArray) ++ h) = markOf true ++ h := by
  rw [← ByteArray.append_assoc]
  rfl
theorem keepR {w W W' : World} {a : Nat} {x y z : Value} (h : W.cell? ⟨a, 0, none⟩ = some x ∧ W.cell? ⟨a, 1, none⟩ = some y ∧ W.cell? ⟨a, 2, none⟩ = some z ∧ Below w.heap.size w W) (hb : Below W.heap.size W W') :
    W'.cell? ⟨a, 0, none⟩ = some x ∧ W'.cell? ⟨a, 1, none⟩ = some y ∧ W'.cell? ⟨a, 2, none⟩ = some z ∧ Below w.heap.size w W' := by
  obtain ⟨h1, h2, h3, h4⟩ := h
  exact ⟨(hb.cell (p := ⟨a, 0, none⟩) (lt_of_cell h1)).trans h1, (hb.cell (p := ⟨a, 1, none⟩) (lt_of_cell h2)).trans h2, (hb.cell (p := ⟨a, 2, none⟩) (lt_of_cell h3)).trans h3, h4.trans (hb.mono h4.size)⟩

set_option maxRecDepth 100000 in
set_option maxHeartbeats 1000000 in
theorem refText (F : Interp) (sec : Bool) (host : ByteArray) (port : Int) (hs : host.size ≤ 4000) (hw : (Lit.int .i64 port).wf = true) (w : World) (hF : F.told.answers w.tape) :
    Calls Tryf.prog 10 #[.agg #[.bool sec, .string host, .int .i64 port]] w fun e w' => e = .returned (.string (bs (textL sec host.data.toList port))) ∧ Below w.heap.size w w' := by
  have hQ : (w.alloc (.cells #[.bool sec, .string host, .int .i64 port] 23)).drew.cell? ⟨w.heap.size, 0, none⟩ = some (.bool sec) ∧ (w.alloc (.cells #[.bool sec, .string host, .int .i64 port] 23)).drew.cell? ⟨w.heap.size, 1, none⟩ = some (.string host) ∧ (w.alloc (.cells #[.bool sec, .string host, .int .i64 port] 23)).drew.cell? ⟨w.heap.size, 2, none⟩ = some (.int .i64 port) ∧ Below w.heap.size w (w.alloc (.cells #[.bool sec, .string host, .int .i64 port] 23)).drew :=
    ⟨cells_new _ _ _ 0, cells_new _ _ _ 1, cells_new _ _ _ 2, ((Below.refl _ _).alloc (Nat.le_refl _) _).drew⟩
  have HM : Hid (∀ s, bs (textL s host.data.toList port) = markOf s ++ host ++ bs (tailT s port)) := by
    intro s
    unfold textL
    rw [bs_append, bs_append, bs_self, bs_self]
  obtain ⟨pt, HP⟩ : ∃ pt : Int, Hid (portI sec = pt) := ⟨_, rfl⟩
  obtain ⟨ex, hex⟩ : ∃ ex : ByteArray, bs (58 :: Lib.itoa port) = ex := ⟨_, rfl⟩
  have HX : Hid (bs (58 :: Lib.itoa port) = ex) := hex
  have hexz : ex.size ≤ 30 := by
    rw [← hex, bs_size]
    have := FmtText.itoa_length_le hw
    simp
    omega
  have HT : Hid (FmtStop.textOf (F.told "fmt.Sprint" [shape9, FmtStop.pack [58], shape3, Go.Extern.Stop.digits 8 (port % 18446744073709551616).toNat] 0) = ex) := by
    show _ = _
    rw [toldP F port hw, hex]
  clear hex
  by_cases hp : port = pt
  · subst hp
    have hpq : (port == port) = true := by simp
    have hpr : (port != port) = false := by simp
    cases sec
    · have HE : Hid (tailT false port = []) := by show _ = _; unfold tailT; rw [HP.out, if_pos rfl]
      go_enter Tryf.func10, Tryf.ntmps10
      go_wp2_with fail
      go_region_held3 (fun W => W.cell? ⟨w.heap.size, 0, none⟩ = some (.bool false) ∧ W.cell? ⟨w.heap.size, 1, none⟩ = some (.string host) ∧ W.cell? ⟨w.heap.size, 2, none⟩ = some (.int .i64 port) ∧ Below w.heap.size w W) (first | assumption | exact hQ) (
        (go_at_call 17; refine (refPort false _).mono ?_; rintro e w3 ⟨rfl, hb3⟩; rw [HP.out]; have hQ3 := keepR (by assumption) hb3))
      obtain ⟨q0, q1, q2, q3⟩ := hQ3
      go_wp2
      go_ret
      exact ⟨ret_str (by rw [HM.out false, HE.out, ← mark_false]; exact (ByteArray.append_empty (b := _)).symm), q3⟩
    · have HE : Hid (tailT true port = []) := by show _ = _; unfold tailT; rw [HP.out, if_pos rfl]
      go_enter Tryf.func10, Tryf.ntmps10
      go_wp2_with fail
      go_region_held3 (fun W => W.cell? ⟨w.heap.size, 0, none⟩ = some (.bool true) ∧ W.cell? ⟨w.heap.size, 1, none⟩ = some (.string host) ∧ W.cell? ⟨w.heap.size, 2, none⟩ = some (.int .i64 port) ∧ Below w.heap.size w W) (first | assumption | exact hQ) (
        (go_at_call 17; refine (refPort true _).mono ?_; rintro e w3 ⟨rfl, hb3⟩; rw [HP.out]; have hQ3 := keepR (by assumption) hb3))
      obtain ⟨q0, q1, q2, q3⟩ := hQ3
      go_wp2
      go_ret
      exact ⟨ret_str (by rw [HM.out true, HE.out, ← mark_true]; exact (ByteArray.append_empty (b := _)).symm), q3⟩
  · have hpq : (port == pt) = false := beq_eq_false_iff_ne.2 hp
    have hpr : (port != pt) = true := by rw [bne, hpq]; rfl
    cases sec
    · have HE : Hid (tailT false port = 58 :: Lib.itoa port) := by show _ = _; unfold tailT; rw [HP.out, if_neg hp]
      go_enter Tryf.func10, Tryf.ntmps10
      go_wp2_with fail
      go_region_held3 (fun W => W.cell? ⟨w.heap.size, 0, none⟩ = some (.bool false) ∧ W.cell? ⟨w.heap.size, 1, none⟩ = some (.string host) ∧ W.cell? ⟨w.heap.size, 2, none⟩ = some (.int .i64 port) ∧ Below w.heap.size w W) (first | assumption | exact hQ) (
        (go_at_call 17; refine (refPort false _).mono ?_; rintro e w3 ⟨rfl, hb3⟩; rw [HP.out]; have hQ3 := keepR (by assumption) hb3))
      obtain ⟨q0, q1, q2, q3⟩ := hQ3
      have ht := congrArg FmtStop.textOf (answers_open (show F.told.answers w3.tape by rw [q3.tape]; exact hF) w3.drawn "fmt.Sprint" [shape9, FmtStop.pack [58], shape3, Go.Extern.Stop.digits 8 (port % 18446744073709551616).toNat] 0 0)
      rw [HT.out] at ht
      go_wp2
      go_ret
      exact ⟨ret_str (by rw [HM.out false, HE.out, HX.out, ← mark_false]), (q3.alloc q3.size _).drew⟩
    · have HE : Hid (tailT true port = 58 :: Lib.itoa port) := by show _ = _; unfold tailT; rw [HP.out, if_neg hp]
      go_enter Tryf.func10, Tryf.ntmps10
      go_wp2_with fail
      go_region_held3 (fun W => W.cell? ⟨w.heap.size, 0, none⟩ = some (.bool true) ∧ W.cell? ⟨w.heap.size, 1, none⟩ = some (.string host) ∧ W.cell? ⟨w.heap.size, 2, none⟩ = some (.int .i64 port) ∧ Below w.heap.size w W) (first | assumption | exact hQ) (
        (go_at_call 17; refine (refPort true _).mono ?_; rintro e w3 ⟨rfl, hb3⟩; rw [HP.out]; have hQ3 := keepR (by assumption) hb3))
      obtain ⟨q0, q1, q2, q3⟩ := hQ3
      have ht := congrArg FmtStop.textOf (answers_open (show F.told.answers w3.tape by rw [q3.tape]; exact hF) w3.drawn "fmt.Sprint" [shape9, FmtStop.pack [58], shape3, Go.Extern.Stop.digits 8 (port % 18446744073709551616).toNat] 0 0)
      rw [HT.out] at ht
      go_wp2
      go_ret
      exact ⟨ret_str (by rw [HM.out true, HE.out, HX.out, ← mark_true]), (q3.alloc q3.size _).drew⟩
end Go.Proofs.YtoblpjknnchlmaaFmt

/- The document's May. -/
namespace Go.Proofs.YtoblpjknnchlmaaFmt
open Go.RowKit
open Go.Extern.Stop Go.Stop Go.Extern

theorem textL_mark (sec : Bool) (h : List UInt8) (p : Int) : ∃ l, textL sec h p = 104 :: l := by
  unfold textL markOf
  cases sec <;> exact ⟨_, rfl⟩
theorem bs_ne_list {a b : List UInt8} (h : a ≠ b) : ((bs a).toList == (bs b).toList) = false := by
  rw [eq_bs]
  exact beq_eq_false_iff_ne.2 h
set_option maxRecDepth 100000 in
set_option maxHeartbeats 4000000 in
theorem refMay9_any (F : Interp) (ps : List Par) (hf : Few9 ps) (a0 : Option Addr) (len cap b off : Nat) (pt fp up : Int) (fs us : Bool) (fh uh pa qu me bo : ByteArray) (ra : Option Addr) (rl rc : Nat) (wi : Bool) (hfh : fh.size ≤ 4000) (hw : (Lit.int .i64 fp).wf = true) (w : World) (hF : F.told.answers w.tape) (hx : Pars w a0 len b off ps) :
    Calls Tryf.prog 6 #[.agg #[.int .i64 pt, .bool fs, .string fh, .int .i64 fp, .bool us, .string uh, .int .i64 up, .string pa, .string qu, .string me, .slice ra rl rc, .bool wi, .string bo], .slice a0 len cap] w fun e w' => e = .returned (.bool (mayL wi (textL fs fh.data.toList fp) ps)) ∧ Below w.heap.size w w' := by
  obtain ⟨x, HXE⟩ : ∃ x, Hid (bs (fieldT oN ps) = x) := ⟨_, rfl⟩
  obtain ⟨c, HCE⟩ : ∃ c, Hid (bs (fieldT cN ps) = c) := ⟨_, rfl⟩
  obtain ⟨t, HTE⟩ : ∃ t, Hid (bs (textL fs fh.data.toList fp) = t) := ⟨_, rfl⟩
  obtain ⟨f, HFE⟩ : ∃ f, Hid ((fieldL oN ps).isSome = f) := ⟨_, rfl⟩
  have HA : Hid (mayL wi (textL fs fh.data.toList fp) ps = mayB wi x t c) := by show _ = _; rw [mayL_is, HXE.out, HCE.out, HTE.out]
  have HNO : Hid (f = false → mayB wi x t c = false) := fun hno => by
    have h1 : fieldT oN ps = [] := by
      have := HFE.out
      rw [hno] at this
      exact fieldT_none (by simpa using this)
    obtain ⟨l, hl⟩ := textL_mark fs fh.data.toList fp
    have h2 : (x.toList == t.toList) = false := by
      rw [← HXE.out, ← HTE.out, h1, hl]
      exact bs_ne_list (by simp)
    have h3 : (x.toList == [42]) = false := by
      rw [← HXE.out, h1]
      decide +kernel
    unfold mayB
    rw [h2, h3]
    simp
  have HQ : Hid (BoxQ 28 w #[.int .i64 pt, .bool fs, .string fh, .int .i64 fp, .bool us, .string uh, .int .i64 up, .string pa, .string qu, .string me, .slice ra rl rc, .bool wi, .string bo] (w.alloc (.cells #[.int .i64 pt, .bool fs, .string fh, .int .i64 fp, .bool us, .string uh, .int .i64 up, .string pa, .string qu, .string me, .slice ra rl rc, .bool wi, .string bo] 28))) := BoxQ.new _ _ _
  have HGO : Hid (∀ W, Below w.heap.size w W → Calls Tryf.prog 9 #[.slice a0 len cap, .string ⟨#[97, 99, 99, 101, 115, 115, 45, 99, 111, 110, 116, 114, 111, 108, 45, 97, 108, 108, 111, 119, 45, 111, 114, 105, 103, 105, 110]⟩] W fun e w' => e = .returned (.tuple #[.string x, .bool f]) ∧ Below W.heap.size W w') := fun W hW => by
    have := refGet9_any ps hf ⟨#[97, 99, 99, 101, 115, 115, 45, 99, 111, 110, 116, 114, 111, 108, 45, 97, 108, 108, 111, 119, 45, 111, 114, 105, 103, 105, 110]⟩ (by decide) a0 len cap b off W (hx.below hW)
    rw [fieldT_low oN_low, fieldL_low oN_low, HXE.out, HFE.out] at this
    exact this
  have HGC : Hid (∀ W, Below w.heap.size w W → ∃ f : Bool, Calls Tryf.prog 9 #[.slice a0 len cap, .string ⟨#[97, 99, 99, 101, 115, 115, 45, 99, 111, 110, 116, 114, 111, 108, 45, 97, 108, 108, 111, 119, 45, 99, 114, 101, 100, 101, 110, 116, 105, 97, 108, 115]⟩] W fun e w' => e = .returned (.tuple #[.string c, .bool f]) ∧ Below W.heap.size W w') := fun W hW => ⟨_, by
    have := refGet9_any ps hf ⟨#[97, 99, 99, 101, 115, 115, 45, 99, 111, 110, 116, 114, 111, 108, 45, 97, 108, 108, 111, 119, 45, 99, 114, 101, 100, 101, 110, 116, 105, 97, 108, 115]⟩ (by decide) a0 len cap b off W (hx.below hW)
    rw [fieldT_low cN_low, HCE.out] at this
    exact this⟩
  have HGT : Hid (∀ W, Below w.heap.size w W → Calls Tryf.prog 10 #[.agg #[.bool fs, .string fh, .int .i64 fp]] W fun e w' => e = .returned (.string t) ∧ Below W.heap.size W w') := fun W hW => by
    have := refText F fs fh fp hfh hw W (by rw [hW.tape]; exact hF)
    rw [HTE.out] at this
    exact this
  clear hf hx hF HXE HCE HTE hw hfh HFE
  obtain ⟨q, HQ1⟩ : ∃ q, Hid ((x.toList == [42]) = q) := ⟨_, rfl⟩
  obtain ⟨r, HQ2⟩ : ∃ r, Hid ((x.toList == t.toList) = r) := ⟨_, rfl⟩
  have q1 : (x.toList == [42]) = q := HQ1.out
  have q2 : (x.toList == t.toList) = r := HQ2.out
  have HB : Hid (mayB wi x t c = (!wi && q || (r && (!wi || c.toList == [116, 114, 117, 101])))) := by show _ = _; unfold mayB; rw [q1, q2]
  go_enter Tryf.func6, Tryf.ntmps6
  go_wp2_with fail
  refine (HGO.out _ HQ.out.bel).mono ?_
  rintro e w1 ⟨rfl, hb1⟩
  have HQ1' : Hid (BoxQ 28 w #[.int .i64 pt, .bool fs, .string fh, .int .i64 fp, .bool us, .string uh, .int .i64 up, .string pa, .string qu, .string me, .slice ra rl rc, .bool wi, .string bo] w1) := HQ.out.step hb1
  clear hb1 HQ HGO
  go_wp2_with fail
  obtain ⟨f2, hg⟩ := HGC.out _ HQ1'.out.bel
  refine hg.mono ?_
  rintro e w2 ⟨rfl, hb2⟩
  have HQ2' : Hid (BoxQ 28 w #[.int .i64 pt, .bool fs, .string fh, .int .i64 fp, .bool us, .string uh, .int .i64 up, .string pa, .string qu, .string me, .slice ra rl rc, .bool wi, .string bo] w2) := HQ1'.out.step hb2
  clear hg hb2 HQ1'
  have c1 := HQ2'.out.at 1 _ rfl
  have c2 := HQ2'.out.at 2 _ rfl
  have c3 := HQ2'.out.at 3 _ rfl
  have c11 := HQ2'.out.at 11 _ rfl
  cases f
  · go_wp2
    go_ret
    exact ⟨ret_bool (by rw [HA.out, HNO.out trivial]), HQ2'.out.bel⟩
  cases wi
  · cases q
    · go_wp2_with fail
      refine (HGT.out _ HQ2'.out.bel).mono ?_
      rintro e w3 ⟨rfl, hb3⟩
      have HQ3' : Hid (BoxQ 28 w #[.int .i64 pt, .bool fs, .string fh, .int .i64 fp, .bool us, .string uh, .int .i64 up, .string pa, .string qu, .string me, .slice ra rl rc, .bool false, .string bo] w3) := HQ2'.out.step hb3
      clear hb3 c1 c2 c3 c11
      go_wp2
      go_ret
      exact ⟨ret_bool (by rw [HA.out, HB.out, ← q2]; simp), HQ3'.out.bel⟩
    · go_wp2
      go_ret
      exact ⟨ret_bool (by rw [HA.out, HB.out]; rfl), HQ2'.out.bel⟩
  · go_wp2_with fail
    refine (HGT.out _ HQ2'.out.bel).mono ?_
    rintro e w3 ⟨rfl, hb3⟩
    have HQ3' : Hid (BoxQ 28 w #[.int .i64 pt, .bool fs, .string fh, .int .i64 fp, .bool us, .string uh, .int .i64 up, .string pa, .string qu, .string me, .slice ra rl rc, .bool true, .string bo] w3) := HQ2'.out.step hb3
    clear hb3 c1 c2 c3 c11
    cases r
    · go_wp2
      go_ret
      exact ⟨ret_bool (by rw [HA.out, HB.out]; cases q <;> rfl), HQ3'.out.bel⟩
    · go_wp2
      go_ret
      exact ⟨ret_bool (by rw [HA.out, HB.out]; cases q <;> simp), HQ3'.out.bel⟩
end Go.Proofs.YtoblpjknnchlmaaFmt

/- Headers that are too long to be held. -/
namespace Go.Proofs.YtoblpjknnchlmaaFmt
open Go.RowKit

def overP (p : Par) : Bool := decide (300 < p.1.size + p.2.size)
/-- Headers that are too many, or too long; n: the bytes of all else. -/
def largeL (ps : List Par) (n : Nat) : Bool := decide (45 < ps.length) || (decide (900 < n) || ps.any overP)
theorem over_snoc {ps : List Par} {k : Nat} {p : Par} (h : (ps.take k).any overP = false) (hk : ps[k]? = some p) (hp : ¬ 300 < p.1.size + p.2.size) : (ps.take (k + 1)).any overP = false := by
  obtain ⟨hk1, e⟩ := List.getElem?_eq_some_iff.1 hk
  rw [List.take_succ_eq_append_getElem hk1, List.any_append, h, e]
  have : overP p = false := by unfold overP; exact decide_eq_false hp
  simp [this]
theorem large_small {ps : List Par} {n : Nat} (h : largeL ps n = false) : ps.length ≤ 45 ∧ n ≤ 900 ∧ ∀ p ∈ ps, p.1.size + p.2.size ≤ 300 := by
  unfold largeL at h
  simp only [Bool.or_eq_false_iff, decide_eq_false_iff_not] at h
  refine ⟨by omega, by omega, fun p hp => ?_⟩
  have h3 := List.any_eq_false.1 h.2.2 p hp
  unfold overP at h3
  simpa using h3
end Go.Proofs.YtoblpjknnchlmaaFmt

/- Whether a request is too large to be held, by the law's own words. -/
namespace Go.Proofs.YtoblpjknnchlmaaFmt
open Go.RowKit

theorem req_at {w : World} {g : Nat} {v0 v1 v2 v3 v4 v5 v6 v7 v8 v9 v10 v11 v12 : Value} {T : TypeId} (h : w.heap[g]? = some (.cells #[v0, v1, v2, v3, v4, v5, v6, v7, v8, v9, v10, v11, v12] T (0, 0))) :
    w.cell? ⟨g, 0, none⟩ = some v0 ∧ w.cell? ⟨g, 2, none⟩ = some v2 ∧ w.cell? ⟨g, 5, none⟩ = some v5 ∧ w.cell? ⟨g, 7, none⟩ = some v7 ∧ w.cell? ⟨g, 8, none⟩ = some v8 ∧ w.cell? ⟨g, 9, none⟩ = some v9 ∧ w.cell? ⟨g, 10, none⟩ = some v10 ∧ w.cell? ⟨g, 12, none⟩ = some v12 :=
  ⟨by simp [World.cell?, h], by simp [World.cell?, h], by simp [World.cell?, h], by simp [World.cell?, h], by simp [World.cell?, h], by simp [World.cell?, h], by simp [World.cell?, h], by simp [World.cell?, h]⟩
set_option maxRecDepth 100000 in
set_option maxHeartbeats 4000000 in
theorem large_any (ps : List Par) (hz : ∀ p ∈ ps, p.1.size ≤ 140737488355328 ∧ p.2.size ≤ 140737488355328) (a0 : Option Addr) (len cap b off : Nat) (hlb : len ≤ 9223372036854775807)
    (pt fp up : Int) (fs us wi : Bool) (fh uh pa qu me bo : ByteArray) (h1 : fh.size ≤ 140737488355328) (h2 : uh.size ≤ 140737488355328) (h3 : pa.size ≤ 140737488355328) (h4 : qu.size ≤ 140737488355328) (h5 : me.size ≤ 140737488355328) (h6 : bo.size ≤ 140737488355328) (w : World) (hx : Pars w a0 len b off ps) :
    Calls Tryf.prog 4 #[.agg #[.int .i64 pt, .bool fs, .string fh, .int .i64 fp, .bool us, .string uh, .int .i64 up, .string pa, .string qu, .string me, .slice a0 len cap, .bool wi, .string bo]] w fun e w' => e = .returned (.bool (largeL ps (me.size + pa.size + qu.size + uh.size + fh.size + bo.size))) ∧ Below w.heap.size w w' := by
  have hb0 : Below w.heap.size w (w.alloc (.cells #[.int .i64 pt, .bool fs, .string fh, .int .i64 fp, .bool us, .string uh, .int .i64 up, .string pa, .string qu, .string me, .slice a0 len cap, .bool wi, .string bo] 28)) := (Below.refl _ _).alloc (Nat.le_refl _) _
  have HX : Hid (Pars (w.alloc (.cells #[.int .i64 pt, .bool fs, .string fh, .int .i64 fp, .bool us, .string uh, .int .i64 up, .string pa, .string qu, .string me, .slice a0 len cap, .bool wi, .string bo] 28)) a0 len b off ps) := hx.below hb0
  have HL : Hid (ps.length = len) := hx.len_eq
  have HZ : Hid (∀ p ∈ ps, p.1.size ≤ 140737488355328 ∧ p.2.size ≤ 140737488355328) := hz
  have HB0 : Hid (Below w.heap.size w (w.alloc (.cells #[.int .i64 pt, .bool fs, .string fh, .int .i64 fp, .bool us, .string uh, .int .i64 up, .string pa, .string qu, .string me, .slice a0 len cap, .bool wi, .string bo] 28)) ∧ (w.alloc (.cells #[.int .i64 pt, .bool fs, .string fh, .int .i64 fp, .bool us, .string uh, .int .i64 up, .string pa, .string qu, .string me, .slice a0 len cap, .bool wi, .string bo] 28)).heap[w.heap.size]? = some (.cells #[.int .i64 pt, .bool fs, .string fh, .int .i64 fp, .bool us, .string uh, .int .i64 up, .string pa, .string qu, .string me, .slice a0 len cap, .bool wi, .string bo] 28 (0, 0))) := ⟨hb0, heap_alloc_new w _⟩
  clear hb0 hx hz
  by_cases h45 : (45 : Int) < (len : Int)
  · have HA : Hid (largeL ps (me.size + pa.size + qu.size + uh.size + fh.size + bo.size) = true) := by
      show _ = _
      unfold largeL
      rw [decide_eq_true (by have := HL.out; omega), Bool.true_or]
    go_enter Tryf.func4, Tryf.ntmps4
    go_wp2
    go_ret
    exact ⟨ret_bool (by rw [HA.out]), HB0.out.1⟩
  by_cases h900 : (900 : Int) < (me.size : Int) + (pa.size : Int) + (qu.size : Int) + (uh.size : Int) + (fh.size : Int) + (bo.size : Int)
  · have HA : Hid (largeL ps (me.size + pa.size + qu.size + uh.size + fh.size + bo.size) = true) := by
      show _ = _
      unfold largeL
      rw [decide_eq_true (show 900 < me.size + pa.size + qu.size + uh.size + fh.size + bo.size by omega), Bool.true_or, Bool.or_true]
    go_enter Tryf.func4, Tryf.ntmps4
    go_wp2
    go_ret
    exact ⟨ret_bool (by rw [HA.out]), HB0.out.1⟩
  have HAA : Hid (largeL ps (me.size + pa.size + qu.size + uh.size + fh.size + bo.size) = ps.any overP) := by
    show _ = _
    unfold largeL
    rw [decide_eq_false (by have := HL.out; omega), decide_eq_false (show ¬ 900 < me.size + pa.size + qu.size + uh.size + fh.size + bo.size by omega), Bool.false_or, Bool.false_or]
  go_enter Tryf.func4, Tryf.ntmps4
  go_wp2
  generalize hW0 : w.alloc (.cells #[.int .i64 pt, .bool fs, .string fh, .int .i64 fp, .bool us, .string uh, .int .i64 up, .string pa, .string qu, .string me, .slice a0 len cap, .bool wi, .string bo] 28) = W0 at HB0 HX ⊢
  clear hW0
  obtain ⟨_, c2, c5, c7, c8, c9, c10, c12⟩ := req_at HB0.out.2
  go_loopw [4] (fun i wr => ∃ (k q : Nat), k ≤ len ∧ i = .int .i64 k ∧ wr = W0.drewN q ∧ Hid ((ps.take k).any overP = false)) (fun i _ => len - (intOf i).toNat)
  case atStart => exact ⟨0, 0, Nat.zero_le _, rfl, rfl, rfl⟩
  case round =>
    obtain ⟨k, q, hk, rfl, rfl, HK⟩ := hrel
    have c10' : (W0.drewN q).cell? ⟨w.heap.size, 10, none⟩ = some (.slice a0 len cap) := c10
    by_cases hlt : k < len
    · have hltz : (k : Int) < (len : Int) := by omega
      obtain ⟨p, hp⟩ : ∃ p, ps[k]? = some p := ⟨ps[k]'(by have := HL.out; omega), List.getElem?_eq_getElem _⟩
      have hpz := HZ.out p (List.mem_of_getElem? hp)
      obtain ⟨pn, pv⟩ := p
      have HPK : Hid (ps[k]? = some (pn, pv)) := hp
      have hp1 : pn.size ≤ 140737488355328 := hpz.1
      have hp2 : pv.size ≤ 140737488355328 := hpz.2
      obtain ⟨ha0, _⟩ := HX.out.lies (by omega)
      subst ha0
      have d1 : W0.cell? ⟨b, off + k * 2, none⟩ = some (.string pn) := HX.out.one k _ hp
      have d2 : W0.cell? ⟨b, off + k * 2 + 1, none⟩ = some (.string pv) := HX.out.two k _ hp
      clear hp hpz
      by_cases h300 : (300 : Int) < (pn.size : Int) + (pv.size : Int)
      · have HE : Hid (ps.any overP = true) := List.any_eq_true.2 ⟨_, List.mem_of_getElem? HPK.out, by unfold overP; exact decide_eq_true (by show 300 < pn.size + pv.size; omega)⟩
        go_wp2
        go_quiet (fail)
        go_wp2
        go_ret
        exact ⟨ret_bool (by rw [HAA.out, HE.out]), drewN_below (drewN_below HB0.out.1 _) _⟩
      · have HS : Hid ((ps.take (k + 1)).any overP = false) := over_snoc HK.out HPK.out (by show ¬ 300 < pn.size + pv.size; omega)
        go_wp2
        go_quiet (fail)
        go_wp2
        go_roundw
        case rel => exact ⟨k + 1, _, by omega, by go_num, rfl, HS⟩
        case measure => simp [intOf]; omega
    · have hltz : ¬ (k : Int) < (len : Int) := by omega
      have HE : Hid (ps.any overP = false) := by
        have := HK.out
        rw [List.take_of_length_le (by have := HL.out; omega)] at this
        exact this
      go_wp2
      go_ret
      exact ⟨ret_bool (by rw [HAA.out, HE.out]), drewN_below HB0.out.1 _⟩
end Go.Proofs.YtoblpjknnchlmaaFmt

/- Fields that are not too many. -/
namespace Go.Proofs.YtoblpjknnchlmaaFmt
open Go.RowKit

theorem few9_of {ps : List Par} {n : Nat} (h : largeL ps n = false) : Few9 ps := by
  obtain ⟨h1, _, h3⟩ := large_small h
  exact ⟨h1, fun p hp => by have := h3 p hp; omega⟩
theorem large0_any (ps : List Par) (hz : ∀ p ∈ ps, p.1.size ≤ 140737488355328 ∧ p.2.size ≤ 140737488355328) (a0 : Option Addr) (len cap b off : Nat) (hlb : len ≤ 9223372036854775807) (w : World) (hx : Pars w a0 len b off ps) :
    Calls Tryf.prog 4 #[.agg #[.int .i64 0, .bool false, .string ⟨#[]⟩, .int .i64 0, .bool false, .string ⟨#[]⟩, .int .i64 0, .string ⟨#[]⟩, .string ⟨#[]⟩, .string ⟨#[]⟩, .slice a0 len cap, .bool false, .string ⟨#[]⟩]] w fun e w' => e = .returned (.bool (largeL ps 0)) ∧ Below w.heap.size w w' :=
  large_any ps hz a0 len cap b off hlb 0 0 0 false false false ⟨#[]⟩ ⟨#[]⟩ ⟨#[]⟩ ⟨#[]⟩ ⟨#[]⟩ ⟨#[]⟩ (by decide) (by decide) (by decide) (by decide) (by decide) (by decide) w hx
end Go.Proofs.YtoblpjknnchlmaaFmt

/- A region driven by hand: an operation taken first. -/
namespace Go.Proofs.YtoblpjknnchlmaaFmt
open Go.RowKit

section
variable {P : Program} {ops : Array Oper} {Q : Exit → Act → World → Prop} {md : Region.Mode} {S : World → Prop}
theorem takeH {i : Nat} {oi : Oper} {d : Option Tmp} {v : Value} {fuel : Nat} {listed : Array Bool} {a : Act} {w : World} (hi : ops[i]? = some oi) (hd : oi.dst = d)
    (hs : Region.noSelect ops = true) (hf : Region.free md ops listed i = true) (hr : (Region.ready md ops listed).contains i = true)
    (hQ : ∀ c a w, Q (.panic c) (a.put oi.dst v) w → Q (.panic c) a w) (hw : Region.wanted oi (yielded ops a.tmps) = true) (hy : ∀ w, S w → (execOp a.eval oi).run P w = .ok (.value v) w) (hS : S w)
    (h : wpAnyH P md ops Q S fuel (listed.setIfInBounds i true) (a.put d v) w) : wpAnyH P md ops Q S (fuel + 1) listed a w := by
  subst hd
  exact wpAnyH_take hi hs hf hr hQ (Or.inl ⟨hw, hy⟩) hS h
theorem skipH {i : Nat} {oi : Oper} {d : Option Tmp} {fuel : Nat} {listed : Array Bool} {a : Act} {w : World} (hi : ops[i]? = some oi) (hd : oi.dst = d)
    (hs : Region.noSelect ops = true) (hf : Region.free md ops listed i = true) (hr : (Region.ready md ops listed).contains i = true)
    (hQ : ∀ c a w, Q (.panic c) (a.put oi.dst undef) w → Q (.panic c) a w) (hw : Region.wanted oi (yielded ops a.tmps) = false) (hS : S w)
    (h : wpAnyH P md ops Q S fuel (listed.setIfInBounds i true) (a.put d undef) w) : wpAnyH P md ops Q S (fuel + 1) listed a w := by
  subst hd
  exact wpAnyH_take hi hs hf hr hQ (Or.inr ⟨hw, rfl⟩) hS h
end
end Go.Proofs.YtoblpjknnchlmaaFmt

/- The law CorsMays, walked. -/
namespace Go.Proofs.YtoblpjknnchlmaaFmt
open Go.RowKit
open Go.Extern.Stop Go.Stop Go.Extern
set_option linter.unusedVariables false
set_option linter.unusedSimpArgs false

set_option maxRecDepth 100000 in
set_option maxHeartbeats 8000000 in
theorem corsMays_walk (F : Interp) (pt fp up : Int) (ht : (-9223372036854775808 ≤ pt ∧ pt ≤ 9223372036854775807) ∧ (-9223372036854775808 ≤ fp ∧ fp ≤ 9223372036854775807) ∧ -9223372036854775808 ≤ up ∧ up ≤ 9223372036854775807) (fs us wi : Bool) (fh uh pa qu me bo : ByteArray) (hs : List Par) (hz : (fh.size ≤ 140737488355328 ∧ uh.size ≤ 140737488355328 ∧ pa.size ≤ 140737488355328 ∧ qu.size ≤ 140737488355328 ∧ me.size ≤ 140737488355328 ∧ bo.size ≤ 140737488355328) ∧ ∀ q ∈ hs, q.1.size ≤ 140737488355328 ∧ q.2.size ≤ 140737488355328) (ra : Option Addr) (rl rc rb ro : Nat) (hlr : rl ≤ 9223372036854775807) (a0 : Option Addr) (len cap b off : Nat) (ps : List Par) (hl : len ≤ cap ∧ cap ≤ 9223372036854775807) (hzp : ∀ p ∈ ps, p.1.size ≤ 140737488355328 ∧ p.2.size ≤ 140737488355328) (hwf : (Lit.int .i64 fp).wf = true) (w : World) (hF : F.told.answers w.tape) (hh : Pars w ra rl rb ro hs) (hx : Pars w a0 len b off ps) (he : Env w) :
    Calls Tryf.prog 3 #[.agg #[.int .i64 pt, .bool fs, .string fh, .int .i64 fp, .bool us, .string uh, .int .i64 up, .string pa, .string qu, .string me, .slice ra rl rc, .bool wi, .string bo], .slice a0 len cap] w fun e w' => e = .returned (.bool true) ∧ Below w.heap.size w w' := by
  have HQ := BoxQ.new 28 w #[.int .i64 pt, .bool fs, .string fh, .int .i64 fp, .bool us, .string uh, .int .i64 up, .string pa, .string qu, .string me, .slice ra rl rc, .bool wi, .string bo]
  have HD : Hid (BoxQ 28 w #[.int .i64 pt, .bool fs, .string fh, .int .i64 fp, .bool us, .string uh, .int .i64 up, .string pa, .string qu, .string me, .slice ra rl rc, .bool wi, .string bo] (w.alloc (.cells #[.int .i64 pt, .bool fs, .string fh, .int .i64 fp, .bool us, .string uh, .int .i64 up, .string pa, .string qu, .string me, .slice ra rl rc, .bool wi, .string bo] 28)).drew) := HQ.step (Below.refl _ _).drew
  have hbase : ∀ W, Hid (BoxQ 28 w #[.int .i64 pt, .bool fs, .string fh, .int .i64 fp, .bool us, .string uh, .int .i64 up, .string pa, .string qu, .string me, .slice ra rl rc, .bool wi, .string bo] W) → W.cell? ⟨w.heap.size, 0, none⟩ = some (.int .i64 pt) ∧ W.cell? ⟨w.heap.size, 1, none⟩ = some (.bool fs) ∧ W.cell? ⟨w.heap.size, 2, none⟩ = some (.string fh) ∧ W.cell? ⟨w.heap.size, 3, none⟩ = some (.int .i64 fp) ∧ W.cell? ⟨w.heap.size, 4, none⟩ = some (.bool us) ∧ W.cell? ⟨w.heap.size, 5, none⟩ = some (.string uh) ∧ W.cell? ⟨w.heap.size, 6, none⟩ = some (.int .i64 up) ∧ W.cell? ⟨w.heap.size, 7, none⟩ = some (.string pa) ∧ W.cell? ⟨w.heap.size, 8, none⟩ = some (.string qu) ∧ W.cell? ⟨w.heap.size, 9, none⟩ = some (.string me) ∧ W.cell? ⟨w.heap.size, 10, none⟩ = some (.slice ra rl rc) ∧ W.cell? ⟨w.heap.size, 11, none⟩ = some (.bool wi) ∧ W.cell? ⟨w.heap.size, 12, none⟩ = some (.string bo) ∧ Hid (BoxQ 28 w #[.int .i64 pt, .bool fs, .string fh, .int .i64 fp, .bool us, .string uh, .int .i64 up, .string pa, .string qu, .string me, .slice ra rl rc, .bool wi, .string bo] W) := fun W h => ⟨(show BoxQ _ _ _ _ from h.out).at 0 _ rfl, (show BoxQ _ _ _ _ from h.out).at 1 _ rfl, (show BoxQ _ _ _ _ from h.out).at 2 _ rfl, (show BoxQ _ _ _ _ from h.out).at 3 _ rfl, (show BoxQ _ _ _ _ from h.out).at 4 _ rfl, (show BoxQ _ _ _ _ from h.out).at 5 _ rfl, (show BoxQ _ _ _ _ from h.out).at 6 _ rfl, (show BoxQ _ _ _ _ from h.out).at 7 _ rfl, (show BoxQ _ _ _ _ from h.out).at 8 _ rfl, (show BoxQ _ _ _ _ from h.out).at 9 _ rfl, (show BoxQ _ _ _ _ from h.out).at 10 _ rfl, (show BoxQ _ _ _ _ from h.out).at 11 _ rfl, (show BoxQ _ _ _ _ from h.out).at 12 _ rfl, h⟩
  obtain ⟨z1, HZ1⟩ : ∃ z, Hid (largeL hs (me.size + pa.size + qu.size + uh.size + fh.size + bo.size) = z) := ⟨_, rfl⟩
  obtain ⟨z2, HZ2⟩ : ∃ z, Hid (largeL ps 0 = z) := ⟨_, rfl⟩
  have HL1 : Hid (∀ W, Below w.heap.size w W → Calls Tryf.prog 4 #[.agg #[.int .i64 pt, .bool fs, .string fh, .int .i64 fp, .bool us, .string uh, .int .i64 up, .string pa, .string qu, .string me, .slice ra rl rc, .bool wi, .string bo]] W fun e w' => e = .returned (.bool z1) ∧ Below W.heap.size W w') := fun W hW => by
    have := large_any hs hz.2 ra rl rc rb ro hlr pt fp up fs us wi fh uh pa qu me bo hz.1.1 hz.1.2.1 hz.1.2.2.1 hz.1.2.2.2.1 hz.1.2.2.2.2.1 hz.1.2.2.2.2.2 W (hh.below hW)
    rw [HZ1.out] at this
    exact this
  have HL2 : Hid (∀ W, Below w.heap.size w W → Calls Tryf.prog 4 #[.agg #[.int .i64 0, .bool false, .string ⟨#[]⟩, .int .i64 0, .bool false, .string ⟨#[]⟩, .int .i64 0, .string ⟨#[]⟩, .string ⟨#[]⟩, .string ⟨#[]⟩, .slice a0 len cap, .bool false, .string ⟨#[]⟩]] W fun e w' => e = .returned (.bool z2) ∧ Below W.heap.size W w') := fun W hW => by
    have := large0_any ps hzp a0 len cap b off (Nat.le_trans hl.1 hl.2) W (hx.below hW)
    rw [HZ2.out] at this
    exact this
  cases z1
  · cases z2
    · have HF9 := few9_of HZ2.out
      have hfh : fh.size ≤ 4000 := by have := (large_small HZ1.out).2.1; omega
      obtain ⟨y, HY⟩ : ∃ y, Hid (mayL wi (textL fs fh.data.toList fp) ps = y) := ⟨_, rfl⟩
      have HM1 : Hid (∀ W, Below w.heap.size w W → Calls Tryf.prog 5 #[.agg #[.int .i64 pt, .bool fs, .string fh, .int .i64 fp, .bool us, .string uh, .int .i64 up, .string pa, .string qu, .string me, .slice ra rl rc, .bool wi, .string bo], .slice a0 len cap] W fun e w' => e = .returned (.bool y) ∧ Below W.heap.size W w') := fun W hW => by
        have := may9_any ps HF9 a0 len cap b off pt fp up fs us fh uh pa qu me bo ra rl rc wi hfh ht.2.1.1 ht.2.1.2 W (he.below hW (Nat.le_refl _)) (hx.below hW)
        rw [HY.out] at this
        exact this
      have HM2 : Hid (∀ W, Below w.heap.size w W → Calls Tryf.prog 6 #[.agg #[.int .i64 pt, .bool fs, .string fh, .int .i64 fp, .bool us, .string uh, .int .i64 up, .string pa, .string qu, .string me, .slice ra rl rc, .bool wi, .string bo], .slice a0 len cap] W fun e w' => e = .returned (.bool y) ∧ Below W.heap.size W w') := fun W hW => by
        have := refMay9_any F ps HF9 a0 len cap b off pt fp up fs us fh uh pa qu me bo ra rl rc wi hfh hwf W (by rw [hW.tape]; exact hF) (hx.below hW)
        rw [HY.out] at this
        exact this
      clear hz hzp hl hx hh he ht hlr hwf hF HQ HY HF9 hfh
      go_enter Tryf.func3, Tryf.ntmps3
      go_upto_region 1 with fail
      refine wp_region_held_drew (S := fun W => W.cell? ⟨w.heap.size, 0, none⟩ = some (.int .i64 pt) ∧ W.cell? ⟨w.heap.size, 1, none⟩ = some (.bool fs) ∧ W.cell? ⟨w.heap.size, 2, none⟩ = some (.string fh) ∧ W.cell? ⟨w.heap.size, 3, none⟩ = some (.int .i64 fp) ∧ W.cell? ⟨w.heap.size, 4, none⟩ = some (.bool us) ∧ W.cell? ⟨w.heap.size, 5, none⟩ = some (.string uh) ∧ W.cell? ⟨w.heap.size, 6, none⟩ = some (.int .i64 up) ∧ W.cell? ⟨w.heap.size, 7, none⟩ = some (.string pa) ∧ W.cell? ⟨w.heap.size, 8, none⟩ = some (.string qu) ∧ W.cell? ⟨w.heap.size, 9, none⟩ = some (.string me) ∧ W.cell? ⟨w.heap.size, 10, none⟩ = some (.slice ra rl rc) ∧ W.cell? ⟨w.heap.size, 11, none⟩ = some (.bool wi) ∧ W.cell? ⟨w.heap.size, 12, none⟩ = some (.string bo) ∧ Hid (BoxQ 28 w #[.int .i64 pt, .bool fs, .string fh, .int .i64 fp, .bool us, .string uh, .int .i64 up, .string pa, .string qu, .string me, .slice ra rl rc, .bool wi, .string bo] W)) (by kernel_rfl) (hbase _ HD) (fun hHeld => ?_)
      refine takeH (i := 0) (d := some 5) (v := ?_) rfl rfl (by kernel_rfl) (by kernel_rfl) (by kernel_rfl) (fun _ _ _ h => h) (by rfl) ?_ (by assumption) ?_
      rotate_left
      · intro w hSw; (try dsimp only at hSw); obtain ⟨q0, q1, q2, q3, q4, q5, q6, q7, q8, q9, q10, q11, q12, _⟩ := hSw; go_simp; with_reducible rfl
      try simp only [Act.put, List.setIfInBounds_toArray, List.set_cons_zero, List.set_cons_succ]
      refine wpAnyH_ready (rs := [1]) (by kernel_rfl) (by simp) ?_
      refine AllReadyH.cons (by rfl) (fun K hKK => ?_) AllReadyH.nil
      go_simp
      refine (HL1.out _ (show BoxQ _ _ _ _ from HD.out).bel).mono ?_
      rintro e w1 ⟨rfl, hb⟩
      have H1 : Hid (BoxQ 28 w #[.int .i64 pt, .bool fs, .string fh, .int .i64 fp, .bool us, .string uh, .int .i64 up, .string pa, .string qu, .string me, .slice ra rl rc, .bool wi, .string bo] w1) := (show BoxQ _ _ _ _ from HD.out).step hb
      clear hb
      go_wp2_with fail
      refine hKK.out _ _ (hbase _ H1) (fun hHeld => ?_)
      clear hKK K
      try simp only [Act.put, List.setIfInBounds_toArray, List.set_cons_zero, List.set_cons_succ]
      refine takeH (i := 2) (d := some 7) (v := ?_) rfl rfl (by kernel_rfl) (by kernel_rfl) (by kernel_rfl) (fun _ _ _ h => h) (by rfl) ?_ (by assumption) ?_
      rotate_left
      · intro w hSw; (try dsimp only at hSw); obtain ⟨q0, q1, q2, q3, q4, q5, q6, q7, q8, q9, q10, q11, q12, _⟩ := hSw; go_simp; with_reducible rfl
      try simp only [Act.put, List.setIfInBounds_toArray, List.set_cons_zero, List.set_cons_succ]
      refine takeH (i := 3) (d := some 8) (v := ?_) rfl rfl (by kernel_rfl) (by kernel_rfl) (by kernel_rfl) (fun _ _ _ h => h) (by rfl) ?_ (by assumption) ?_
      rotate_left
      · intro w hSw; (try dsimp only at hSw); obtain ⟨q0, q1, q2, q3, q4, q5, q6, q7, q8, q9, q10, q11, q12, _⟩ := hSw; go_simp; with_reducible rfl
      try simp only [Act.put, List.setIfInBounds_toArray, List.set_cons_zero, List.set_cons_succ]
      refine takeH (i := 4) (d := some 9) (v := ?_) rfl rfl (by kernel_rfl) (by kernel_rfl) (by kernel_rfl) (fun _ _ _ h => h) (by rfl) ?_ (by assumption) ?_
      rotate_left
      · intro w hSw; (try dsimp only at hSw); obtain ⟨q0, q1, q2, q3, q4, q5, q6, q7, q8, q9, q10, q11, q12, _⟩ := hSw; go_simp; with_reducible rfl
      try simp only [Act.put, List.setIfInBounds_toArray, List.set_cons_zero, List.set_cons_succ]
      refine wpAnyH_ready (rs := [5]) (by kernel_rfl) (by simp) ?_
      refine AllReadyH.cons (by rfl) (fun K hKK => ?_) AllReadyH.nil
      go_simp
      refine (HL2.out _ (show BoxQ _ _ _ _ from H1.out).bel).mono ?_
      rintro e w2 ⟨rfl, hb⟩
      have H2 : Hid (BoxQ 28 w #[.int .i64 pt, .bool fs, .string fh, .int .i64 fp, .bool us, .string uh, .int .i64 up, .string pa, .string qu, .string me, .slice ra rl rc, .bool wi, .string bo] w2) := (show BoxQ _ _ _ _ from H1.out).step hb
      clear hb
      go_wp2_with fail
      refine hKK.out _ _ (hbase _ H2) (fun hHeld => ?_)
      clear hKK K
      try simp only [Act.put, List.setIfInBounds_toArray, List.set_cons_zero, List.set_cons_succ]
      refine takeH (i := 6) (d := some 11) (v := ?_) rfl rfl (by kernel_rfl) (by kernel_rfl) (by kernel_rfl) (fun _ _ _ h => h) (by rfl) ?_ (by assumption) ?_
      rotate_left
      · intro w hSw; (try dsimp only at hSw); obtain ⟨q0, q1, q2, q3, q4, q5, q6, q7, q8, q9, q10, q11, q12, _⟩ := hSw; go_simp; with_reducible rfl
      try simp only [Act.put, List.setIfInBounds_toArray, List.set_cons_zero, List.set_cons_succ]
      refine takeH (i := 7) (d := some 12) (v := ?_) rfl rfl (by kernel_rfl) (by kernel_rfl) (by kernel_rfl) (fun _ _ _ h => h) (by rfl) ?_ (by assumption) ?_
      rotate_left
      · intro w hSw; (try dsimp only at hSw); obtain ⟨q0, q1, q2, q3, q4, q5, q6, q7, q8, q9, q10, q11, q12, _⟩ := hSw; go_simp; with_reducible rfl
      try simp only [Act.put, List.setIfInBounds_toArray, List.set_cons_zero, List.set_cons_succ]
      refine takeH (i := 8) (d := some 13) (v := ?_) rfl rfl (by kernel_rfl) (by kernel_rfl) (by kernel_rfl) (fun _ _ _ h => h) (by rfl) ?_ (by assumption) ?_
      rotate_left
      · intro w hSw; (try dsimp only at hSw); obtain ⟨q0, q1, q2, q3, q4, q5, q6, q7, q8, q9, q10, q11, q12, _⟩ := hSw; go_simp; with_reducible rfl
      try simp only [Act.put, List.setIfInBounds_toArray, List.set_cons_zero, List.set_cons_succ]
      refine takeH (i := 9) (d := some 14) (v := ?_) rfl rfl (by kernel_rfl) (by kernel_rfl) (by kernel_rfl) (fun _ _ _ h => h) (by rfl) ?_ (by assumption) ?_
      rotate_left
      · intro w hSw; (try dsimp only at hSw); obtain ⟨q0, q1, q2, q3, q4, q5, q6, q7, q8, q9, q10, q11, q12, _⟩ := hSw; go_simp; with_reducible rfl
      try simp only [Act.put, List.setIfInBounds_toArray, List.set_cons_zero, List.set_cons_succ]
      refine takeH (i := 11) (d := some 16) (v := ?_) rfl rfl (by kernel_rfl) (by kernel_rfl) (by kernel_rfl) (fun _ _ _ h => h) (by rfl) ?_ (by assumption) ?_
      rotate_left
      · intro w hSw; (try dsimp only at hSw); obtain ⟨q0, q1, q2, q3, q4, q5, q6, q7, q8, q9, q10, q11, q12, _⟩ := hSw; go_simp; with_reducible rfl
      try simp only [Act.put, List.setIfInBounds_toArray, List.set_cons_zero, List.set_cons_succ]
      refine takeH (i := 12) (d := some 17) (v := ?_) rfl rfl (by kernel_rfl) (by kernel_rfl) (by kernel_rfl) (fun _ _ _ h => h) (by rfl) ?_ (by assumption) ?_
      rotate_left
      · intro w hSw; (try dsimp only at hSw); obtain ⟨q0, q1, q2, q3, q4, q5, q6, q7, q8, q9, q10, q11, q12, _⟩ := hSw; go_simp; with_reducible rfl
      try simp only [Act.put, List.setIfInBounds_toArray, List.set_cons_zero, List.set_cons_succ]
      refine wpAnyH_ready (rs := [10]) (by kernel_rfl) (by simp) ?_
      refine AllReadyH.cons (by rfl) (fun K hKK => ?_) AllReadyH.nil
      go_simp
      refine (HM1.out _ (show BoxQ _ _ _ _ from H2.out).bel).mono ?_
      rintro e w3 ⟨rfl, hb⟩
      have H3 : Hid (BoxQ 28 w #[.int .i64 pt, .bool fs, .string fh, .int .i64 fp, .bool us, .string uh, .int .i64 up, .string pa, .string qu, .string me, .slice ra rl rc, .bool wi, .string bo] w3) := (show BoxQ _ _ _ _ from H2.out).step hb
      clear hb
      go_wp2_with fail
      refine hKK.out _ _ (hbase _ H3) (fun hHeld => ?_)
      clear hKK K
      try simp only [Act.put, List.setIfInBounds_toArray, List.set_cons_zero, List.set_cons_succ]
      refine wpAnyH_ready (rs := [13]) (by kernel_rfl) (by simp) ?_
      refine AllReadyH.cons (by rfl) (fun K hKK => ?_) AllReadyH.nil
      go_simp
      refine (HM2.out _ (show BoxQ _ _ _ _ from H3.out).bel).mono ?_
      rintro e w4 ⟨rfl, hb⟩
      have H4 : Hid (BoxQ 28 w #[.int .i64 pt, .bool fs, .string fh, .int .i64 fp, .bool us, .string uh, .int .i64 up, .string pa, .string qu, .string me, .slice ra rl rc, .bool wi, .string bo] w4) := (show BoxQ _ _ _ _ from H3.out).step hb
      clear hb
      go_wp2_with fail
      refine hKK.out _ _ (hbase _ H4) (fun hHeld => ?_)
      clear hKK K
      try simp only [Act.put, List.setIfInBounds_toArray, List.set_cons_zero, List.set_cons_succ]
      refine takeH (i := 14) (d := some 19) (v := ?_) rfl rfl (by kernel_rfl) (by kernel_rfl) (by kernel_rfl) (fun _ _ _ h => h) (by rfl) ?_ (by assumption) ?_
      rotate_left
      · intro w hSw; (try dsimp only at hSw); obtain ⟨q0, q1, q2, q3, q4, q5, q6, q7, q8, q9, q10, q11, q12, _⟩ := hSw; go_simp; with_reducible rfl
      try simp only [Act.put, List.setIfInBounds_toArray, List.set_cons_zero, List.set_cons_succ]
      refine takeH (i := 15) (d := some 20) (v := ?_) rfl rfl (by kernel_rfl) (by kernel_rfl) (by kernel_rfl) (fun _ _ _ h => h) (by rfl) ?_ (by assumption) ?_
      rotate_left
      · intro w hSw; (try dsimp only at hSw); obtain ⟨q0, q1, q2, q3, q4, q5, q6, q7, q8, q9, q10, q11, q12, _⟩ := hSw; go_simp; with_reducible rfl
      try simp only [Act.put, List.setIfInBounds_toArray, List.set_cons_zero, List.set_cons_succ]
      refine takeH (i := 16) (d := some 4) (v := ?_) rfl rfl (by kernel_rfl) (by kernel_rfl) (by kernel_rfl) (fun _ _ _ h => h) (by rfl) ?_ (by assumption) ?_
      rotate_left
      · intro w hSw; (try dsimp only at hSw); obtain ⟨q0, q1, q2, q3, q4, q5, q6, q7, q8, q9, q10, q11, q12, _⟩ := hSw; go_simp; with_reducible rfl
      try simp only [Act.put, List.setIfInBounds_toArray, List.set_cons_zero, List.set_cons_succ]
      refine wpAnyH_done (by kernel_rfl) ?_ _
      go_wp2_with fail
      go_ret
      exact ⟨ret_bool (by simp), (show BoxQ _ _ _ _ from H4.out).bel⟩
    · clear hz hzp hl hx hh he ht hlr hwf hF HQ
      go_enter Tryf.func3, Tryf.ntmps3
      go_upto_region 1 with fail
      refine wp_region_held_drew (S := fun W => W.cell? ⟨w.heap.size, 0, none⟩ = some (.int .i64 pt) ∧ W.cell? ⟨w.heap.size, 1, none⟩ = some (.bool fs) ∧ W.cell? ⟨w.heap.size, 2, none⟩ = some (.string fh) ∧ W.cell? ⟨w.heap.size, 3, none⟩ = some (.int .i64 fp) ∧ W.cell? ⟨w.heap.size, 4, none⟩ = some (.bool us) ∧ W.cell? ⟨w.heap.size, 5, none⟩ = some (.string uh) ∧ W.cell? ⟨w.heap.size, 6, none⟩ = some (.int .i64 up) ∧ W.cell? ⟨w.heap.size, 7, none⟩ = some (.string pa) ∧ W.cell? ⟨w.heap.size, 8, none⟩ = some (.string qu) ∧ W.cell? ⟨w.heap.size, 9, none⟩ = some (.string me) ∧ W.cell? ⟨w.heap.size, 10, none⟩ = some (.slice ra rl rc) ∧ W.cell? ⟨w.heap.size, 11, none⟩ = some (.bool wi) ∧ W.cell? ⟨w.heap.size, 12, none⟩ = some (.string bo) ∧ Hid (BoxQ 28 w #[.int .i64 pt, .bool fs, .string fh, .int .i64 fp, .bool us, .string uh, .int .i64 up, .string pa, .string qu, .string me, .slice ra rl rc, .bool wi, .string bo] W)) (by kernel_rfl) (hbase _ HD) (fun hHeld => ?_)
      refine takeH (i := 0) (d := some 5) (v := ?_) rfl rfl (by kernel_rfl) (by kernel_rfl) (by kernel_rfl) (fun _ _ _ h => h) (by rfl) ?_ (by assumption) ?_
      rotate_left
      · intro w hSw; (try dsimp only at hSw); obtain ⟨q0, q1, q2, q3, q4, q5, q6, q7, q8, q9, q10, q11, q12, _⟩ := hSw; go_simp; with_reducible rfl
      try simp only [Act.put, List.setIfInBounds_toArray, List.set_cons_zero, List.set_cons_succ]
      refine wpAnyH_ready (rs := [1]) (by kernel_rfl) (by simp) ?_
      refine AllReadyH.cons (by rfl) (fun K hKK => ?_) AllReadyH.nil
      go_simp
      refine (HL1.out _ (show BoxQ _ _ _ _ from HD.out).bel).mono ?_
      rintro e w1 ⟨rfl, hb⟩
      have H1 : Hid (BoxQ 28 w #[.int .i64 pt, .bool fs, .string fh, .int .i64 fp, .bool us, .string uh, .int .i64 up, .string pa, .string qu, .string me, .slice ra rl rc, .bool wi, .string bo] w1) := (show BoxQ _ _ _ _ from HD.out).step hb
      clear hb
      go_wp2_with fail
      refine hKK.out _ _ (hbase _ H1) (fun hHeld => ?_)
      clear hKK K
      try simp only [Act.put, List.setIfInBounds_toArray, List.set_cons_zero, List.set_cons_succ]
      refine takeH (i := 2) (d := some 7) (v := ?_) rfl rfl (by kernel_rfl) (by kernel_rfl) (by kernel_rfl) (fun _ _ _ h => h) (by rfl) ?_ (by assumption) ?_
      rotate_left
      · intro w hSw; (try dsimp only at hSw); obtain ⟨q0, q1, q2, q3, q4, q5, q6, q7, q8, q9, q10, q11, q12, _⟩ := hSw; go_simp; with_reducible rfl
      try simp only [Act.put, List.setIfInBounds_toArray, List.set_cons_zero, List.set_cons_succ]
      refine takeH (i := 3) (d := some 8) (v := ?_) rfl rfl (by kernel_rfl) (by kernel_rfl) (by kernel_rfl) (fun _ _ _ h => h) (by rfl) ?_ (by assumption) ?_
      rotate_left
      · intro w hSw; (try dsimp only at hSw); obtain ⟨q0, q1, q2, q3, q4, q5, q6, q7, q8, q9, q10, q11, q12, _⟩ := hSw; go_simp; with_reducible rfl
      try simp only [Act.put, List.setIfInBounds_toArray, List.set_cons_zero, List.set_cons_succ]
      refine takeH (i := 4) (d := some 9) (v := ?_) rfl rfl (by kernel_rfl) (by kernel_rfl) (by kernel_rfl) (fun _ _ _ h => h) (by rfl) ?_ (by assumption) ?_
      rotate_left
      · intro w hSw; (try dsimp only at hSw); obtain ⟨q0, q1, q2, q3, q4, q5, q6, q7, q8, q9, q10, q11, q12, _⟩ := hSw; go_simp; with_reducible rfl
      try simp only [Act.put, List.setIfInBounds_toArray, List.set_cons_zero, List.set_cons_succ]
      refine wpAnyH_ready (rs := [5]) (by kernel_rfl) (by simp) ?_
      refine AllReadyH.cons (by rfl) (fun K hKK => ?_) AllReadyH.nil
      go_simp
      refine (HL2.out _ (show BoxQ _ _ _ _ from H1.out).bel).mono ?_
      rintro e w2 ⟨rfl, hb⟩
      have H2 : Hid (BoxQ 28 w #[.int .i64 pt, .bool fs, .string fh, .int .i64 fp, .bool us, .string uh, .int .i64 up, .string pa, .string qu, .string me, .slice ra rl rc, .bool wi, .string bo] w2) := (show BoxQ _ _ _ _ from H1.out).step hb
      clear hb
      go_wp2_with fail
      refine hKK.out _ _ (hbase _ H2) (fun hHeld => ?_)
      clear hKK K
      try simp only [Act.put, List.setIfInBounds_toArray, List.set_cons_zero, List.set_cons_succ]
      refine takeH (i := 6) (d := some 11) (v := ?_) rfl rfl (by kernel_rfl) (by kernel_rfl) (by kernel_rfl) (fun _ _ _ h => h) (by rfl) ?_ (by assumption) ?_
      rotate_left
      · intro w hSw; (try dsimp only at hSw); obtain ⟨q0, q1, q2, q3, q4, q5, q6, q7, q8, q9, q10, q11, q12, _⟩ := hSw; go_simp; with_reducible rfl
      try simp only [Act.put, List.setIfInBounds_toArray, List.set_cons_zero, List.set_cons_succ]
      refine takeH (i := 7) (d := some 12) (v := ?_) rfl rfl (by kernel_rfl) (by kernel_rfl) (by kernel_rfl) (fun _ _ _ h => h) (by rfl) ?_ (by assumption) ?_
      rotate_left
      · intro w hSw; (try dsimp only at hSw); obtain ⟨q0, q1, q2, q3, q4, q5, q6, q7, q8, q9, q10, q11, q12, _⟩ := hSw; go_simp; with_reducible rfl
      try simp only [Act.put, List.setIfInBounds_toArray, List.set_cons_zero, List.set_cons_succ]
      refine skipH (i := 8) (d := some 13) rfl rfl (by kernel_rfl) (by kernel_rfl) (by kernel_rfl) (fun _ _ _ h => h) (by rfl) (by assumption) ?_
      try simp only [Act.put, List.setIfInBounds_toArray, List.set_cons_zero, List.set_cons_succ]
      refine skipH (i := 9) (d := some 14) rfl rfl (by kernel_rfl) (by kernel_rfl) (by kernel_rfl) (fun _ _ _ h => h) (by rfl) (by assumption) ?_
      try simp only [Act.put, List.setIfInBounds_toArray, List.set_cons_zero, List.set_cons_succ]
      refine skipH (i := 10) (d := some 15) rfl rfl (by kernel_rfl) (by kernel_rfl) (by kernel_rfl) (fun _ _ _ h => h) (by rfl) (by assumption) ?_
      try simp only [Act.put, List.setIfInBounds_toArray, List.set_cons_zero, List.set_cons_succ]
      refine skipH (i := 11) (d := some 16) rfl rfl (by kernel_rfl) (by kernel_rfl) (by kernel_rfl) (fun _ _ _ h => h) (by rfl) (by assumption) ?_
      try simp only [Act.put, List.setIfInBounds_toArray, List.set_cons_zero, List.set_cons_succ]
      refine skipH (i := 12) (d := some 17) rfl rfl (by kernel_rfl) (by kernel_rfl) (by kernel_rfl) (fun _ _ _ h => h) (by rfl) (by assumption) ?_
      try simp only [Act.put, List.setIfInBounds_toArray, List.set_cons_zero, List.set_cons_succ]
      refine skipH (i := 13) (d := some 18) rfl rfl (by kernel_rfl) (by kernel_rfl) (by kernel_rfl) (fun _ _ _ h => h) (by rfl) (by assumption) ?_
      try simp only [Act.put, List.setIfInBounds_toArray, List.set_cons_zero, List.set_cons_succ]
      refine skipH (i := 14) (d := some 19) rfl rfl (by kernel_rfl) (by kernel_rfl) (by kernel_rfl) (fun _ _ _ h => h) (by rfl) (by assumption) ?_
      try simp only [Act.put, List.setIfInBounds_toArray, List.set_cons_zero, List.set_cons_succ]
      refine takeH (i := 15) (d := some 20) (v := ?_) rfl rfl (by kernel_rfl) (by kernel_rfl) (by kernel_rfl) (fun _ _ _ h => h) (by rfl) ?_ (by assumption) ?_
      rotate_left
      · intro w hSw; (try dsimp only at hSw); obtain ⟨q0, q1, q2, q3, q4, q5, q6, q7, q8, q9, q10, q11, q12, _⟩ := hSw; go_simp; with_reducible rfl
      try simp only [Act.put, List.setIfInBounds_toArray, List.set_cons_zero, List.set_cons_succ]
      refine takeH (i := 16) (d := some 4) (v := ?_) rfl rfl (by kernel_rfl) (by kernel_rfl) (by kernel_rfl) (fun _ _ _ h => h) (by rfl) ?_ (by assumption) ?_
      rotate_left
      · intro w hSw; (try dsimp only at hSw); obtain ⟨q0, q1, q2, q3, q4, q5, q6, q7, q8, q9, q10, q11, q12, _⟩ := hSw; go_simp; with_reducible rfl
      try simp only [Act.put, List.setIfInBounds_toArray, List.set_cons_zero, List.set_cons_succ]
      refine wpAnyH_done (by kernel_rfl) ?_ _
      go_wp2_with fail
      go_ret
      exact ⟨rfl, (show BoxQ _ _ _ _ from H2.out).bel⟩
  · clear hz hzp hl hx hh he ht hlr hwf hF HQ
    go_enter Tryf.func3, Tryf.ntmps3
    go_upto_region 1 with fail
    refine wp_region_held_drew (S := fun W => W.cell? ⟨w.heap.size, 0, none⟩ = some (.int .i64 pt) ∧ W.cell? ⟨w.heap.size, 1, none⟩ = some (.bool fs) ∧ W.cell? ⟨w.heap.size, 2, none⟩ = some (.string fh) ∧ W.cell? ⟨w.heap.size, 3, none⟩ = some (.int .i64 fp) ∧ W.cell? ⟨w.heap.size, 4, none⟩ = some (.bool us) ∧ W.cell? ⟨w.heap.size, 5, none⟩ = some (.string uh) ∧ W.cell? ⟨w.heap.size, 6, none⟩ = some (.int .i64 up) ∧ W.cell? ⟨w.heap.size, 7, none⟩ = some (.string pa) ∧ W.cell? ⟨w.heap.size, 8, none⟩ = some (.string qu) ∧ W.cell? ⟨w.heap.size, 9, none⟩ = some (.string me) ∧ W.cell? ⟨w.heap.size, 10, none⟩ = some (.slice ra rl rc) ∧ W.cell? ⟨w.heap.size, 11, none⟩ = some (.bool wi) ∧ W.cell? ⟨w.heap.size, 12, none⟩ = some (.string bo) ∧ Hid (BoxQ 28 w #[.int .i64 pt, .bool fs, .string fh, .int .i64 fp, .bool us, .string uh, .int .i64 up, .string pa, .string qu, .string me, .slice ra rl rc, .bool wi, .string bo] W)) (by kernel_rfl) (hbase _ HD) (fun hHeld => ?_)
    refine takeH (i := 0) (d := some 5) (v := ?_) rfl rfl (by kernel_rfl) (by kernel_rfl) (by kernel_rfl) (fun _ _ _ h => h) (by rfl) ?_ (by assumption) ?_
    rotate_left
    · intro w hSw; (try dsimp only at hSw); obtain ⟨q0, q1, q2, q3, q4, q5, q6, q7, q8, q9, q10, q11, q12, _⟩ := hSw; go_simp; with_reducible rfl
    try simp only [Act.put, List.setIfInBounds_toArray, List.set_cons_zero, List.set_cons_succ]
    refine wpAnyH_ready (rs := [1]) (by kernel_rfl) (by simp) ?_
    refine AllReadyH.cons (by rfl) (fun K hKK => ?_) AllReadyH.nil
    go_simp
    refine (HL1.out _ (show BoxQ _ _ _ _ from HD.out).bel).mono ?_
    rintro e w1 ⟨rfl, hb⟩
    have H1 : Hid (BoxQ 28 w #[.int .i64 pt, .bool fs, .string fh, .int .i64 fp, .bool us, .string uh, .int .i64 up, .string pa, .string qu, .string me, .slice ra rl rc, .bool wi, .string bo] w1) := (show BoxQ _ _ _ _ from HD.out).step hb
    clear hb
    go_wp2_with fail
    refine hKK.out _ _ (hbase _ H1) (fun hHeld => ?_)
    clear hKK K
    try simp only [Act.put, List.setIfInBounds_toArray, List.set_cons_zero, List.set_cons_succ]
    refine takeH (i := 2) (d := some 7) (v := ?_) rfl rfl (by kernel_rfl) (by kernel_rfl) (by kernel_rfl) (fun _ _ _ h => h) (by rfl) ?_ (by assumption) ?_
    rotate_left
    · intro w hSw; (try dsimp only at hSw); obtain ⟨q0, q1, q2, q3, q4, q5, q6, q7, q8, q9, q10, q11, q12, _⟩ := hSw; go_simp; with_reducible rfl
    try simp only [Act.put, List.setIfInBounds_toArray, List.set_cons_zero, List.set_cons_succ]
    refine skipH (i := 3) (d := some 8) rfl rfl (by kernel_rfl) (by kernel_rfl) (by kernel_rfl) (fun _ _ _ h => h) (by rfl) (by assumption) ?_
    try simp only [Act.put, List.setIfInBounds_toArray, List.set_cons_zero, List.set_cons_succ]
    refine skipH (i := 4) (d := some 9) rfl rfl (by kernel_rfl) (by kernel_rfl) (by kernel_rfl) (fun _ _ _ h => h) (by rfl) (by assumption) ?_
    try simp only [Act.put, List.setIfInBounds_toArray, List.set_cons_zero, List.set_cons_succ]
    refine skipH (i := 5) (d := some 10) rfl rfl (by kernel_rfl) (by kernel_rfl) (by kernel_rfl) (fun _ _ _ h => h) (by rfl) (by assumption) ?_
    try simp only [Act.put, List.setIfInBounds_toArray, List.set_cons_zero, List.set_cons_succ]
    refine takeH (i := 6) (d := some 11) (v := ?_) rfl rfl (by kernel_rfl) (by kernel_rfl) (by kernel_rfl) (fun _ _ _ h => h) (by rfl) ?_ (by assumption) ?_
    rotate_left
    · intro w hSw; (try dsimp only at hSw); obtain ⟨q0, q1, q2, q3, q4, q5, q6, q7, q8, q9, q10, q11, q12, _⟩ := hSw; go_simp; with_reducible rfl
    try simp only [Act.put, List.setIfInBounds_toArray, List.set_cons_zero, List.set_cons_succ]
    refine takeH (i := 7) (d := some 12) (v := ?_) rfl rfl (by kernel_rfl) (by kernel_rfl) (by kernel_rfl) (fun _ _ _ h => h) (by rfl) ?_ (by assumption) ?_
    rotate_left
    · intro w hSw; (try dsimp only at hSw); obtain ⟨q0, q1, q2, q3, q4, q5, q6, q7, q8, q9, q10, q11, q12, _⟩ := hSw; go_simp; with_reducible rfl
    try simp only [Act.put, List.setIfInBounds_toArray, List.set_cons_zero, List.set_cons_succ]
    refine skipH (i := 8) (d := some 13) rfl rfl (by kernel_rfl) (by kernel_rfl) (by kernel_rfl) (fun _ _ _ h => h) (by rfl) (by assumption) ?_
    try simp only [Act.put, List.setIfInBounds_toArray, List.set_cons_zero, List.set_cons_succ]
    refine skipH (i := 9) (d := some 14) rfl rfl (by kernel_rfl) (by kernel_rfl) (by kernel_rfl) (fun _ _ _ h => h) (by rfl) (by assumption) ?_
    try simp only [Act.put, List.setIfInBounds_toArray, List.set_cons_zero, List.set_cons_succ]
    refine skipH (i := 10) (d := some 15) rfl rfl (by kernel_rfl) (by kernel_rfl) (by kernel_rfl) (fun _ _ _ h => h) (by rfl) (by assumption) ?_
    try simp only [Act.put, List.setIfInBounds_toArray, List.set_cons_zero, List.set_cons_succ]
    refine skipH (i := 11) (d := some 16) rfl rfl (by kernel_rfl) (by kernel_rfl) (by kernel_rfl) (fun _ _ _ h => h) (by rfl) (by assumption) ?_
    try simp only [Act.put, List.setIfInBounds_toArray, List.set_cons_zero, List.set_cons_succ]
    refine skipH (i := 12) (d := some 17) rfl rfl (by kernel_rfl) (by kernel_rfl) (by kernel_rfl) (fun _ _ _ h => h) (by rfl) (by assumption) ?_
    try simp only [Act.put, List.setIfInBounds_toArray, List.set_cons_zero, List.set_cons_succ]
    refine skipH (i := 13) (d := some 18) rfl rfl (by kernel_rfl) (by kernel_rfl) (by kernel_rfl) (fun _ _ _ h => h) (by rfl) (by assumption) ?_
    try simp only [Act.put, List.setIfInBounds_toArray, List.set_cons_zero, List.set_cons_succ]
    refine skipH (i := 14) (d := some 19) rfl rfl (by kernel_rfl) (by kernel_rfl) (by kernel_rfl) (fun _ _ _ h => h) (by rfl) (by assumption) ?_
    try simp only [Act.put, List.setIfInBounds_toArray, List.set_cons_zero, List.set_cons_succ]
    refine takeH (i := 15) (d := some 20) (v := ?_) rfl rfl (by kernel_rfl) (by kernel_rfl) (by kernel_rfl) (fun _ _ _ h => h) (by rfl) ?_ (by assumption) ?_
    rotate_left
    · intro w hSw; (try dsimp only at hSw); obtain ⟨q0, q1, q2, q3, q4, q5, q6, q7, q8, q9, q10, q11, q12, _⟩ := hSw; go_simp; with_reducible rfl
    try simp only [Act.put, List.setIfInBounds_toArray, List.set_cons_zero, List.set_cons_succ]
    refine takeH (i := 16) (d := some 4) (v := ?_) rfl rfl (by kernel_rfl) (by kernel_rfl) (by kernel_rfl) (fun _ _ _ h => h) (by rfl) ?_ (by assumption) ?_
    rotate_left
    · intro w hSw; (try dsimp only at hSw); obtain ⟨q0, q1, q2, q3, q4, q5, q6, q7, q8, q9, q10, q11, q12, _⟩ := hSw; go_simp; with_reducible rfl
    try simp only [Act.put, List.setIfInBounds_toArray, List.set_cons_zero, List.set_cons_succ]
    refine wpAnyH_done (by kernel_rfl) ?_ _
    go_wp2_with fail
    go_ret
    exact ⟨rfl, (show BoxQ _ _ _ _ from H1.out).bel⟩
end Go.Proofs.YtoblpjknnchlmaaFmt

/- What came in: no text of it is longer than a machine can hold. -/
namespace Go.Proofs.YtoblpjknnchlmaaFmt
open Go.ChangeShapes Go.WideShapes Go.ChangeAt Go.RowKit Go.Joins

theorem laidOutP : laidOutB Tryf.prog = true := by kernel_rfl
theorem weightsAll_mem {H : Type} {P : Program} {e : TypeId} : ∀ {ds : List (DataW H)} {d : DataW H}, d ∈ ds → ∀ n ∈ d.weights P e, n ∈ DataW.weightsAll P e ds
  | d0 :: ds, d, hd, n, hn => by
    rw [DataW.weightsAll, List.mem_append]
    rcases List.mem_cons.1 hd with rfl | h
    · exact .inl hn
    · exact .inr (weightsAll_mem h n hn)
theorem weights_slice {H : Type} {t e : TypeId} (ht : Tryf.prog.underlying t = some (.slice e)) {ds es : List (DataW H)} {d : DataW H} (hd : d ∈ ds) : ∀ n ∈ d.weights Tryf.prog e, n ∈ (DataW.slice ds es).weights Tryf.prog t := by
  intro n hn
  rw [DataW.weights, ht]
  simp only [List.mem_cons, List.mem_append]
  exact .inr (.inl (weightsAll_mem hd n hn))
/-- No text of it is longer than a machine can hold. -/
def Reach {H : Type} (t : TypeId) (d : DataW H) : Prop := ∀ n ∈ d.weights Tryf.prog t, n ≤ 140737488355328
theorem reach_all {H : Type} {ts : List TypeId} {ds : List (DataW H)} (h : (DataW.weightsEach Tryf.prog ts ds).all (· ≤ reachBytes) = true) {j : Nat} {t : TypeId} {d : DataW H} (ht : ts[j]? = some t) (hd : ds[j]? = some d) : Reach t d := fun n hn => by
  have h1 := List.all_eq_true.1 h _ (DataW.weights_mem_each ht hd n hn)
  have h2 : n ≤ reachBytes := of_decide_eq_true h1
  have := reachBytes_lt
  have e3 : (2 : Nat) ^ 47 = 140737488355328 := by decide
  omega
theorem reach_string {H : Type} {t : TypeId} {s : ByteArray} (h : Reach (H := H) t (.lit (.string s.data.toList))) : s.size ≤ 140737488355328 := by
  have := h s.data.toList.length (by simp [DataW.weights])
  rw [Array.length_toList] at this
  exact this
def strOf : Value → ByteArray
  | .string s => s
  | _ => ⟨#[]⟩
end Go.Proofs.YtoblpjknnchlmaaFmt

/- Parameters that came in: one, and a row of them. -/
namespace Go.Proofs.YtoblpjknnchlmaaFmt
open Go.ChangeShapes Go.WideShapes Go.ChangeAt Go.RowKit Go.Joins

theorem cellsP : Tryf.prog.cellsOf 32 = 2 := by kernel_rfl
section
variable {H : Type} {enc : TypeId × Value → H} {W : World}
theorem open_pars {fuel : Nat} {v : Value} {x : DataW H × List MemPlace} (h : DataW.trod enc Tryf.prog W 0 (fun _ => true) true fuel 26 [v] = some x) :
    ∃ (a0 : Option Addr) (len cap b off : Nat) (ps : List Par), v = .slice a0 len cap ∧ (len ≤ cap ∧ cap ≤ 9223372036854775807) ∧ Pars W a0 len b off ps ∧ (Reach 26 x.1 → ∀ p ∈ ps, p.1.size ≤ 140737488355328 ∧ p.2.size ≤ 140737488355328) := by
  rcases Go.Deep.open_slice_pairs Tryf.underlying26 Tryf.underlying32 cellsP rfl rfl (by kernel_rfl) (by kernel_rfl) h with ⟨hcs, hx⟩ | ⟨a, len, cap, m, n, V0, V1, D0, D1, P0, P1, hcs, _, hl, hm, hmm, hx, hall⟩
  · simp only [List.cons.injEq, and_true] at hcs
    exact ⟨none, 0, 0, 0, 0, [], hcs, ⟨by omega, by omega⟩, ⟨rfl, fun h => absurd h (by omega), (fun j p hp => by simp at hp), (fun j p hp => by simp at hp)⟩, fun _ p hp => by cases hp⟩
  · simp only [List.cons.injEq, and_true] at hcs
    simp only [if_true] at hmm
    obtain rfl := hmm.symm
    unfold maxLen at hm
    have hS : ∀ i, i < len → V0 i = .string (strOf (V0 i)) ∧ V1 i = .string (strOf (V1 i)) ∧ D0 i = .lit (.string (strOf (V0 i)).data.toList) ∧ D1 i = .lit (.string (strOf (V1 i)).data.toList) := fun i hi => by
      obtain ⟨_, _, t0, t1⟩ := hall i (by omega)
      obtain ⟨s0, e0, x0, _⟩ := DataW.trod_string Tryf.underlying9 t0
      obtain ⟨s1, e1, x1, _⟩ := DataW.trod_string Tryf.underlying9 t1
      simp only [List.cons.injEq, and_true] at e0 e1
      simp only [Prod.mk.injEq] at x0 x1
      rw [e0, e1, x0.1, x1.1]
      exact ⟨rfl, rfl, rfl, rfl⟩
    obtain ⟨b, off, spot⟩ := a
    have hget : ∀ (j : Nat) (p : Par), ((List.range len).map fun i => ((strOf (V0 i), strOf (V1 i)) : Par))[j]? = some p → j < len ∧ p = (strOf (V0 j), strOf (V1 j)) := fun j p hp => by
      rw [List.getElem?_map] at hp
      by_cases hj : j < len
      · rw [List.getElem?_range hj] at hp
        simp only [Option.map_some, Option.some.injEq] at hp
        exact ⟨hj, hp.symm⟩
      · rw [List.getElem?_eq_none (by simp; omega)] at hp
        cases hp
    have hspot : 0 < len → spot = none := fun h0 => by simpa [Addr.add] using World.cell?_spot (hall 0 (by omega)).1
    refine ⟨some ⟨b, off, spot⟩, len, cap, b, off, (List.range len).map fun i => (strOf (V0 i), strOf (V1 i)), hcs, ⟨by omega, by omega⟩, ⟨by simp, fun h0 => ?_, fun j p hp => ?_, fun j p hp => ?_⟩, fun hr p hp => ?_⟩
    · obtain rfl := hspot h0
      refine ⟨rfl, ?_⟩
      have hc := (hall 0 (by omega)).1
      rcases Nat.lt_or_ge b W.heap.size with h1 | h1
      · exact h1
      · simp [World.cell?, Addr.add, Array.getElem?_eq_none h1] at hc
    · obtain ⟨hj, rfl⟩ := hget j p hp
      obtain rfl := hspot (by omega)
      rw [← add_plain]
      exact (hall j (by omega)).1.trans (congrArg some (hS j hj).1)
    · obtain ⟨hj, rfl⟩ := hget j p hp
      obtain rfl := hspot (by omega)
      rw [Nat.add_assoc, ← add_plain]
      exact (hall j (by omega)).2.1.trans (congrArg some (hS j hj).2.1)
    · obtain ⟨i, hi, rfl⟩ := List.mem_map.1 hp
      have hi' : i < len := List.mem_range.1 hi
      have hw : ∀ n ∈ (DataW.agg [D0 i, D1 i]).weights Tryf.prog 32, n ≤ 140737488355328 := fun n hn => by
        refine hr n ?_
        rw [hx]
        exact weights_slice Tryf.underlying26 (List.mem_map.2 ⟨i, hi, rfl⟩) n hn
      rw [(hS i hi').2.2.1, (hS i hi').2.2.2] at hw
      have w0 := hw (strOf (V0 i)).data.toList.length (by simp [DataW.weights, DataW.weightsEach, Tryf.underlying32])
      have w1 := hw (strOf (V1 i)).data.toList.length (by simp [DataW.weights, DataW.weightsEach, Tryf.underlying32])
      rw [Array.length_toList] at w0 w1
      exact ⟨w0, w1⟩
set_option maxRecDepth 100000 in
/-- A parameter that came in. -/
theorem open_param {b0 : Nat} {v : Value} {d : DataW H} {p : List MemPlace} (hv : Value.okWide Tryf.prog W .any b0 32 v) (h : DataW.Trod enc Tryf.prog W 0 (fun _ => true) true 32 v d p) :
    ∃ x y : ByteArray, v = .agg #[.string x, .string y] ∧ (Reach 32 d → x.size ≤ 140737488355328 ∧ y.size ≤ 140737488355328) := by
  obtain ⟨c0, c1, y0, y1, m, rfl, rfl, rfl, g0, g1⟩ := open_agg2 Tryf.underlying32 (by kernel_rfl) (by kernel_rfl) hv h
  obtain ⟨s0, e0, rfl, _⟩ := DataW.trod_string Tryf.underlying9 g0
  obtain ⟨s1, e1, rfl, _⟩ := DataW.trod_string Tryf.underlying9 g1
  simp only [List.cons.injEq, and_true] at e0 e1
  subst e0 e1
  refine ⟨s0, s1, rfl, fun hw => ?_⟩
  have w0 := hw s0.data.toList.length (by simp [DataW.weights, DataW.weightsEach, Tryf.underlying32])
  have w1 := hw s1.data.toList.length (by simp [DataW.weights, DataW.weightsEach, Tryf.underlying32])
  rw [Array.length_toList] at w0 w1
  exact ⟨w0, w1⟩
/-- A row of parameters that came in. -/
theorem open_parsT {v : Value} {d : DataW H} {p : List MemPlace} {a0 : Option Addr} {len cap : Nat} (h : DataW.Trod enc Tryf.prog W 0 (fun _ => true) true 26 v d p) (hv : v = .slice a0 len cap) :
    ∃ (b off : Nat) (ps : List Par), (len ≤ cap ∧ cap ≤ 9223372036854775807) ∧ Pars W a0 len b off ps ∧ (Reach 26 d → ∀ q ∈ ps, q.1.size ≤ 140737488355328 ∧ q.2.size ≤ 140737488355328) := by
  subst hv
  obtain ⟨fuel, hf⟩ := h
  obtain ⟨a1, n1, c1, b, off, ps, e, hl, hp, hr⟩ := open_pars (v := .slice a0 len cap) hf
  injection e with e1 e2 e3
  subst e1 e2 e3
  exact ⟨b, off, ps, hl, hp, hr⟩
end
end Go.Proofs.YtoblpjknnchlmaaFmt

/- A request that came in: opened, with its numbers' bounds. -/
namespace Go.Proofs.YtoblpjknnchlmaaFmt
open Go.ChangeShapes Go.WideShapes Go.ChangeAt Go.RowKit Go.Joins

theorem array13q {α : Type} {cs : Array α} (h : cs.size = 13) : ∃ c0 c1 c2 c3 c4 c5 c6 c7 c8 c9 c10 c11 c12, cs = #[c0, c1, c2, c3, c4, c5, c6, c7, c8, c9, c10, c11, c12] := by
  obtain ⟨l⟩ := cs
  match l, h with
  | [c0, c1, c2, c3, c4, c5, c6, c7, c8, c9, c10, c11, c12], _ => exact ⟨c0, c1, c2, c3, c4, c5, c6, c7, c8, c9, c10, c11, c12, rfl⟩
theorem list3q {α : Type} {l : List α} (h : l.length = 3) : ∃ c0 c1 c2, l = [c0, c1, c2] := by
  match l, h with
  | [c0, c1, c2], _ => exact ⟨c0, c1, c2, rfl⟩
theorem list7q {α : Type} {l : List α} (h : l.length = 7) : ∃ c0 c1 c2 c3 c4 c5 c6, l = [c0, c1, c2, c3, c4, c5, c6] := by
  match l, h with
  | [c0, c1, c2, c3, c4, c5, c6], _ => exact ⟨c0, c1, c2, c3, c4, c5, c6, rfl⟩
section
variable {H : Type} {enc : TypeId × Value → H} {W : World}
set_option maxRecDepth 100000 in
/-- An origin among the cells of a greater thing. -/
theorem open_orgAt9 {fuel : Nat} {c0 c1 c2 : Value} {x : DataW H × List MemPlace} (h : DataW.trod enc Tryf.prog W 0 (fun _ => true) true fuel 23 [c0, c1, c2] = some x) :
    ∃ (s : Bool) (t : ByteArray) (p : Int), c0 = .bool s ∧ c1 = .string t ∧ c2 = .int .i64 p ∧ x.1 = .agg [.lit (.bool s), .lit (.string t.data.toList), .lit (.int .i64 p)] ∧ (Lit.int .i64 p).wf = true := by
  obtain ⟨xs, n, rfl, rfl, _, hlen, hff⟩ := DataW.trod_struct Tryf.underlying23 h
  obtain ⟨y0, y1, y2, rfl⟩ := list3q (hlen.trans rfl)
  have g0 : DataW.trod enc Tryf.prog W 0 (fun _ => true) true n 4 [c0] = some y0 := hff 0 _ rfl
  have g1 : DataW.trod enc Tryf.prog W 0 (fun _ => true) true n 9 [c1] = some y1 := hff 1 _ rfl
  have g2 : DataW.trod enc Tryf.prog W 0 (fun _ => true) true n 3 [c2] = some y2 := hff 2 _ rfl
  obtain ⟨s, e0, rfl⟩ := DataW.trod_bool Tryf.underlying4 g0
  obtain ⟨t, e1, rfl, _⟩ := DataW.trod_string Tryf.underlying9 g1
  obtain ⟨p, e2, rfl, wp⟩ := DataW.trod_int Tryf.underlying3 g2
  simp only [List.cons.injEq, and_true] at e0 e1 e2
  exact ⟨s, t, p, e0, e1, e2, rfl, wp⟩
set_option maxRecDepth 100000 in
set_option maxHeartbeats 2000000 in
theorem open_req9 {b0 : Nat} {v : Value} {d : DataW H} {p : List MemPlace} (hv : Value.okWide Tryf.prog W .any b0 28 v) (h : DataW.Trod enc Tryf.prog W 0 (fun _ => true) true 28 v d p) :
    ∃ (pt fp up : Int) (fs us wi : Bool) (fh uh pa qu me bo : ByteArray) (a0 : Option Addr) (len cap b off : Nat) (ps : List Par),
      v = .agg #[.int .i64 pt, .bool fs, .string fh, .int .i64 fp, .bool us, .string uh, .int .i64 up, .string pa, .string qu, .string me, .slice a0 len cap, .bool wi, .string bo] ∧
      ((Lit.int .i64 pt).wf = true ∧ (Lit.int .i64 fp).wf = true ∧ (Lit.int .i64 up).wf = true) ∧ (len ≤ cap ∧ cap ≤ 9223372036854775807) ∧ Pars W a0 len b off ps ∧
      (Reach 28 d → (fh.size ≤ 140737488355328 ∧ uh.size ≤ 140737488355328 ∧ pa.size ≤ 140737488355328 ∧ qu.size ≤ 140737488355328 ∧ me.size ≤ 140737488355328 ∧ bo.size ≤ 140737488355328) ∧ ∀ q ∈ ps, q.1.size ≤ 140737488355328 ∧ q.2.size ≤ 140737488355328) := by
  obtain ⟨cs, rfl, hsz⟩ := okWide_struct Tryf.underlying28 hv
  obtain ⟨c0, c1, c2, c3, c4, c5, c6, c7, c8, c9, c10, c11, c12, rfl⟩ := array13q (hsz.trans (by kernel_rfl))
  obtain ⟨fuel, hf⟩ := h
  obtain ⟨xs, n, _, hx, _, hlen, hff⟩ := DataW.trod_struct Tryf.underlying28 hf
  obtain ⟨y0, y1, y2, y3, y4, y5, y6, rfl⟩ := list7q (hlen.trans rfl)
  simp only [Prod.mk.injEq] at hx
  have g0 : DataW.trod enc Tryf.prog W 0 (fun _ => true) true n 3 [c0] = some y0 := hff 0 _ rfl
  have g1 : DataW.trod enc Tryf.prog W 0 (fun _ => true) true n 23 [c1, c2, c3] = some y1 := hff 1 _ rfl
  have g2 : DataW.trod enc Tryf.prog W 0 (fun _ => true) true n 25 [c4, c5, c6, c7, c8] = some y2 := hff 2 _ rfl
  have g3 : DataW.trod enc Tryf.prog W 0 (fun _ => true) true n 9 [c9] = some y3 := hff 3 _ rfl
  have g4 : DataW.trod enc Tryf.prog W 0 (fun _ => true) true n 26 [c10] = some y4 := hff 4 _ rfl
  have g5 : DataW.trod enc Tryf.prog W 0 (fun _ => true) true n 4 [c11] = some y5 := hff 5 _ rfl
  have g6 : DataW.trod enc Tryf.prog W 0 (fun _ => true) true n 9 [c12] = some y6 := hff 6 _ rfl
  obtain ⟨pt, e0, rfl, wpt⟩ := DataW.trod_int Tryf.underlying3 g0
  obtain ⟨fs, fh, fp, rfl, rfl, rfl, x1, wfp⟩ := open_orgAt9 g1
  obtain ⟨us', m, rfl, hx2, _, hlen2, hff2⟩ := DataW.trod_struct Tryf.underlying25 g2
  obtain ⟨u0, u1, u2, rfl⟩ := list3q (hlen2.trans rfl)
  have q0 : DataW.trod enc Tryf.prog W 0 (fun _ => true) true m 23 [c4, c5, c6] = some u0 := hff2 0 _ rfl
  have q1 : DataW.trod enc Tryf.prog W 0 (fun _ => true) true m 9 [c7] = some u1 := hff2 1 _ rfl
  have q2 : DataW.trod enc Tryf.prog W 0 (fun _ => true) true m 9 [c8] = some u2 := hff2 2 _ rfl
  obtain ⟨us, uh, up, rfl, rfl, rfl, z0, wup⟩ := open_orgAt9 q0
  obtain ⟨pa, e7, rfl, _⟩ := DataW.trod_string Tryf.underlying9 q1
  obtain ⟨qu, e8, rfl, _⟩ := DataW.trod_string Tryf.underlying9 q2
  obtain ⟨me, e9, rfl, _⟩ := DataW.trod_string Tryf.underlying9 g3
  obtain ⟨a0, len, cap, b, off, ps, rfl, hl, hp, hr⟩ := open_pars g4
  obtain ⟨wi, e11, rfl⟩ := DataW.trod_bool Tryf.underlying4 g5
  obtain ⟨bo, e12, rfl, _⟩ := DataW.trod_string Tryf.underlying9 g6
  simp only [List.cons.injEq, and_true] at e0 e7 e8 e9 e11 e12
  subst e0 e7 e8 e9 e11 e12
  refine ⟨pt, fp, up, fs, us, wi, fh, uh, pa, qu, me, bo, a0, len, cap, b, off, ps, rfl, ⟨wpt, wfp, wup⟩, hl, hp, fun hw => ?_⟩
  have hd := hx.1
  simp only [List.map_cons, List.map_nil, x1, hx2, z0] at hd
  subst hd
  have w1 := hw fh.data.toList.length (by simp [DataW.weights, DataW.weightsEach, Tryf.underlying28, Tryf.underlying23])
  have w2 := hw uh.data.toList.length (by simp [DataW.weights, DataW.weightsEach, Tryf.underlying28, Tryf.underlying23, Tryf.underlying25])
  have w3 := hw pa.data.toList.length (by simp [DataW.weights, DataW.weightsEach, Tryf.underlying28, Tryf.underlying23, Tryf.underlying25])
  have w4 := hw qu.data.toList.length (by simp [DataW.weights, DataW.weightsEach, Tryf.underlying28, Tryf.underlying23, Tryf.underlying25])
  have w5 := hw me.data.toList.length (by simp [DataW.weights, DataW.weightsEach, Tryf.underlying28])
  have w6 := hw bo.data.toList.length (by simp [DataW.weights, DataW.weightsEach, Tryf.underlying28])
  rw [Array.length_toList] at w1 w2 w3 w4 w5 w6
  refine ⟨⟨w1, w2, w3, w4, w5, w6⟩, hr fun k hk => hw k ?_⟩
  simp only [DataW.weights, Tryf.underlying28]
  simp [DataW.weightsEach, hk]
end
end Go.Proofs.YtoblpjknnchlmaaFmt

/- What the two tables hold, by what the row lays. -/
namespace Go.Proofs.YtoblpjknnchlmaaFmt
open Go.RowKit

theorem pow_data : (Rows.laid_internal_strconv_uint64pow10 : DataW Unit) = Lib.tabData .u64 Lib.pow10Tab := by rfl
theorem pow_laid {W : World} (h : Lib.VarReads Tryf.prog W "internal/strconv.uint64pow10" Rows.laid_internal_strconv_uint64pow10) : Lib.TabIs Tryf.prog W "internal/strconv.uint64pow10" .u64 Lib.pow10Tab := by
  obtain ⟨g', t', cs, fuel, p, hg, hty, hvar, hd⟩ := h
  have hn : Tryf.prog.globalNamed "internal/strconv.uint64pow10" = some 1 := by kernel_rfl
  have ht : (Tryf.prog.globals[1]?).map (·.type) = some 67 := by kernel_rfl
  obtain rfl := Option.some.inj (hn.symm.trans hg)
  obtain rfl := Option.some.inj (ht.symm.trans hty)
  rw [pow_data] at hd
  unfold Lib.TabIs
  rw [hvar, ← Lib.cells_of_tab Tryf.underlying67 Tryf.underlying61 (by kernel_rfl) (by kernel_rfl) hd]
theorem env_laid {W : World} (h1 : Lib.VarReads Tryf.prog W "gatepost/url.schemes" Rows.laid_gatepost_url_schemes) (h2 : Lib.VarReads Tryf.prog W "internal/strconv.uint64pow10" Rows.laid_internal_strconv_uint64pow10) : Env W := ⟨schemes_laid h1, pow_laid h2⟩
end Go.Proofs.YtoblpjknnchlmaaFmt
