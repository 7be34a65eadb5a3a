/- Texts of one claim, joined: each begins with what it proves. -/
import Derived.Test.YthoblggjhdnlpaaGreatDoorJo6
import Derived.Test.YthoblggjhdnlpaaGreatDoorJo1
import Derived.Test.YthoblggjhdnlpaaGreatDoorJo4
import Derived.Test.YthoblggjhdnlpaaGreatDoorJo5
import Derived.Test.YthoblggjhdnlpaaGreatDoorJo3
import Derived.Lib.ItoaLen
import Derived.Deep.RegionHeld3
import Derived.RegionTactic
import Derived.Deep.Cut
import Derived.Deep.CutRange
import Derived.Deep.DeepCutAuto
/- An origin as text, by the program. -/
namespace Go.Proofs.YthoblggjhdnlpaaGreatDoor
open Go.RowKit

/-- What a text of an origin leans on: the two tables. -/
structure Env (w : World) : Prop where
  sch : Schemes w
  tab : Lib.TabIs Tryz.prog w "internal/strconv.uint64pow10" .u64 Lib.pow10Tab
theorem Env.below {w w' : World} (h : Env w) {H : Nat} (hb : Below H w w') (hH : w.heap.size ≤ H) : Env w' :=
  ⟨h.sch.below hb hH, Joins.tab_stays (g := 5) (by kernel_rfl) h.tab hb hH⟩
def tailT (sec : Bool) (port : Int) : List UInt8 := if port = portI sec then [] else 58 :: Lib.itoa port
def textL (sec : Bool) (host : List UInt8) (port : Int) : List UInt8 := (markOf sec).data.toList ++ host ++ tailT sec port
structure TKeep (w W : World) : Prop where
  env : Env W
  bel : Below w.heap.size w W
  siz : w.heap.size < W.heap.size

theorem TKeep.step {w W W' : World} (h : TKeep w W) (hb : Below W.heap.size W W') : TKeep w W' :=
  ⟨h.env.below hb (Nat.le_refl _), h.bel.trans (hb.mono h.bel.size), Nat.lt_of_lt_of_le h.siz hb.size⟩

theorem keepQ {w W W' : World} {a b : Nat} {x y z : Value} (h : W.cell? ⟨a, 1, none⟩ = some x ∧ W.cell? ⟨a, 2, none⟩ = some y ∧ W.cell? ⟨b, 0, none⟩ = some z ∧ TKeep w W) (_hab : a < b) (hb : Below W.heap.size W W') :
    W'.cell? ⟨a, 1, none⟩ = some x ∧ W'.cell? ⟨a, 2, none⟩ = some y ∧ W'.cell? ⟨b, 0, none⟩ = some z ∧ TKeep w W' := by
  obtain ⟨h1, h2, h3, h4⟩ := h
  exact ⟨(hb.cell (p := ⟨a, 1, none⟩) (lt_of_cell h1)).trans h1, (hb.cell (p := ⟨a, 2, none⟩) (lt_of_cell h2)).trans h2, (hb.cell (p := ⟨b, 0, none⟩) (lt_of_cell h3)).trans h3, h4.step hb⟩
set_option maxRecDepth 100000 in
set_option maxHeartbeats 1000000 in
theorem text_any (sec : Bool) (host : ByteArray) (port : Int) (hs : host.size ≤ 4000) (h0 : -9223372036854775808 ≤ port) (h1 : port ≤ 9223372036854775807) (w : World) (h : Env w) :
    Calls Tryz.prog 21 #[.agg #[.bool sec, .string host, .int .i64 port]] w fun e w' => e = .returned (.string (bs (textL sec host.data.toList port))) ∧ Below w.heap.size w w' := by
  have hS : TKeep w (w.alloc (.cells #[.bool sec, .string host, .int .i64 port] 23)) := by
    have hb : Below w.heap.size w (w.alloc (.cells #[.bool sec, .string host, .int .i64 port] 23)) := (Below.refl _ _).alloc (Nat.le_refl _) _
    exact ⟨h.below hb (Nat.le_refl _), hb, by simp⟩
  obtain ⟨mk, HM⟩ : ∃ mk : ByteArray, Hid (markOf sec = mk) := ⟨_, rfl⟩
  have hmk : mk.size ≤ 8 := by rw [← HM.out]; cases sec <;> decide
  obtain ⟨pt, HP⟩ : ∃ pt : Int, Hid (portI sec = pt) := ⟨_, rfl⟩
  by_cases hp : port = pt
  · subst hp
    have HR : Hid (bs (textL sec host.data.toList port) = mk ++ host) := by
      show _ = _
      unfold textL tailT
      rw [HM.out, HP.out, if_pos rfl, List.append_nil, bs_append, bs_self, bs_self]
    go_enter Tryz.func21, Tryz.ntmps21
    go_wp2_with fail
    refine (schemeOf_any sec _ hS.env.sch).mono ?_
    rintro e w1 ⟨rfl, hb1⟩
    rw [HM.out, HP.out]
    have hT := hS.step hb1
    have k1 : ∀ o, (w1.alloc o).cell? ⟨w.heap.size, 1, none⟩ = some (.string host) := fun o => (World.cell?_alloc_lt (w := w1) (o := o) (a := ⟨w.heap.size, 1, none⟩) (h := hT.siz)).trans ((hb1.cell (p := ⟨w.heap.size, 1, none⟩) (by simp)).trans (cells_new _ _ _ 1))
    have k2 : ∀ o, (w1.alloc o).cell? ⟨w.heap.size, 2, none⟩ = some (.int .i64 port) := fun o => (World.cell?_alloc_lt (w := w1) (o := o) (a := ⟨w.heap.size, 2, none⟩) (h := hT.siz)).trans ((hb1.cell (p := ⟨w.heap.size, 2, none⟩) (by simp)).trans (cells_new _ _ _ 2))
    go_wp2
    go_ret
    exact ⟨ret_str HR.out.symm, hT.bel.trans ((Below.refl _ _).alloc (Nat.le_refl _) _ |>.mono hT.bel.size)⟩
  · have hpq : (port == pt) = false := beq_eq_false_iff_ne.2 hp
    have HR : Hid (bs (textL sec host.data.toList port) = mk ++ host ++ bs [58] ++ bs (Lib.itoa port)) := by
      show _ = _
      unfold textL tailT
      rw [HM.out, HP.out, if_neg hp, bs_append, bs_append, bs_self, bs_self, ← List.singleton_append, bs_append]
      simp only [ByteArray.append_assoc]
    obtain ⟨tx, HTX⟩ : ∃ tx : ByteArray, Hid (bs (Lib.itoa port) = tx) := ⟨_, rfl⟩
    have htx : tx.size ≤ 21 := by rw [← HTX.out, bs_size]; exact Lib.itoa_length_le port h0 h1
    have a1 := fun W => run_string_add_sum (P := Tryz.prog) W mk host (by omega)
    have a2 := fun W => run_string_add_sum (P := Tryz.prog) W (mk ++ host) ⟨#[58]⟩ (by simp [ByteArray.size_append]; have : (⟨#[58]⟩ : ByteArray).size = 1 := rfl; omega)
    have a3 := fun W => run_string_add_sum (P := Tryz.prog) W (mk ++ host ++ ⟨#[58]⟩) tx (by simp only [ByteArray.size_append]; have : (⟨#[58]⟩ : ByteArray).size = 1 := rfl; omega)
    go_enter Tryz.func21, Tryz.ntmps21
    go_wp2_with fail
    refine (schemeOf_any sec _ hS.env.sch).mono ?_
    rintro e w1 ⟨rfl, hb1⟩
    rw [HM.out, HP.out]
    have hT := hS.step hb1
    have k1 : ∀ o, (w1.alloc o).cell? ⟨w.heap.size, 1, none⟩ = some (.string host) := fun o => (World.cell?_alloc_lt (w := w1) (o := o) (a := ⟨w.heap.size, 1, none⟩) (h := hT.siz)).trans ((hb1.cell (p := ⟨w.heap.size, 1, none⟩) (by simp)).trans (cells_new _ _ _ 1))
    have k2 : ∀ o, (w1.alloc o).cell? ⟨w.heap.size, 2, none⟩ = some (.int .i64 port) := fun o => (World.cell?_alloc_lt (w := w1) (o := o) (a := ⟨w.heap.size, 2, none⟩) (h := hT.siz)).trans ((hb1.cell (p := ⟨w.heap.size, 2, none⟩) (by simp)).trans (cells_new _ _ _ 2))
    go_wp2
    have hQ : (w1.alloc (.cells #[.string mk, .bool sec, .int .i64 pt] 90)).drew.cell? ⟨w.heap.size, 1, none⟩ = some (.string host) ∧ (w1.alloc (.cells #[.string mk, .bool sec, .int .i64 pt] 90)).drew.cell? ⟨w.heap.size, 2, none⟩ = some (.int .i64 port) ∧ (w1.alloc (.cells #[.string mk, .bool sec, .int .i64 pt] 90)).drew.cell? ⟨w1.heap.size, 0, none⟩ = some (.string mk) ∧ TKeep w (w1.alloc (.cells #[.string mk, .bool sec, .int .i64 pt] 90)).drew :=
      ⟨k1 _, k2 _, cells_new _ _ _ 0, hT.step (((Below.refl _ _).alloc (Nat.le_refl _) _).drew)⟩
    go_region_held3 (fun W => W.cell? ⟨w.heap.size, 1, none⟩ = some (.string host) ∧ W.cell? ⟨w.heap.size, 2, none⟩ = some (.int .i64 port) ∧ W.cell? ⟨w1.heap.size, 0, none⟩ = some (.string mk) ∧ TKeep w W) (first | assumption | exact hQ) (
      (go_at_call 46; refine (itoa_any port h0 h1 _ (TKeep.env (And.right (And.right (And.right (by assumption))))).tab).mono ?_; rintro e w3 ⟨rfl, hb3⟩; rw [HTX.out]; have hQ3 := keepQ (a := w.heap.size) (b := w1.heap.size) (by assumption) hT.siz hb3))
    go_wp2
    go_ret
    exact ⟨ret_str (by rw [HR.out, HTX.out]; rfl), hQ3.2.2.2.bel⟩
end Go.Proofs.YthoblggjhdnlpaaGreatDoor

/- May: whether an answer may be seen by a request's origin, by the program. -/
namespace Go.Proofs.YthoblggjhdnlpaaGreatDoor
open Go.RowKit

set_option maxRecDepth 100000 in
set_option maxHeartbeats 4000000 in
theorem may9_any (ps : List Par) (hf : Few9 ps) (a0 : Option Addr) (len cap b off : Nat) (pt fp up : Int) (fs us : Bool) (fh uh pa qu me bo : ByteArray) (ra : Option Addr) (rl rc : Nat) (wi : Bool) (hfh : fh.size ≤ 4000) (h0 : -9223372036854775808 ≤ fp) (h1 : fp ≤ 9223372036854775807) (w : World) (he : Env w) (hx : Pars w a0 len b off ps) :
    Calls Tryz.prog 10 #[.agg #[.int .i64 pt, .bool fs, .string fh, .int .i64 fp, .bool us, .string uh, .int .i64 up, .string pa, .string qu, .string me, .slice ra rl rc, .bool wi, .string bo], .slice a0 len cap] w fun e w' => e = .returned (.bool (mayL wi (textL fs fh.data.toList fp) ps)) ∧ Below w.heap.size w w' := by
  obtain ⟨x, HXE⟩ : ∃ x, Hid (bs (fieldT oN ps) = x) := ⟨_, rfl⟩
  obtain ⟨c, HCE⟩ : ∃ c, Hid (bs (fieldT cN ps) = c) := ⟨_, rfl⟩
  obtain ⟨t, HTE⟩ : ∃ t, Hid (bs (textL fs fh.data.toList fp) = t) := ⟨_, rfl⟩
  have HA : Hid (mayL wi (textL fs fh.data.toList fp) ps = mayB wi x t c) := by show _ = _; rw [mayL_is, HXE.out, HCE.out, HTE.out]
  have HQ : Hid (BoxQ 28 w #[.int .i64 pt, .bool fs, .string fh, .int .i64 fp, .bool us, .string uh, .int .i64 up, .string pa, .string qu, .string me, .slice ra rl rc, .bool wi, .string bo] (w.alloc (.cells #[.int .i64 pt, .bool fs, .string fh, .int .i64 fp, .bool us, .string uh, .int .i64 up, .string pa, .string qu, .string me, .slice ra rl rc, .bool wi, .string bo] 28))) := BoxQ.new _ _ _
  have HGO : Hid (∀ W, Below w.heap.size w W → ∃ f : Bool, Calls Tryz.prog 19 #[.slice a0 len cap, .string ⟨#[65, 99, 99, 101, 115, 115, 45, 67, 111, 110, 116, 114, 111, 108, 45, 65, 108, 108, 111, 119, 45, 79, 114, 105, 103, 105, 110]⟩] W fun e w' => e = .returned (.tuple #[.string x, .bool f]) ∧ Below W.heap.size W w') := fun W hW => ⟨_, by
    have := get9_any ps hf ⟨#[65, 99, 99, 101, 115, 115, 45, 67, 111, 110, 116, 114, 111, 108, 45, 65, 108, 108, 111, 119, 45, 79, 114, 105, 103, 105, 110]⟩ (by decide) a0 len cap b off W (hx.below hW)
    rw [← oN_is, HXE.out] at this
    exact this⟩
  have HGC : Hid (∀ W, Below w.heap.size w W → ∃ f : Bool, Calls Tryz.prog 19 #[.slice a0 len cap, .string ⟨#[65, 99, 99, 101, 115, 115, 45, 67, 111, 110, 116, 114, 111, 108, 45, 65, 108, 108, 111, 119, 45, 67, 114, 101, 100, 101, 110, 116, 105, 97, 108, 115]⟩] W fun e w' => e = .returned (.tuple #[.string c, .bool f]) ∧ Below W.heap.size W w') := fun W hW => ⟨_, by
    have := get9_any ps hf ⟨#[65, 99, 99, 101, 115, 115, 45, 67, 111, 110, 116, 114, 111, 108, 45, 65, 108, 108, 111, 119, 45, 67, 114, 101, 100, 101, 110, 116, 105, 97, 108, 115]⟩ (by decide) a0 len cap b off W (hx.below hW)
    rw [← cN_is, HCE.out] at this
    exact this⟩
  have HGT : Hid (∀ W, Below w.heap.size w W → Calls Tryz.prog 21 #[.agg #[.bool fs, .string fh, .int .i64 fp]] W fun e w' => e = .returned (.string t) ∧ Below W.heap.size W w') := fun W hW => by
    have := text_any fs fh fp hfh h0 h1 W (he.below hW (Nat.le_refl _))
    rw [HTE.out] at this
    exact this
  clear hf hx he HXE HCE HTE h0 h1 hfh
  obtain ⟨q, HQ1⟩ : ∃ q, Hid ((x.toList == [42]) = q) := ⟨_, rfl⟩
  obtain ⟨r, HQ2⟩ : ∃ r, Hid ((x.toList == t.toList) = r) := ⟨_, rfl⟩
  have q1 : (x.toList == [42]) = q := HQ1.out
  have q2 : (x.toList == t.toList) = r := HQ2.out
  have HB : Hid (mayB wi x t c = (!wi && q || (r && (!wi || c.toList == [116, 114, 117, 101])))) := by show _ = _; unfold mayB; rw [q1, q2]
  go_enter Tryz.func10, Tryz.ntmps10
  go_wp2_with fail
  obtain ⟨f, hg⟩ := HGO.out _ HQ.out.bel
  refine hg.mono ?_
  rintro e w1 ⟨rfl, hb1⟩
  have HQ1' : Hid (BoxQ 28 w #[.int .i64 pt, .bool fs, .string fh, .int .i64 fp, .bool us, .string uh, .int .i64 up, .string pa, .string qu, .string me, .slice ra rl rc, .bool wi, .string bo] w1) := HQ.out.step hb1
  clear hg hb1 HQ HGO
  have c1 := HQ1'.out.at 1 _ rfl
  have c2 := HQ1'.out.at 2 _ rfl
  have c3 := HQ1'.out.at 3 _ rfl
  have c11 := HQ1'.out.at 11 _ rfl
  cases wi
  · cases q
    · go_wp2_with fail
      obtain ⟨f2, hg⟩ := HGC.out _ HQ1'.out.bel
      refine hg.mono ?_
      rintro e w2 ⟨rfl, hb2⟩
      have HQ2' : Hid (BoxQ 28 w #[.int .i64 pt, .bool fs, .string fh, .int .i64 fp, .bool us, .string uh, .int .i64 up, .string pa, .string qu, .string me, .slice ra rl rc, .bool false, .string bo] w2) := HQ1'.out.step hb2
      clear hg hb2 c1 c2 c3 c11
      have c1 := HQ2'.out.at 1 _ rfl
      have c2 := HQ2'.out.at 2 _ rfl
      have c3 := HQ2'.out.at 3 _ rfl
      have c11 := HQ2'.out.at 11 _ rfl
      go_wp2_with fail
      refine (HGT.out _ HQ2'.out.bel).mono ?_
      rintro e w3 ⟨rfl, hb3⟩
      have HQ3' : Hid (BoxQ 28 w #[.int .i64 pt, .bool fs, .string fh, .int .i64 fp, .bool us, .string uh, .int .i64 up, .string pa, .string qu, .string me, .slice ra rl rc, .bool false, .string bo] w3) := HQ2'.out.step hb3
      clear hb3 c1 c2 c3 c11
      have c11 := HQ3'.out.at 11 _ rfl
      cases r
      · go_wp2
        go_ret
        exact ⟨ret_bool (by rw [HA.out, HB.out]; rfl), HQ3'.out.bel⟩
      · go_wp2
        go_ret
        exact ⟨ret_bool (by rw [HA.out, HB.out]; rfl), HQ3'.out.bel⟩
    · go_wp2
      go_ret
      exact ⟨ret_bool (by rw [HA.out, HB.out]; rfl), HQ1'.out.bel⟩
  · go_wp2_with fail
    obtain ⟨f2, hg⟩ := HGC.out _ HQ1'.out.bel
    refine hg.mono ?_
    rintro e w2 ⟨rfl, hb2⟩
    have HQ2' : Hid (BoxQ 28 w #[.int .i64 pt, .bool fs, .string fh, .int .i64 fp, .bool us, .string uh, .int .i64 up, .string pa, .string qu, .string me, .slice ra rl rc, .bool true, .string bo] w2) := HQ1'.out.step hb2
    clear hg hb2 c1 c2 c3 c11
    have c1 := HQ2'.out.at 1 _ rfl
    have c2 := HQ2'.out.at 2 _ rfl
    have c3 := HQ2'.out.at 3 _ rfl
    have c11 := HQ2'.out.at 11 _ rfl
    go_wp2_with fail
    refine (HGT.out _ HQ2'.out.bel).mono ?_
    rintro e w3 ⟨rfl, hb3⟩
    have HQ3' : Hid (BoxQ 28 w #[.int .i64 pt, .bool fs, .string fh, .int .i64 fp, .bool us, .string uh, .int .i64 up, .string pa, .string qu, .string me, .slice ra rl rc, .bool true, .string bo] w3) := HQ2'.out.step hb3
    clear hb3 c1 c2 c3 c11
    have c11 := HQ3'.out.at 11 _ rfl
    cases r
    · go_wp2
      go_ret
      exact ⟨ret_bool (by rw [HA.out, HB.out]; cases q <;> rfl), HQ3'.out.bel⟩
    · go_wp2
      go_ret
      exact ⟨ret_bool (by rw [HA.out, HB.out]; cases q <;> simp), HQ3'.out.bel⟩
end Go.Proofs.YthoblggjhdnlpaaGreatDoor

/- A number of seconds, by the program. -/
namespace Go.Proofs.YthoblggjhdnlpaaGreatDoor
open Go.RowKit

theorem empty_of {s : ByteArray} (h : s.size = 0) : s = ⟨#[]⟩ := by
  apply ByteArray.ext
  exact Array.eq_empty_of_size_eq_zero h
theorem not_empty {s : ByteArray} (h : s.size ≠ 0) : (s.toList == ([] : List UInt8)) = false := by
  rw [beq_eq_false_iff_ne]
  intro e
  have h5 : s.data.toList = [] := by
    rw [← ByteArray.toList_eq]
    exact e
  have h6 : s.data.toList.length = s.size := Array.length_toList
  rw [h5] at h6
  exact h h6.symm
theorem secL_empty : secL (⟨#[]⟩ : ByteArray).data.toList = none := rfl
theorem secL_none (s : ByteArray) (h : runL digB s.data.toList < s.size) : secL s.data.toList = none := by
  unfold secL
  rw [if_pos]
  right
  have h2 := runL_all digB s.data.toList
  have h3 : s.data.toList.length = s.size := Array.length_toList
  cases h4 : s.data.toList.all digB
  · rfl
  · have := h2.2 h4
    omega
theorem secL_some (s : ByteArray) (h0 : s.size ≠ 0) (h : ¬ runL digB s.data.toList < s.size) : secL s.data.toList = some (secN 0 s.data.toList) ∧ s.data.toList.all digB = true := by
  have h2 := runL_all digB s.data.toList
  have h3 : s.data.toList.length = s.size := Array.length_toList
  have h4 := runL_le digB s.data.toList
  have h5 : s.data.toList.all digB = true := h2.1 (by omega)
  refine ⟨?_, h5⟩
  unfold secL
  rw [if_neg]
  rintro (h6 | h6)
  · rw [h6] at h3
    exact h0 h3.symm
  · rw [h5] at h6
    cases h6
theorem secStep_int (n : Nat) (c : UInt8) (h : digB c = true) (x : Int) (hx : x = (n : Int)) : ((secStep n c : Nat) : Int) = min (10 * x + ((c.toNat : Int) - 48)) 2147483648 := by
  subst hx
  have h1 := of_decide_eq_true h
  unfold secStep
  omega
/-- What it answers: a number, or ErrForm. -/
def SecAns (s : ByteArray) (e : Ending) : Prop :=
  (∃ n : Nat, secL s.data.toList = some n ∧ n ≤ 2147483648 ∧ e = .returned (.tuple #[.int .i64 (n : Int), .nilIface])) ∨ (secL s.data.toList = none ∧ e = .returned (.tuple #[.int .i64 0, .iface 54 (.int .i64 3)]))
set_option maxRecDepth 100000 in
set_option maxHeartbeats 1000000 in
theorem seconds_any (s : ByteArray) (hs : s.size ≤ 20000) (w : World) :
    Calls Tryz.prog 20 #[.string s] w fun e w' => SecAns s e ∧ w' = w := by
  by_cases h0 : s.size = 0
  · obtain rfl := empty_of h0
    have HA : Hid (secL (⟨#[]⟩ : ByteArray).data.toList = none) := secL_empty
    go_enter Tryz.func20, Tryz.ntmps20
    go_wp2
    go_ret2
    exact ⟨.inr ⟨HA, rfl⟩, rfl⟩
  · have hne := not_empty h0
    by_cases hr : runL digB s.data.toList < s.size
    · have HA : Hid (secL s.data.toList = none) := secL_none s hr
      obtain ⟨n, HN, hn⟩ : ∃ n : Nat, Hid (runL digB s.data.toList = n) ∧ n < s.size := ⟨_, rfl, hr⟩
      clear hr h0
      go_enter Tryz.func20, Tryz.ntmps20
      go_wp2_with (go_at_call 43; refine (run_any _ _ kind_digit s (by omega) _).mono ?_; rintro e w' ⟨rfl, hw⟩; obtain rfl := hw.symm; rw [HN.out])
      go_ret2
      exact ⟨.inr ⟨HA, rfl⟩, rfl⟩
    · obtain ⟨hsome, hall⟩ := secL_some s h0 hr
      have HA : Hid (secL s.data.toList = some (secN 0 s.data.toList)) := hsome
      have HL : Hid (s.data.toList.all digB = true) := hall
      have HN : Hid (runL digB s.data.toList = s.size) := by
        show _ = _
        have h3 : s.data.toList.length = s.size := Array.length_toList
        rw [(runL_all digB s.data.toList).2 hall, h3]
      clear hsome hall hr h0
      go_enter Tryz.func20, Tryz.ntmps20
      go_wp2_with (go_at_call 43; refine (run_any _ _ kind_digit s (by omega) _).mono ?_; rintro e w' ⟨rfl, hw⟩; obtain rfl := hw.symm; rw [HN.out])
      go_loop [4, 18] (fun v i => ∃ (k : Nat) (x : Int), k ≤ s.size ∧ i = .int .i64 k ∧ v = .int .i64 x ∧ 0 ≤ x ∧ x ≤ 2147483648 ∧ Hid (x = ((secN 0 (s.data.toList.take k) : Nat) : Int))) (fun _ i => s.size - (intOf i).toNat)
      case atStart => exact ⟨0, 0, Nat.zero_le _, rfl, rfl, by omega, by omega, rfl⟩
      case round =>
        obtain ⟨k, x, hk, rfl, rfl, hx0, hx1, HX⟩ := hrel
        by_cases hlt : k < s.size
        · obtain ⟨c, hcd⟩ : ∃ c : UInt8, s[k] = c := ⟨_, rfl⟩
          have hd : digB c = true := by
            refine List.all_eq_true.1 HL.out c ?_
            rw [← hcd]
            exact List.getElem_mem (l := s.data.toList) (by simpa using hlt)
          have hc1 : 48 ≤ (c.toNat : Int) := by have := of_decide_eq_true hd; omega
          have hc2 : (c.toNat : Int) ≤ 57 := by have := of_decide_eq_true hd; omega
          have HS : Hid (((secN 0 (s.data.toList.take (k + 1)) : Nat) : Int) = min (10 * x + ((c.toNat : Int) - 48)) 2147483648) := by
            show _ = _
            rw [take_snoc s k hlt, hcd, secN_snoc, secStep_int _ _ hd x HX.out]
          clear hd
          go_wp2
          go_round
          case rel => exact ⟨k + 1, _, by omega, by go_num, rfl, by omega, by omega, by show _ = _; rw [HS.out]⟩
          case measure => simp [intOf]; omega
        · have HE : Hid (((secN 0 s.data.toList : Nat) : Int) = x) := by
            show _ = _
            rw [HX.out, List.take_of_length_le (by simp; omega)]
          have hle := secN_le 0 s.data.toList (by omega)
          go_wp2
          go_ret2
          exact ⟨.inl ⟨_, HA, hle, by rw [HE.out]; rfl⟩, rfl⟩
end Go.Proofs.YthoblggjhdnlpaaGreatDoor

/- Age: how long an answer counts, by the program. -/
namespace Go.Proofs.YthoblggjhdnlpaaGreatDoor
open Go.RowKit

set_option maxRecDepth 100000 in
set_option maxHeartbeats 4000000 in
theorem age9_any (ps : List Par) (hf : Few9 ps) (a0 : Option Addr) (len cap b off : Nat) (w : World) (hx : Pars w a0 len b off ps) :
    Calls Tryz.prog 9 #[.slice a0 len cap] w fun e w' => e = .returned (.int .i64 (ageL ps)) ∧ Below w.heap.size w w' := by
  obtain ⟨x, HXE⟩ : ∃ x, Hid (bs (fieldT aN ps) = x) := ⟨_, rfl⟩
  have hxz : x.size ≤ 20000 := by rw [← HXE.out, bs_size]; exact Nat.le_trans (hf.len aN) (by decide)
  have HXL : Hid (fieldT aN ps = x.data.toList) := by show _ = _; rw [← HXE.out, bs_data]
  have hg := get9_any ps hf ⟨#[65, 99, 99, 101, 115, 115, 45, 67, 111, 110, 116, 114, 111, 108, 45, 77, 97, 120, 45, 65, 103, 101]⟩ (by decide) a0 len cap b off w hx
  rw [← aN_is, HXE.out] at hg
  clear hf hx
  go_enter Tryz.func9, Tryz.ntmps9
  go_wp2_with fail
  refine hg.mono ?_
  rintro e w1 ⟨rfl, hb1⟩
  have HB1 : Hid (Below w.heap.size w w1) := hb1
  clear hb1 hg
  go_wp2_with fail
  refine (seconds_any x hxz _).mono ?_
  rintro e w2 ⟨⟨n, hn, hn2, rfl⟩ | ⟨hn, rfl⟩, hw⟩
  · obtain rfl := hw.symm
    have HA : Hid (ageL ps = min (n : Int) 600) := by show _ = _; unfold ageL; rw [HXL.out, hn]
    clear hn
    go_wp2
    go_ret
    exact ⟨by rw [HA.out]; rfl, HB1.out⟩
  · obtain rfl := hw.symm
    have HA : Hid (ageL ps = 5) := by show _ = _; unfold ageL; rw [HXL.out, hn]
    clear hn
    go_wp2
    go_ret
    exact ⟨by rw [HA.out]; rfl, HB1.out⟩
end Go.Proofs.YthoblggjhdnlpaaGreatDoor

/- An origin that shares nothing with another one, by the program. -/
namespace Go.Proofs.YthoblggjhdnlpaaGreatDoor
open Go.RowKit
set_option linter.unusedVariables false

set_option maxRecDepth 100000 in
set_option maxHeartbeats 2000000 in
theorem fresh9_any (sec : Bool) (host : ByteArray) (port : Int) (ho : host.size ≤ 140737488355328) (w : World) :
    Calls Tryz.prog 36 #[.agg #[.bool sec, .string host, .int .i64 port]] w fun e w' => e = .returned (.agg #[.bool sec, .string host, .int .i64 port]) ∧ Below w.heap.size w w' := by
  have hb0 : Below w.heap.size w ((w.alloc (.cells #[.bool sec, .string host, .int .i64 port] 23)).alloc (.cells #[.bool false, .string ⟨#[]⟩, .int .i64 0] 23)) := ((Below.refl _ _).alloc (Nat.le_refl _) _).alloc (by simp) _
  have h1 : ((w.alloc (.cells #[.bool sec, .string host, .int .i64 port] 23)).alloc (.cells #[.bool false, .string ⟨#[]⟩, .int .i64 0] 23)).heap[w.heap.size]? = some (.cells #[.bool sec, .string host, .int .i64 port] 23 (0, 0)) := by
    rw [heap_alloc_old _ _ (by simp)]
    exact heap_alloc_new w _
  have h2 : ((w.alloc (.cells #[.bool sec, .string host, .int .i64 port] 23)).alloc (.cells #[.bool false, .string ⟨#[]⟩, .int .i64 0] 23)).heap[w.heap.size + 1]? = some (.cells #[.bool false, .string ⟨#[]⟩, .int .i64 0] 23 (0, 0)) := by
    have := heap_alloc_new (w.alloc (.cells #[.bool sec, .string host, .int .i64 port] 23)) (.cells #[.bool false, .string ⟨#[]⟩, .int .i64 0] 23)
    simpa using this
  have HW : Hid (Below w.heap.size w ((w.alloc (.cells #[.bool sec, .string host, .int .i64 port] 23)).alloc (.cells #[.bool false, .string ⟨#[]⟩, .int .i64 0] 23)) ∧ _ ∧ _) := ⟨hb0, h1, h2⟩
  clear hb0 h1 h2
  go_enter Tryz.func36, Tryz.ntmps36
  go_wp2_with fail
  refine (cloneS_any _ ho _).mono ?_
  rintro e w1 ⟨rfl, hb1⟩
  have HB : Hid (Below w.heap.size w w1 ∧ w1.heap[w.heap.size]? = some (.cells #[.bool sec, .string host, .int .i64 port] 23 (0, 0)) ∧ w1.heap[w.heap.size + 1]? = some (.cells #[.bool false, .string ⟨#[]⟩, .int .i64 0] 23 (0, 0))) :=
    ⟨HW.out.1.trans (hb1.mono HW.out.1.size), by rw [hb1.block _ (by simp; omega)]; exact HW.out.2.1, by rw [hb1.block _ (by simp)]; exact HW.out.2.2⟩
  clear hb1 HW
  have c0 := cell_of (i := 0) HB.out.2.1
  have c1 := cell_of (i := 1) HB.out.2.1
  have c2 := cell_of (i := 2) HB.out.2.1
  have d0 := cell_of (i := 0) HB.out.2.2
  have d1 := cell_of (i := 1) HB.out.2.2
  have d2 := cell_of (i := 2) HB.out.2.2
  have f0 := free_of HB.out.2.1
  have f1 := free_of HB.out.2.2
  have s1 : w1.setCell ⟨w.heap.size, 1, none⟩ (.string host) = w1 := setCell_same HB.out.2.1 rfl
  simp only [List.getElem?_toArray, List.getElem?_cons_zero, List.getElem?_cons_succ] at c0 c1 c2 d0 d1 d2
  go_wp2
  obtain ⟨z1, z2⟩ := setAll [.bool sec, .string host, .int .i64 port] HB.out.2.2 rfl
  simp only [World.setCells, Nat.reduceAdd] at z1 z2
  have e0 := cell_of (i := 0) z1
  have e1 := cell_of (i := 1) z1
  have e2 := cell_of (i := 2) z1
  simp only [List.getElem?_toArray, List.getElem?_cons_zero, List.getElem?_cons_succ] at e0 e1 e2
  exact bodyPost_ret (v := .agg #[.bool sec, .string host, .int .i64 port]) (by simp [results, Tryz.f36, go_sem, e0, e1, e2]) rfl ⟨rfl, HB.out.1.grown z2 HB.out.1.size (fun i hi => by injection hi with hi; omega)⟩
end Go.Proofs.YthoblggjhdnlpaaGreatDoor

/- A URL that shares nothing with another one, by the program. -/
namespace Go.Proofs.YthoblggjhdnlpaaGreatDoor
open Go.RowKit
set_option linter.unusedVariables false

set_option maxRecDepth 100000 in
set_option maxHeartbeats 4000000 in
theorem freshU9_any (sec : Bool) (host : ByteArray) (port : Int) (pa qu : ByteArray) (h1 : host.size ≤ 140737488355328) (h2 : pa.size ≤ 140737488355328) (h3 : qu.size ≤ 140737488355328) (w : World) :
    Calls Tryz.prog 37 #[.agg #[.bool sec, .string host, .int .i64 port, .string pa, .string qu]] w fun e w' => e = .returned (.agg #[.bool sec, .string host, .int .i64 port, .string pa, .string qu]) ∧ Below w.heap.size w w' := by
  have hd := BoxG.of ((boxF_start w #[.bool sec, .string host, .int .i64 port, .string pa, .string qu] #[.bool false, .string ⟨#[]⟩, .int .i64 0, .string ⟨#[]⟩, .string ⟨#[]⟩] 25).below (Below.refl _ _).drew)
  have hQ : ((w.alloc (.cells #[.bool sec, .string host, .int .i64 port, .string pa, .string qu] 25)).alloc (.cells #[.bool false, .string ⟨#[]⟩, .int .i64 0, .string ⟨#[]⟩, .string ⟨#[]⟩] 25)).drew.cell? ⟨w.heap.size, 0, none⟩ = some (.bool sec) ∧ ((w.alloc (.cells #[.bool sec, .string host, .int .i64 port, .string pa, .string qu] 25)).alloc (.cells #[.bool false, .string ⟨#[]⟩, .int .i64 0, .string ⟨#[]⟩, .string ⟨#[]⟩] 25)).drew.cell? ⟨w.heap.size, 1, none⟩ = some (.string host) ∧ ((w.alloc (.cells #[.bool sec, .string host, .int .i64 port, .string pa, .string qu] 25)).alloc (.cells #[.bool false, .string ⟨#[]⟩, .int .i64 0, .string ⟨#[]⟩, .string ⟨#[]⟩] 25)).drew.cell? ⟨w.heap.size, 2, none⟩ = some (.int .i64 port) ∧ ((w.alloc (.cells #[.bool sec, .string host, .int .i64 port, .string pa, .string qu] 25)).alloc (.cells #[.bool false, .string ⟨#[]⟩, .int .i64 0, .string ⟨#[]⟩, .string ⟨#[]⟩] 25)).drew.cell? ⟨w.heap.size, 3, none⟩ = some (.string pa) ∧ ((w.alloc (.cells #[.bool sec, .string host, .int .i64 port, .string pa, .string qu] 25)).alloc (.cells #[.bool false, .string ⟨#[]⟩, .int .i64 0, .string ⟨#[]⟩, .string ⟨#[]⟩] 25)).drew.cell? ⟨w.heap.size, 4, none⟩ = some (.string qu) ∧ Hid (BoxG w #[.bool sec, .string host, .int .i64 port, .string pa, .string qu] 5 25 ((w.alloc (.cells #[.bool sec, .string host, .int .i64 port, .string pa, .string qu] 25)).alloc (.cells #[.bool false, .string ⟨#[]⟩, .int .i64 0, .string ⟨#[]⟩, .string ⟨#[]⟩] 25)).drew) := ⟨hd.at 0 rfl, hd.at 1 rfl, hd.at 2 rfl, hd.at 3 rfl, hd.at 4 rfl, hd⟩
  clear hd
  go_enter Tryz.func37, Tryz.ntmps37
  go_upto_region 1 with fail
  generalize hW0 : ((w.alloc (.cells #[.bool sec, .string host, .int .i64 port, .string pa, .string qu] 25)).alloc (.cells #[.bool false, .string ⟨#[]⟩, .int .i64 0, .string ⟨#[]⟩, .string ⟨#[]⟩] 25)) = W0 at hQ ⊢
  clear hW0
  go_region_held3 (fun W => W.cell? ⟨w.heap.size, 0, none⟩ = some (.bool sec) ∧ W.cell? ⟨w.heap.size, 1, none⟩ = some (.string host) ∧ W.cell? ⟨w.heap.size, 2, none⟩ = some (.int .i64 port) ∧ W.cell? ⟨w.heap.size, 3, none⟩ = some (.string pa) ∧ W.cell? ⟨w.heap.size, 4, none⟩ = some (.string qu) ∧ Hid (BoxG w #[.bool sec, .string host, .int .i64 port, .string pa, .string qu] 5 25 W)) (with_reducible assumption) (first
    | (go_at_call 31; refine (cloneS_any qu h3 _).mono ?_; rintro e w3 ⟨rfl, hb3⟩; have H3 := (show BoxG _ _ _ _ _ from hQ2.2.2.2.2.2.out).below hb3; have hQ3 : w3.cell? ⟨w.heap.size, 0, none⟩ = some (.bool sec) ∧ w3.cell? ⟨w.heap.size, 1, none⟩ = some (.string host) ∧ w3.cell? ⟨w.heap.size, 2, none⟩ = some (.int .i64 port) ∧ w3.cell? ⟨w.heap.size, 3, none⟩ = some (.string pa) ∧ w3.cell? ⟨w.heap.size, 4, none⟩ = some (.string qu) ∧ Hid (BoxG w #[.bool sec, .string host, .int .i64 port, .string pa, .string qu] 5 25 w3) := ⟨H3.at 0 rfl, H3.at 1 rfl, H3.at 2 rfl, H3.at 3 rfl, H3.at 4 rfl, H3⟩; have f3 := H3.frees; obtain ⟨y0, d0⟩ := H3.some 0 (by decide); obtain ⟨y1, d1⟩ := H3.some 1 (by decide); obtain ⟨y2, d2⟩ := H3.some 2 (by decide); obtain ⟨y3, d3⟩ := H3.some 3 (by decide); obtain ⟨y4, d4⟩ := H3.some 4 (by decide); have H4 := H3.store [.bool sec, .string host, .int .i64 port, .string pa, .string qu] rfl; simp only [World.setCells, Nat.reduceAdd, Nat.zero_add] at H4; have HZ : Hid ((((((w3.setCell ⟨w.heap.size + 1, 0, none⟩ (.bool sec)).setCell ⟨w.heap.size + 1, 1, none⟩ (.string host)).setCell ⟨w.heap.size + 1, 2, none⟩ (.int .i64 port)).setCell ⟨w.heap.size + 1, 3, none⟩ (.string pa)).setCell ⟨w.heap.size + 1, 4, none⟩ (.string qu)).heap[w.heap.size + 1]? = some (.cells #[.bool sec, .string host, .int .i64 port, .string pa, .string qu] 25 (0, 0))) := H4.2; have hQ4 : (((((w3.setCell ⟨w.heap.size + 1, 0, none⟩ (.bool sec)).setCell ⟨w.heap.size + 1, 1, none⟩ (.string host)).setCell ⟨w.heap.size + 1, 2, none⟩ (.int .i64 port)).setCell ⟨w.heap.size + 1, 3, none⟩ (.string pa)).setCell ⟨w.heap.size + 1, 4, none⟩ (.string qu)).cell? ⟨w.heap.size, 0, none⟩ = some (.bool sec) ∧ (((((w3.setCell ⟨w.heap.size + 1, 0, none⟩ (.bool sec)).setCell ⟨w.heap.size + 1, 1, none⟩ (.string host)).setCell ⟨w.heap.size + 1, 2, none⟩ (.int .i64 port)).setCell ⟨w.heap.size + 1, 3, none⟩ (.string pa)).setCell ⟨w.heap.size + 1, 4, none⟩ (.string qu)).cell? ⟨w.heap.size, 1, none⟩ = some (.string host) ∧ (((((w3.setCell ⟨w.heap.size + 1, 0, none⟩ (.bool sec)).setCell ⟨w.heap.size + 1, 1, none⟩ (.string host)).setCell ⟨w.heap.size + 1, 2, none⟩ (.int .i64 port)).setCell ⟨w.heap.size + 1, 3, none⟩ (.string pa)).setCell ⟨w.heap.size + 1, 4, none⟩ (.string qu)).cell? ⟨w.heap.size, 2, none⟩ = some (.int .i64 port) ∧ (((((w3.setCell ⟨w.heap.size + 1, 0, none⟩ (.bool sec)).setCell ⟨w.heap.size + 1, 1, none⟩ (.string host)).setCell ⟨w.heap.size + 1, 2, none⟩ (.int .i64 port)).setCell ⟨w.heap.size + 1, 3, none⟩ (.string pa)).setCell ⟨w.heap.size + 1, 4, none⟩ (.string qu)).cell? ⟨w.heap.size, 3, none⟩ = some (.string pa) ∧ (((((w3.setCell ⟨w.heap.size + 1, 0, none⟩ (.bool sec)).setCell ⟨w.heap.size + 1, 1, none⟩ (.string host)).setCell ⟨w.heap.size + 1, 2, none⟩ (.int .i64 port)).setCell ⟨w.heap.size + 1, 3, none⟩ (.string pa)).setCell ⟨w.heap.size + 1, 4, none⟩ (.string qu)).cell? ⟨w.heap.size, 4, none⟩ = some (.string qu) ∧ Hid (BoxG w #[.bool sec, .string host, .int .i64 port, .string pa, .string qu] 5 25 (((((w3.setCell ⟨w.heap.size + 1, 0, none⟩ (.bool sec)).setCell ⟨w.heap.size + 1, 1, none⟩ (.string host)).setCell ⟨w.heap.size + 1, 2, none⟩ (.int .i64 port)).setCell ⟨w.heap.size + 1, 3, none⟩ (.string pa)).setCell ⟨w.heap.size + 1, 4, none⟩ (.string qu))) := ⟨H4.1.at 0 rfl, H4.1.at 1 rfl, H4.1.at 2 rfl, H4.1.at 3 rfl, H4.1.at 4 rfl, H4.1⟩; clear H4; clear H3 hb3)
    | (go_at_call 31; refine (cloneS_any pa h2 _).mono ?_; rintro e w2 ⟨rfl, hb2⟩; have H2 := (show BoxG _ _ _ _ _ from hQ1.2.2.2.2.2.out).below hb2; have hQ2 : w2.cell? ⟨w.heap.size, 0, none⟩ = some (.bool sec) ∧ w2.cell? ⟨w.heap.size, 1, none⟩ = some (.string host) ∧ w2.cell? ⟨w.heap.size, 2, none⟩ = some (.int .i64 port) ∧ w2.cell? ⟨w.heap.size, 3, none⟩ = some (.string pa) ∧ w2.cell? ⟨w.heap.size, 4, none⟩ = some (.string qu) ∧ Hid (BoxG w #[.bool sec, .string host, .int .i64 port, .string pa, .string qu] 5 25 w2) := ⟨H2.at 0 rfl, H2.at 1 rfl, H2.at 2 rfl, H2.at 3 rfl, H2.at 4 rfl, H2⟩; clear H2 hb2)
    | (go_at_call 36; refine (fresh9_any sec host port h1 _).mono ?_; rintro e w1 ⟨rfl, hb1⟩; have H1 := (show BoxG _ _ _ _ _ from hQ.2.2.2.2.2.out).below hb1; have hQ1 : w1.cell? ⟨w.heap.size, 0, none⟩ = some (.bool sec) ∧ w1.cell? ⟨w.heap.size, 1, none⟩ = some (.string host) ∧ w1.cell? ⟨w.heap.size, 2, none⟩ = some (.int .i64 port) ∧ w1.cell? ⟨w.heap.size, 3, none⟩ = some (.string pa) ∧ w1.cell? ⟨w.heap.size, 4, none⟩ = some (.string qu) ∧ Hid (BoxG w #[.bool sec, .string host, .int .i64 port, .string pa, .string qu] 5 25 w1) := ⟨H1.at 0 rfl, H1.at 1 rfl, H1.at 2 rfl, H1.at 3 rfl, H1.at 4 rfl, H1⟩; clear H1 hb1))
  go_wp2_with fail
  exact bodyPost_ret (v := .agg #[.bool sec, .string host, .int .i64 port, .string pa, .string qu]) (res_cell rfl rfl Tryz.isAgg25 Tryz.sizeOf25 rfl HZ.out) rfl ⟨rfl, (show BoxG _ _ _ _ _ from hQ4.2.2.2.2.2.out).bel⟩
end Go.Proofs.YthoblggjhdnlpaaGreatDoor

/- A region driven by hand: an operation taken first. -/
namespace Go.Proofs.YthoblggjhdnlpaaGreatDoor
open Go.RowKit

section
variable {P : Program} {ops : Array Oper} {Q : Exit → Act → World → Prop} {md : Region.Mode} {S : World → Prop}
theorem takeH {i : Nat} {oi : Oper} {d : Option Tmp} {v : Value} {fuel : Nat} {listed : Array Bool} {a : Act} {w : World} (hi : ops[i]? = some oi) (hd : oi.dst = d)
    (hs : Region.noSelect ops = true) (hf : Region.free md ops listed i = true) (hr : (Region.ready md ops listed).contains i = true)
    (hQ : ∀ c a w, Q (.panic c) (a.put oi.dst v) w → Q (.panic c) a w) (hw : Region.wanted oi (yielded ops a.tmps) = true) (hy : ∀ w, S w → (execOp a.eval oi).run P w = .ok (.value v) w) (hS : S w)
    (h : wpAnyH P md ops Q S fuel (listed.setIfInBounds i true) (a.put d v) w) : wpAnyH P md ops Q S (fuel + 1) listed a w := by
  subst hd
  exact wpAnyH_take hi hs hf hr hQ (Or.inl ⟨hw, hy⟩) hS h
theorem skipH {i : Nat} {oi : Oper} {d : Option Tmp} {fuel : Nat} {listed : Array Bool} {a : Act} {w : World} (hi : ops[i]? = some oi) (hd : oi.dst = d)
    (hs : Region.noSelect ops = true) (hf : Region.free md ops listed i = true) (hr : (Region.ready md ops listed).contains i = true)
    (hQ : ∀ c a w, Q (.panic c) (a.put oi.dst undef) w → Q (.panic c) a w) (hw : Region.wanted oi (yielded ops a.tmps) = false) (hS : S w)
    (h : wpAnyH P md ops Q S fuel (listed.setIfInBounds i true) (a.put d undef) w) : wpAnyH P md ops Q S (fuel + 1) listed a w := by
  subst hd
  exact wpAnyH_take hi hs hf hr hQ (Or.inr ⟨hw, rfl⟩) hS h
end
end Go.Proofs.YthoblggjhdnlpaaGreatDoor

/- passesFor, by the program. -/
namespace Go.Proofs.YthoblggjhdnlpaaGreatDoor
open Go.RowKit
set_option linter.unusedVariables false
set_option linter.unusedSimpArgs false

/-- The request's block and the passes' one. -/
structure PfS (w : World) (x : Array Value) (W : World) : Prop where
  box : BoxQ 28 w x W
  row : W.heap[w.heap.size + 1]? = some (.cells #[.slice none 0 0] 33 (0, 0))
theorem PfS.step {w W W' : World} {x : Array Value} (h : PfS w x W) (hb : Below W.heap.size W W') : PfS w x W' :=
  ⟨h.box.step hb, by rw [hb.block _ (Array.getElem?_eq_some_iff.1 h.row).1]; exact h.row⟩
theorem PfS.new (w : World) (x : Array Value) : PfS w x ((w.alloc (.cells x 28)).alloc (.cells #[.slice none 0 0] 33)) := by
  refine ⟨(BoxQ.new 28 w x).step ((Below.refl _ _).alloc (Nat.le_refl _) _), ?_⟩
  have := heap_alloc_new (w.alloc (.cells x 28)) (.cells #[.slice none 0 0] 33)
  simpa using this
theorem PfS.grown {w W W' : World} {x : Array Value} {g : Nat} (h : PfS w x W) (hg : W.grownBy W' (some g)) (hl : w.heap.size + 1 < g) : PfS w x W' := by
  have h1 : w.heap.size + 1 < W.heap.size := (Array.getElem?_eq_some_iff.1 h.row).1
  refine ⟨⟨h.box.bel.grown hg h.box.bel.size (fun i hi => by injection hi with hi; omega), ?_⟩, ?_⟩
  · rw [hg.block _ (by omega) (by intro e; injection e with e; omega)]
    exact h.box.row
  · rw [hg.block _ h1 (by intro e; injection e with e; omega)]
    exact h.row
theorem store12 {W : World} {g : Nat} {y : Array Value} {T : TypeId} (h : W.heap[g]? = some (.cells y T (0, 0))) (x : List Value) (hs : y.size = x.length) (h1 : ∀ u ∈ x, u.oneCell' = true) :
    Sem.run Tryz.prog (storeCells ⟨g, 0, none⟩ x 0) W = .ok () (W.setCells g 0 x) ∧ (W.setCells g 0 x).heap[g]? = some (.cells x.toArray T (0, 0)) ∧ W.grownBy (W.setCells g 0 x) (some g) := by
  have hr := run_storeCells_cells (P := Tryz.prog) g 0 x 0 W (fun j hj => by
    rw [Nat.add_zero, Nat.zero_add, cell_of h, Array.getElem?_eq_getElem (by omega)]
    rfl) (fun j _ => free_of h _) h1
  rw [Nat.add_zero] at hr
  exact ⟨hr, setAll x h hs⟩
theorem PfS.lt {w W : World} {x : Array Value} (h : PfS w x W) : w.heap.size + 1 < W.heap.size := (Array.getElem?_eq_some_iff.1 h.row).1
set_option maxRecDepth 100000 in
set_option maxHeartbeats 8000000 in
theorem passesFor9_any (pt fp up : Int) (fs us wi : Bool) (fh uh pa qu me bo : ByteArray) (ra : Option Addr) (rl rc : Nat) (h1 : fh.size ≤ 140737488355328) (h2 : uh.size ≤ 140737488355328) (h3 : pa.size ≤ 140737488355328) (h4 : qu.size ≤ 140737488355328) (un : Int)
    (ms hs : List ByteArray) (hms : ms.length ≤ 100) (hhs : hs.length ≤ 100) (hz : ∀ x ∈ hs, x.size ≤ 20000) (ma ha : Option Addr) (mn mc mb mo hn hc hb ho : Nat) (w : World) (hm : Strs w ma mn mb mo ms) (hh : Strs w ha hn hb ho hs) :
    Calls Tryz.prog 18 #[.agg #[.int .i64 pt, .bool fs, .string fh, .int .i64 fp, .bool us, .string uh, .int .i64 up, .string pa, .string qu, .string me, .slice ra rl rc, .bool wi, .string bo], .int .i64 un, .slice ma mn mc, .slice ha hn hc] w fun e w' => (∃ v, e = .returned v ∧ OwnX ⟨fs, fh, fp, us, uh, up, pa, qu, wi, ⟨#[]⟩, ⟨#[]⟩, un⟩ w' w.heap.size v (passL ms hs)) ∧ Below w.heap.size w w' := by
  have HM : Hid (Strs w ma mn mb mo ms ∧ ms.length = mn) := ⟨hm, hm.len_eq⟩
  have HH : Hid (Strs w ha hn hb ho hs ∧ hs.length = hn) := ⟨hh, hh.len_eq⟩
  have HZ : Hid (∀ x ∈ hs, x.size ≤ 20000) := hz
  have hmn : mn ≤ 100 := by rw [← hm.len_eq]; exact hms
  have hhn : hn ≤ 100 := by rw [← hh.len_eq]; exact hhs
  have hP := PfS.new w #[.int .i64 pt, .bool fs, .string fh, .int .i64 fp, .bool us, .string uh, .int .i64 up, .string pa, .string qu, .string me, .slice ra rl rc, .bool wi, .string bo]
  have hen := enters_at Tryz.func38 (by kernel_rfl) rfl
  obtain ⟨p, HPB⟩ : ∃ p : PsV, Hid (p = ⟨fs, fh, fp, us, uh, up, pa, qu, wi, ⟨#[]⟩, ⟨#[]⟩, un⟩) := ⟨_, rfl⟩
  clear hm hh hz hms hhs
  go_enter Tryz.func18, Tryz.ntmps18
  go_upto_region 2 with fail
  generalize hW0 : ((w.alloc (.cells #[.int .i64 pt, .bool fs, .string fh, .int .i64 fp, .bool us, .string uh, .int .i64 up, .string pa, .string qu, .string me, .slice ra rl rc, .bool wi, .string bo] 28)).alloc (.cells #[.slice none 0 0] 33)) = W0 at hP ⊢
  clear hW0
  have HP : Hid (PfS w #[.int .i64 pt, .bool fs, .string fh, .int .i64 fp, .bool us, .string uh, .int .i64 up, .string pa, .string qu, .string me, .slice ra rl rc, .bool wi, .string bo] W0.drew) := hP.step (Below.refl _ _).drew
  clear hP
  have hbase : ∀ W, PfS w #[.int .i64 pt, .bool fs, .string fh, .int .i64 fp, .bool us, .string uh, .int .i64 up, .string pa, .string qu, .string me, .slice ra rl rc, .bool wi, .string bo] W → W.cell? ⟨w.heap.size, 1, none⟩ = some (.bool fs) ∧ W.cell? ⟨w.heap.size, 2, none⟩ = some (.string fh) ∧ W.cell? ⟨w.heap.size, 3, none⟩ = some (.int .i64 fp) ∧ W.cell? ⟨w.heap.size, 4, none⟩ = some (.bool us) ∧ W.cell? ⟨w.heap.size, 5, none⟩ = some (.string uh) ∧ W.cell? ⟨w.heap.size, 6, none⟩ = some (.int .i64 up) ∧ W.cell? ⟨w.heap.size, 7, none⟩ = some (.string pa) ∧ W.cell? ⟨w.heap.size, 8, none⟩ = some (.string qu) ∧ W.cell? ⟨w.heap.size, 11, none⟩ = some (.bool wi) ∧ Hid (PfS w #[.int .i64 pt, .bool fs, .string fh, .int .i64 fp, .bool us, .string uh, .int .i64 up, .string pa, .string qu, .string me, .slice ra rl rc, .bool wi, .string bo] W) := fun W h => ⟨(PfS.box h).at 1 _ rfl, (PfS.box h).at 2 _ rfl, (PfS.box h).at 3 _ rfl, (PfS.box h).at 4 _ rfl, (PfS.box h).at 5 _ rfl, (PfS.box h).at 6 _ rfl, (PfS.box h).at 7 _ rfl, (PfS.box h).at 8 _ rfl, (PfS.box h).at 11 _ rfl, h⟩
  go_cut [10] (fun v wc => ∃ gp : Nat, v = .pointer (some ⟨gp, 0, none⟩) ∧ Hid (PfS w #[.int .i64 pt, .bool fs, .string fh, .int .i64 fp, .bool us, .string uh, .int .i64 up, .string pa, .string qu, .string me, .slice ra rl rc, .bool wi, .string bo] wc ∧ wc.heap[gp]? = some (.cells p.vals.toArray 39 (0, 0)) ∧ w.heap.size + 1 < gp))
  case first =>
    refine wp_region_held_drew (S := fun W => W.cell? ⟨w.heap.size, 1, none⟩ = some (.bool fs) ∧ W.cell? ⟨w.heap.size, 2, none⟩ = some (.string fh) ∧ W.cell? ⟨w.heap.size, 3, none⟩ = some (.int .i64 fp) ∧ W.cell? ⟨w.heap.size, 4, none⟩ = some (.bool us) ∧ W.cell? ⟨w.heap.size, 5, none⟩ = some (.string uh) ∧ W.cell? ⟨w.heap.size, 6, none⟩ = some (.int .i64 up) ∧ W.cell? ⟨w.heap.size, 7, none⟩ = some (.string pa) ∧ W.cell? ⟨w.heap.size, 8, none⟩ = some (.string qu) ∧ W.cell? ⟨w.heap.size, 11, none⟩ = some (.bool wi) ∧ Hid (PfS w #[.int .i64 pt, .bool fs, .string fh, .int .i64 fp, .bool us, .string uh, .int .i64 up, .string pa, .string qu, .string me, .slice ra rl rc, .bool wi, .string bo] W)) (by kernel_rfl) (hbase _ (show PfS _ _ _ from HP.out)) (fun hHeld => ?_)
    refine takeH (i := 0) (d := some 16) (v := ?_) rfl rfl (by kernel_rfl) (by kernel_rfl) (by kernel_rfl) (fun _ _ _ h => h) (by rfl) ?_ (by assumption) ?_
    rotate_left
    · intro w hSw; (try dsimp only at hSw); obtain ⟨q1, q2, q3, q4, q5, q6, q7, q8, q11, _⟩ := hSw; go_simp; with_reducible rfl
    try simp only [Act.put, List.setIfInBounds_toArray, List.set_cons_zero, List.set_cons_succ]
    refine takeH (i := 1) (d := some 17) (v := ?_) rfl rfl (by kernel_rfl) (by kernel_rfl) (by kernel_rfl) (fun _ _ _ h => h) (by rfl) ?_ (by assumption) ?_
    rotate_left
    · intro w hSw; (try dsimp only at hSw); obtain ⟨q1, q2, q3, q4, q5, q6, q7, q8, q11, _⟩ := hSw; go_simp; with_reducible rfl
    try simp only [Act.put, List.setIfInBounds_toArray, List.set_cons_zero, List.set_cons_succ]
    refine takeH (i := 3) (d := some 19) (v := ?_) rfl rfl (by kernel_rfl) (by kernel_rfl) (by kernel_rfl) (fun _ _ _ h => h) (by rfl) ?_ (by assumption) ?_
    rotate_left
    · intro w hSw; (try dsimp only at hSw); obtain ⟨q1, q2, q3, q4, q5, q6, q7, q8, q11, _⟩ := hSw; go_simp; with_reducible rfl
    try simp only [Act.put, List.setIfInBounds_toArray, List.set_cons_zero, List.set_cons_succ]
    refine takeH (i := 4) (d := some 20) (v := ?_) rfl rfl (by kernel_rfl) (by kernel_rfl) (by kernel_rfl) (fun _ _ _ h => h) (by rfl) ?_ (by assumption) ?_
    rotate_left
    · intro w hSw; (try dsimp only at hSw); obtain ⟨q1, q2, q3, q4, q5, q6, q7, q8, q11, _⟩ := hSw; go_simp; with_reducible rfl
    try simp only [Act.put, List.setIfInBounds_toArray, List.set_cons_zero, List.set_cons_succ]
    refine takeH (i := 6) (d := some 22) (v := ?_) rfl rfl (by kernel_rfl) (by kernel_rfl) (by kernel_rfl) (fun _ _ _ h => h) (by rfl) ?_ (by assumption) ?_
    rotate_left
    · intro w hSw; (try dsimp only at hSw); obtain ⟨q1, q2, q3, q4, q5, q6, q7, q8, q11, _⟩ := hSw; go_simp; with_reducible rfl
    try simp only [Act.put, List.setIfInBounds_toArray, List.set_cons_zero, List.set_cons_succ]
    refine takeH (i := 7) (d := some 23) (v := ?_) rfl rfl (by kernel_rfl) (by kernel_rfl) (by kernel_rfl) (fun _ _ _ h => h) (by rfl) ?_ (by assumption) ?_
    rotate_left
    · intro w hSw; (try dsimp only at hSw); obtain ⟨q1, q2, q3, q4, q5, q6, q7, q8, q11, _⟩ := hSw; go_simp; with_reducible rfl
    try simp only [Act.put, List.setIfInBounds_toArray, List.set_cons_zero, List.set_cons_succ]
    refine takeH (i := 8) (d := some 24) (v := ?_) rfl rfl (by kernel_rfl) (by kernel_rfl) (by kernel_rfl) (fun _ _ _ h => h) (by rfl) ?_ (by assumption) ?_
    rotate_left
    · intro w hSw; (try dsimp only at hSw); obtain ⟨q1, q2, q3, q4, q5, q6, q7, q8, q11, _⟩ := hSw; go_simp; with_reducible rfl
    try simp only [Act.put, List.setIfInBounds_toArray, List.set_cons_zero, List.set_cons_succ]
    refine wpAnyH_ready (rs := [2, 10]) (by kernel_rfl) (by simp) ?_
    refine AllReadyH.cons (by rfl) (fun K hKK => ?_) (AllReadyH.cons (by rfl) (fun K hKK => ?_) AllReadyH.nil)
    · skip
      go_simp
      refine (fresh9_any fs fh fp h1 _).mono ?_
      rintro e w1 ⟨rfl, hbw1⟩
      have P1 : Hid (PfS w #[.int .i64 pt, .bool fs, .string fh, .int .i64 fp, .bool us, .string uh, .int .i64 up, .string pa, .string qu, .string me, .slice ra rl rc, .bool wi, .string bo] w1) := (show PfS _ _ _ from HP.out).step hbw1
      clear hbw1
      go_wp2_with fail
      refine hKK.out _ _ (hbase _ (show PfS _ _ _ from P1.out)) (fun hHeld => ?_)
      clear hKK K
      try simp only [Act.put, List.setIfInBounds_toArray, List.set_cons_zero, List.set_cons_succ]
      refine wpAnyH_ready (rs := [5, 10]) (by kernel_rfl) (by simp) ?_
      refine AllReadyH.cons (by rfl) (fun K hKK => ?_) (AllReadyH.cons (by rfl) (fun K hKK => ?_) AllReadyH.nil)
      · skip
        go_simp
        refine (freshU9_any us uh up pa qu h2 h3 h4 _).mono ?_
        rintro e w2 ⟨rfl, hbw2⟩
        have P2 : Hid (PfS w #[.int .i64 pt, .bool fs, .string fh, .int .i64 fp, .bool us, .string uh, .int .i64 up, .string pa, .string qu, .string me, .slice ra rl rc, .bool wi, .string bo] w2) := (show PfS _ _ _ from P1.out).step hbw2
        clear hbw2
        go_wp2_with fail
        refine hKK.out _ _ (hbase _ (show PfS _ _ _ from P2.out)) (fun hHeld => ?_)
        clear hKK K
        try simp only [Act.put, List.setIfInBounds_toArray, List.set_cons_zero, List.set_cons_succ]
        refine takeH (i := 9) (d := some 25) (v := .agg p.vals.toArray) rfl rfl (by kernel_rfl) (by kernel_rfl) (by kernel_rfl) (fun _ _ _ h => h) (by rfl) ?_ (by assumption) ?_
        · intro w hSw; (try dsimp only at hSw); obtain ⟨q1, q2, q3, q4, q5, q6, q7, q8, q11, _⟩ := hSw; go_simp; rw [HPB.out]; rfl
        try simp only [Act.put, List.setIfInBounds_toArray, List.set_cons_zero, List.set_cons_succ]
        refine wpAnyH_ready (rs := [10]) (by kernel_rfl) (by simp) ?_
        refine AllReadyH.cons (by rfl) (fun K hKK => ?_) AllReadyH.nil
        go_simp
        have P3 : Hid (PfS w #[.int .i64 pt, .bool fs, .string fh, .int .i64 fp, .bool us, .string uh, .int .i64 up, .string pa, .string qu, .string me, .slice ra rl rc, .bool wi, .string bo] (w2.alloc (.cells #[.bool false, .string ⟨#[]⟩, .int .i64 0, .bool false, .string ⟨#[]⟩, .int .i64 0, .string ⟨#[]⟩, .string ⟨#[]⟩, .bool false, .string ⟨#[]⟩, .string ⟨#[]⟩, .int .i64 0] 39))) := (show PfS _ _ _ from P2.out).step ((Below.refl _ _).alloc (Nat.le_refl _) _)
        have R3 : Hid ((w2.alloc (.cells #[.bool false, .string ⟨#[]⟩, .int .i64 0, .bool false, .string ⟨#[]⟩, .int .i64 0, .string ⟨#[]⟩, .string ⟨#[]⟩, .bool false, .string ⟨#[]⟩, .string ⟨#[]⟩, .int .i64 0] 39)).heap[w2.heap.size]? = some (.cells #[.bool false, .string ⟨#[]⟩, .int .i64 0, .bool false, .string ⟨#[]⟩, .int .i64 0, .string ⟨#[]⟩, .string ⟨#[]⟩, .bool false, .string ⟨#[]⟩, .string ⟨#[]⟩, .int .i64 0] 39 (0, 0))) := heap_alloc_new _ _
        have LR3 : Hid (w.heap.size + 1 < w2.heap.size) := (show PfS _ _ _ from P2.out).lt
        refine hKK.out _ _ (hbase _ (show PfS _ _ _ from P3.out)) (fun hHeld => ?_)
        clear hKK K
        try simp only [Act.put, List.setIfInBounds_toArray, List.set_cons_zero, List.set_cons_succ]
        refine wpAnyH_ready (rs := [11]) (by kernel_rfl) (by simp) ?_
        refine AllReadyH.cons (by rfl) (fun K hKK => ?_) AllReadyH.nil
        obtain ⟨hst, z1, z2⟩ := store12 (show (w2.alloc (.cells #[.bool false, .string ⟨#[]⟩, .int .i64 0, .bool false, .string ⟨#[]⟩, .int .i64 0, .string ⟨#[]⟩, .string ⟨#[]⟩, .bool false, .string ⟨#[]⟩, .string ⟨#[]⟩, .int .i64 0] 39)).heap[w2.heap.size]? = some (.cells #[.bool false, .string ⟨#[]⟩, .int .i64 0, .bool false, .string ⟨#[]⟩, .int .i64 0, .string ⟨#[]⟩, .string ⟨#[]⟩, .bool false, .string ⟨#[]⟩, .string ⟨#[]⟩, .int .i64 0] 39 (0, 0)) from R3.out) p.vals rfl (vals_one p)
        have PZ := (show PfS _ _ _ from P3.out).grown z2 (show _ < _ from LR3.out)
        have HZ1 : Hid (_ = _) := z1
        clear z1 z2
        go_simp
        refine hKK.out _ _ (hbase _ PZ) (fun hHeld => ?_)
        clear hKK K hst
        try simp only [Act.put, List.setIfInBounds_toArray, List.set_cons_zero, List.set_cons_succ]
        refine wpAnyH_done (by kernel_rfl) ?_ _
        go_wp2_with fail
        go_meet
        exact ⟨_, rfl, ⟨PZ, HZ1.out, (show _ < _ from LR3.out)⟩⟩
      · skip
        go_simp
        have P3 : Hid (PfS w #[.int .i64 pt, .bool fs, .string fh, .int .i64 fp, .bool us, .string uh, .int .i64 up, .string pa, .string qu, .string me, .slice ra rl rc, .bool wi, .string bo] (w1.alloc (.cells #[.bool false, .string ⟨#[]⟩, .int .i64 0, .bool false, .string ⟨#[]⟩, .int .i64 0, .string ⟨#[]⟩, .string ⟨#[]⟩, .bool false, .string ⟨#[]⟩, .string ⟨#[]⟩, .int .i64 0] 39))) := (show PfS _ _ _ from P1.out).step ((Below.refl _ _).alloc (Nat.le_refl _) _)
        have R3 : Hid ((w1.alloc (.cells #[.bool false, .string ⟨#[]⟩, .int .i64 0, .bool false, .string ⟨#[]⟩, .int .i64 0, .string ⟨#[]⟩, .string ⟨#[]⟩, .bool false, .string ⟨#[]⟩, .string ⟨#[]⟩, .int .i64 0] 39)).heap[w1.heap.size]? = some (.cells #[.bool false, .string ⟨#[]⟩, .int .i64 0, .bool false, .string ⟨#[]⟩, .int .i64 0, .string ⟨#[]⟩, .string ⟨#[]⟩, .bool false, .string ⟨#[]⟩, .string ⟨#[]⟩, .int .i64 0] 39 (0, 0))) := heap_alloc_new _ _
        have LR3 : Hid (w.heap.size + 1 < w1.heap.size) := (show PfS _ _ _ from P1.out).lt
        refine hKK.out _ _ (hbase _ (show PfS _ _ _ from P3.out)) (fun hHeld => ?_)
        clear hKK K
        try simp only [Act.put, List.setIfInBounds_toArray, List.set_cons_zero, List.set_cons_succ]
        refine wpAnyH_ready (rs := [5]) (by kernel_rfl) (by simp) ?_
        refine AllReadyH.cons (by rfl) (fun K hKK => ?_) AllReadyH.nil
        go_simp
        refine (freshU9_any us uh up pa qu h2 h3 h4 _).mono ?_
        rintro e w2 ⟨rfl, hbw2⟩
        have P2 : Hid (PfS w #[.int .i64 pt, .bool fs, .string fh, .int .i64 fp, .bool us, .string uh, .int .i64 up, .string pa, .string qu, .string me, .slice ra rl rc, .bool wi, .string bo] w2) := (show PfS _ _ _ from P3.out).step hbw2
        have Rw2 : Hid (w2.heap[w1.heap.size]? = some (.cells #[.bool false, .string ⟨#[]⟩, .int .i64 0, .bool false, .string ⟨#[]⟩, .int .i64 0, .string ⟨#[]⟩, .string ⟨#[]⟩, .bool false, .string ⟨#[]⟩, .string ⟨#[]⟩, .int .i64 0] 39 (0, 0))) := (show _ = _ from (hbw2.block _ (Array.getElem?_eq_some_iff.1 R3.out).1).trans R3.out)
        clear hbw2
        go_wp2_with fail
        refine hKK.out _ _ (hbase _ (show PfS _ _ _ from P2.out)) (fun hHeld => ?_)
        clear hKK K
        try simp only [Act.put, List.setIfInBounds_toArray, List.set_cons_zero, List.set_cons_succ]
        refine takeH (i := 9) (d := some 25) (v := .agg p.vals.toArray) rfl rfl (by kernel_rfl) (by kernel_rfl) (by kernel_rfl) (fun _ _ _ h => h) (by rfl) ?_ (by assumption) ?_
        · intro w hSw; (try dsimp only at hSw); obtain ⟨q1, q2, q3, q4, q5, q6, q7, q8, q11, _⟩ := hSw; go_simp; rw [HPB.out]; rfl
        try simp only [Act.put, List.setIfInBounds_toArray, List.set_cons_zero, List.set_cons_succ]
        refine wpAnyH_ready (rs := [11]) (by kernel_rfl) (by simp) ?_
        refine AllReadyH.cons (by rfl) (fun K hKK => ?_) AllReadyH.nil
        obtain ⟨hst, z1, z2⟩ := store12 (show w2.heap[w1.heap.size]? = some (.cells #[.bool false, .string ⟨#[]⟩, .int .i64 0, .bool false, .string ⟨#[]⟩, .int .i64 0, .string ⟨#[]⟩, .string ⟨#[]⟩, .bool false, .string ⟨#[]⟩, .string ⟨#[]⟩, .int .i64 0] 39 (0, 0)) from Rw2.out) p.vals rfl (vals_one p)
        have PZ := (show PfS _ _ _ from P2.out).grown z2 (show _ < _ from LR3.out)
        have HZ1 : Hid (_ = _) := z1
        clear z1 z2
        go_simp
        refine hKK.out _ _ (hbase _ PZ) (fun hHeld => ?_)
        clear hKK K hst
        try simp only [Act.put, List.setIfInBounds_toArray, List.set_cons_zero, List.set_cons_succ]
        refine wpAnyH_done (by kernel_rfl) ?_ _
        go_wp2_with fail
        go_meet
        exact ⟨_, rfl, ⟨PZ, HZ1.out, (show _ < _ from LR3.out)⟩⟩
    · skip
      go_simp
      have P3 : Hid (PfS w #[.int .i64 pt, .bool fs, .string fh, .int .i64 fp, .bool us, .string uh, .int .i64 up, .string pa, .string qu, .string me, .slice ra rl rc, .bool wi, .string bo] (W0.drew.alloc (.cells #[.bool false, .string ⟨#[]⟩, .int .i64 0, .bool false, .string ⟨#[]⟩, .int .i64 0, .string ⟨#[]⟩, .string ⟨#[]⟩, .bool false, .string ⟨#[]⟩, .string ⟨#[]⟩, .int .i64 0] 39))) := (show PfS _ _ _ from HP.out).step ((Below.refl _ _).alloc (Nat.le_refl _) _)
      have R3 : Hid ((W0.drew.alloc (.cells #[.bool false, .string ⟨#[]⟩, .int .i64 0, .bool false, .string ⟨#[]⟩, .int .i64 0, .string ⟨#[]⟩, .string ⟨#[]⟩, .bool false, .string ⟨#[]⟩, .string ⟨#[]⟩, .int .i64 0] 39)).heap[W0.drew.heap.size]? = some (.cells #[.bool false, .string ⟨#[]⟩, .int .i64 0, .bool false, .string ⟨#[]⟩, .int .i64 0, .string ⟨#[]⟩, .string ⟨#[]⟩, .bool false, .string ⟨#[]⟩, .string ⟨#[]⟩, .int .i64 0] 39 (0, 0))) := heap_alloc_new _ _
      have LR3 : Hid (w.heap.size + 1 < W0.drew.heap.size) := (show PfS _ _ _ from HP.out).lt
      refine hKK.out _ _ (hbase _ (show PfS _ _ _ from P3.out)) (fun hHeld => ?_)
      clear hKK K
      try simp only [Act.put, List.setIfInBounds_toArray, List.set_cons_zero, List.set_cons_succ]
      refine wpAnyH_ready (rs := [2]) (by kernel_rfl) (by simp) ?_
      refine AllReadyH.cons (by rfl) (fun K hKK => ?_) AllReadyH.nil
      go_simp
      refine (fresh9_any fs fh fp h1 _).mono ?_
      rintro e w1 ⟨rfl, hbw1⟩
      have P1 : Hid (PfS w #[.int .i64 pt, .bool fs, .string fh, .int .i64 fp, .bool us, .string uh, .int .i64 up, .string pa, .string qu, .string me, .slice ra rl rc, .bool wi, .string bo] w1) := (show PfS _ _ _ from P3.out).step hbw1
      have Rw1 : Hid (w1.heap[W0.heap.size]? = some (.cells #[.bool false, .string ⟨#[]⟩, .int .i64 0, .bool false, .string ⟨#[]⟩, .int .i64 0, .string ⟨#[]⟩, .string ⟨#[]⟩, .bool false, .string ⟨#[]⟩, .string ⟨#[]⟩, .int .i64 0] 39 (0, 0))) := (show _ = _ from (hbw1.block _ (Array.getElem?_eq_some_iff.1 R3.out).1).trans R3.out)
      clear hbw1
      go_wp2_with fail
      refine hKK.out _ _ (hbase _ (show PfS _ _ _ from P1.out)) (fun hHeld => ?_)
      clear hKK K
      try simp only [Act.put, List.setIfInBounds_toArray, List.set_cons_zero, List.set_cons_succ]
      refine wpAnyH_ready (rs := [5]) (by kernel_rfl) (by simp) ?_
      refine AllReadyH.cons (by rfl) (fun K hKK => ?_) AllReadyH.nil
      go_simp
      refine (freshU9_any us uh up pa qu h2 h3 h4 _).mono ?_
      rintro e w2 ⟨rfl, hbw2⟩
      have P2 : Hid (PfS w #[.int .i64 pt, .bool fs, .string fh, .int .i64 fp, .bool us, .string uh, .int .i64 up, .string pa, .string qu, .string me, .slice ra rl rc, .bool wi, .string bo] w2) := (show PfS _ _ _ from P1.out).step hbw2
      have Rw2 : Hid (w2.heap[W0.heap.size]? = some (.cells #[.bool false, .string ⟨#[]⟩, .int .i64 0, .bool false, .string ⟨#[]⟩, .int .i64 0, .string ⟨#[]⟩, .string ⟨#[]⟩, .bool false, .string ⟨#[]⟩, .string ⟨#[]⟩, .int .i64 0] 39 (0, 0))) := (show _ = _ from (hbw2.block _ (Array.getElem?_eq_some_iff.1 Rw1.out).1).trans Rw1.out)
      clear hbw2
      go_wp2_with fail
      refine hKK.out _ _ (hbase _ (show PfS _ _ _ from P2.out)) (fun hHeld => ?_)
      clear hKK K
      try simp only [Act.put, List.setIfInBounds_toArray, List.set_cons_zero, List.set_cons_succ]
      refine takeH (i := 9) (d := some 25) (v := .agg p.vals.toArray) rfl rfl (by kernel_rfl) (by kernel_rfl) (by kernel_rfl) (fun _ _ _ h => h) (by rfl) ?_ (by assumption) ?_
      · intro w hSw; (try dsimp only at hSw); obtain ⟨q1, q2, q3, q4, q5, q6, q7, q8, q11, _⟩ := hSw; go_simp; rw [HPB.out]; rfl
      try simp only [Act.put, List.setIfInBounds_toArray, List.set_cons_zero, List.set_cons_succ]
      refine wpAnyH_ready (rs := [11]) (by kernel_rfl) (by simp) ?_
      refine AllReadyH.cons (by rfl) (fun K hKK => ?_) AllReadyH.nil
      obtain ⟨hst, z1, z2⟩ := store12 (show w2.heap[W0.heap.size]? = some (.cells #[.bool false, .string ⟨#[]⟩, .int .i64 0, .bool false, .string ⟨#[]⟩, .int .i64 0, .string ⟨#[]⟩, .string ⟨#[]⟩, .bool false, .string ⟨#[]⟩, .string ⟨#[]⟩, .int .i64 0] 39 (0, 0)) from Rw2.out) p.vals rfl (vals_one p)
      have PZ := (show PfS _ _ _ from P2.out).grown z2 (show _ < _ from LR3.out)
      have HZ1 : Hid (_ = _) := z1
      clear z1 z2
      go_simp
      refine hKK.out _ _ (hbase _ PZ) (fun hHeld => ?_)
      clear hKK K hst
      try simp only [Act.put, List.setIfInBounds_toArray, List.set_cons_zero, List.set_cons_succ]
      refine wpAnyH_done (by kernel_rfl) ?_ _
      go_wp2_with fail
      go_meet
      exact ⟨_, rfl, ⟨PZ, HZ1.out, (show _ < _ from LR3.out)⟩⟩
  case rest =>
  obtain ⟨gp, rfl, HC⟩ := hcut
  have hg := HC.out.1.row
  have HLT : Hid (w.heap.size + 1 < gp ∧ gp < wc.heap.size ∧ w.heap.size + 1 < wc.heap.size) := ⟨HC.out.2.2, (Array.getElem?_eq_some_iff.1 HC.out.2.1).1, (Array.getElem?_eq_some_iff.1 hg).1⟩
  have hpv : p.vals.toArray = #[.bool p.fs, .string p.fh, .int .i64 p.fp, .bool p.us, .string p.uh, .int .i64 p.up, .string p.pa, .string p.qu, .bool p.wi, .string ⟨#[]⟩, .string ⟨#[]⟩, .int .i64 p.un] := by rw [HPB.out]; rfl
  have HH0 : Hid (HoldX p gp (w.heap.size + 1) wc.heap.size [] wc) := ⟨by rw [← hpv]; exact HC.out.2.1, ⟨_, hg, ownX_nil p wc _⟩, HLT.out.2.1, HLT.out.2.2, (by have := HLT.out.1; omega), Nat.le_refl _⟩
  have HBW : Hid (Below w.heap.size w wc) := HC.out.1.box.bel
  have HADD : Hid (∀ (l : List (ByteArray × ByteArray)) (x y : ByteArray) (W : World), l.length ≤ 500 → HoldX p gp (w.heap.size + 1) wc.heap.size l W → Calls Tryz.prog 38 #[.string x, .string y, .pointer (some ⟨gp, 0, none⟩), .pointer (some ⟨w.heap.size + 1, 0, none⟩)] W fun e w' => e = .returned (.tuple #[]) ∧ HoldX p gp (w.heap.size + 1) wc.heap.size (addX l (x, y)) w' ∧ Below (w.heap.size + 1) W w') := fun l x y W hl h => add9_any p gp _ _ l hl x y W h
  clear hg hpv HC HLT hbase HP
  go_wp2
  go_loopw [29] (fun i wr => ∃ k : Nat, k ≤ mn ∧ i = .int .i64 k ∧ Hid (HoldX p gp (w.heap.size + 1) wc.heap.size (passM (ms.take k)) wr ∧ Below w.heap.size w wr)) (fun i _ => mn - (intOf i).toNat)
  case atStart => exact ⟨0, Nat.zero_le _, rfl, HH0.out, HBW.out⟩
  case round =>
    obtain ⟨k, hk, rfl, HI⟩ := hrel
    by_cases hlt : k < mn
    · have hltz : (k : Int) < (mn : Int) := by omega
      obtain ⟨x, hx⟩ : ∃ x, ms[k]? = some x := ⟨ms[k]'(by have := HM.out.2; omega), List.getElem?_eq_getElem _⟩
      have HXK : Hid (ms[k]? = some x) := hx
      obtain ⟨ha0, _⟩ := HM.out.1.lies (by omega)
      subst ha0
      have cx := (HM.out.1.below HI.out.2).cells k x hx
      have hcall := HADD.out (passM (ms.take k)) x ⟨#[]⟩ wr (by have := passM_len (ms.take k); rw [List.length_take] at this; omega) HI.out.1
      clear hx
      go_wp2_with fail
      refine hcall.mono ?_
      rintro e w4 ⟨rfl, h4, hb4⟩
      have HI4 : Hid (HoldX p gp (w.heap.size + 1) wc.heap.size (passM (ms.take (k + 1))) w4 ∧ Below w.heap.size w w4) := ⟨by have e4 := foldX_snoc mX [] HXK.out; unfold passM at h4 ⊢; rw [e4]; exact h4, HI.out.2.trans (hb4.mono (by omega))⟩
      clear hcall h4 hb4 cx
      go_wp2
      go_roundw
      case rel => exact ⟨k + 1, by omega, by go_num, HI4⟩
      case measure => simp [intOf]; omega
    · have hltz : ¬ (k : Int) < (mn : Int) := by omega
      have HI1 : Hid (HoldX p gp (w.heap.size + 1) wc.heap.size (passM ms) wr ∧ Below w.heap.size w wr) := by
        have := HI.out
        rw [List.take_of_length_le (by have := HM.out.2; omega)] at this
        exact this
      clear HI
      generalize hwx : wr = wx at HI1 ⊢
      clear hwx
      go_wp2
      go_loopw [39] (fun i wr => ∃ k : Nat, k ≤ hn ∧ i = .int .i64 k ∧ Hid (HoldX p gp (w.heap.size + 1) wc.heap.size (((hs.take k).map hX).foldl addX (passM ms)) wr ∧ Below w.heap.size w wr)) (fun i _ => hn - (intOf i).toNat)
      case atStart => exact ⟨0, Nat.zero_le _, rfl, HI1.out.1, HI1.out.2⟩
      case round =>
        obtain ⟨k, hk, rfl, HI⟩ := hrel
        by_cases hlt : k < hn
        · have hltz : (k : Int) < (hn : Int) := by omega
          obtain ⟨x, hx⟩ : ∃ x, hs[k]? = some x := ⟨hs[k]'(by have := HH.out.2; omega), List.getElem?_eq_getElem _⟩
          have HXK : Hid (hs[k]? = some x) := hx
          obtain ⟨ha0, _⟩ := HH.out.1.lies (by omega)
          subst ha0
          have cx := (HH.out.1.below HI.out.2).cells k x hx
          have hxz := HZ.out x (List.mem_of_getElem? hx)
          have HLN : Hid ((((hs.take k).map hX).foldl addX (passM ms)).length ≤ 500) := by
            show _ ≤ _
            have e1 := foldX_len (passM ms) ((hs.take k).map hX)
            have e2 := passM_len ms
            have e3 := HM.out.2
            rw [List.length_map, List.length_take] at e1
            omega
          obtain ⟨y, HY⟩ : ∃ y, Hid (bs (x.data.toList.map low) = y) := ⟨_, rfl⟩
          have hlow := lower_any x wr (by omega)
          rw [HY.out] at hlow
          clear hx hxz
          go_wp2_with fail
          refine hlow.mono ?_
          rintro e w4 ⟨rfl, hb4⟩
          have HI4 : Hid (HoldX p gp (w.heap.size + 1) wc.heap.size (((hs.take k).map hX).foldl addX (passM ms)) w4 ∧ Below w.heap.size w w4) := ⟨HI.out.1.below hb4, HI.out.2.trans (hb4.mono HI.out.2.size)⟩
          have hcall := HADD.out _ ⟨#[]⟩ y w4 HLN.out HI4.out.1
          clear hlow hb4 cx
          go_wp2_with fail
          refine hcall.mono ?_
          rintro e w5 ⟨rfl, h5, hb5⟩
          have HI5 : Hid (HoldX p gp (w.heap.size + 1) wc.heap.size (((hs.take (k + 1)).map hX).foldl addX (passM ms)) w5 ∧ Below w.heap.size w w5) := ⟨by rw [foldX_snoc hX (passM ms) HXK.out]; unfold hX; rw [HY.out]; exact h5, HI4.out.2.trans (hb5.mono (by omega))⟩
          clear hcall h5 hb5
          go_wp2
          go_roundw
          case rel => exact ⟨k + 1, by omega, by go_num, HI5⟩
          case measure => simp [intOf]; omega
        · have hltz : ¬ (k : Int) < (hn : Int) := by omega
          have HI2 : Hid (HoldX p gp (w.heap.size + 1) wc.heap.size (passL ms hs) wr ∧ Below w.heap.size w wr) := by
            have := HI.out
            rw [List.take_of_length_le (by have := HH.out.2; omega)] at this
            exact this
          clear HI
          obtain ⟨v, hv, hown⟩ := HI2.out.1.own
          have sv : wr.cell? ⟨w.heap.size + 1, 0, none⟩ = some v := cell_of hv
          have HOW : Hid (OwnX ⟨fs, fh, fp, us, uh, up, pa, qu, wi, ⟨#[]⟩, ⟨#[]⟩, un⟩ wr w.heap.size v (passL ms hs)) := by
            have := OwnK.mono hown (B' := w.heap.size) HBW.out.size
            rw [HPB.out] at this
            exact this
          clear hv hown
          go_wp2
          go_ret
          exact ⟨⟨v, rfl, HOW.out⟩, HI2.out.2⟩
end Go.Proofs.YthoblggjhdnlpaaGreatDoor

/- Grant: what an answer allows a request, by the program. -/
namespace Go.Proofs.YthoblggjhdnlpaaGreatDoor
open Go.RowKit
set_option linter.unusedVariables false

/-- What Grant answers. -/
def GraAns (p : PsV) (o : Except Int (List (ByteArray × ByteArray))) (B : Nat) (e : Ending) (w' : World) : Prop :=
  (∃ l v, o = .ok l ∧ l.length ≤ 80 ∧ e = .returned (.tuple #[v, .nilIface]) ∧ OwnX p w' B v l) ∨ (∃ n : Int, o = .error n ∧ e = .returned (.tuple #[.slice none 0 0, .iface 54 (.int .i64 n)]))
theorem wrap64_id {n : Int} (h0 : -9223372036854775808 ≤ n) (h1 : n ≤ 9223372036854775807) : IntKind.i64.wrap n = n := by
  simp [IntKind.wrap, IntKind.bits, IntKind.signed]
  omega
theorem strs_one (W : World) (x : ByteArray) : Strs (W.alloc (.cells #[.string x] 9)) (some ⟨W.heap.size, 0, none⟩) 1 W.heap.size 0 [x] := by
  refine ⟨rfl, fun _ => ⟨rfl, by simp⟩, fun j p hp => ?_⟩
  match j, hp with
  | 0, hp => cases hp; exact World.cell?_alloc_mark _ _ _ _ _
  | j + 1, hp => simp at hp
set_option maxRecDepth 100000 in
set_option maxHeartbeats 8000000 in
theorem grant9_any (ps : List Par) (hf : Few9 ps) (a0 : Option Addr) (len cap b off : Nat) (hq : List Par) (hps : Small8 hq) (ra : Option Addr) (rl rc rb ro : Nat) (hrl : rl ≤ 60) (pt fp up : Int) (fs us wi : Bool) (fh uh pa qu me bo : ByteArray)
    (z1 : fh.size ≤ 4000) (z2 : uh.size ≤ 4000) (z3 : pa.size ≤ 4000) (z4 : qu.size ≤ 4000) (z5 : me.size ≤ 3000) (h0 : -9223372036854775808 ≤ fp) (h1 : fp ≤ 9223372036854775807) (now : Int) (n0 : 0 ≤ now) (n1 : now ≤ 1099511627776)
    (w : World) (he : Env w) (hm : Methods w) (hx : Pars w a0 len b off ps) (hh : Pars w ra rl rb ro hq) :
    Calls Tryz.prog 8 #[.agg #[.int .i64 pt, .bool fs, .string fh, .int .i64 fp, .bool us, .string uh, .int .i64 up, .string pa, .string qu, .string me, .slice ra rl rc, .bool wi, .string bo], .slice a0 len cap, .int .i64 now] w fun e w' => GraAns ⟨fs, fh, fp, us, uh, up, pa, qu, wi, ⟨#[]⟩, ⟨#[]⟩, now + ageL ps⟩ (grantL ⟨fs, fh, fp, us, uh, up, pa, qu, wi, ⟨#[]⟩, ⟨#[]⟩, now + ageL ps⟩ (mayL wi (textL fs fh.data.toList fp) ps) wi (methodB me) (askedL hq) ps) w.heap.size e w' ∧ Below w.heap.size w w' := by
  obtain ⟨p, HPB⟩ : ∃ p : PsV, Hid (p = ⟨fs, fh, fp, us, uh, up, pa, qu, wi, ⟨#[]⟩, ⟨#[]⟩, now + ageL ps⟩) := ⟨_, rfl⟩
  rw [← HPB.out]
  obtain ⟨m, HM⟩ : ∃ m, Hid (methodB me = m) := ⟨_, rfl⟩
  rw [HM.out]
  obtain ⟨xs, HXS⟩ : ∃ xs, Hid (askedL hq = xs) := ⟨_, rfl⟩
  rw [HXS.out]
  obtain ⟨y, HMY⟩ : ∃ y, Hid (mayL wi (textL fs fh.data.toList fp) ps = y) := ⟨_, rfl⟩
  rw [HMY.out]
  obtain ⟨ag, HAG⟩ : ∃ ag, Hid (ageL ps = ag) := ⟨_, rfl⟩
  have hag := ageL_bounds ps
  rw [HAG.out] at hag HPB
  obtain ⟨ag0, ag1⟩ := hag
  have HQ : Hid (BoxQ 28 w #[.int .i64 pt, .bool fs, .string fh, .int .i64 fp, .bool us, .string uh, .int .i64 up, .string pa, .string qu, .string me, .slice ra rl rc, .bool wi, .string bo] (w.alloc (.cells #[.int .i64 pt, .bool fs, .string fh, .int .i64 fp, .bool us, .string uh, .int .i64 up, .string pa, .string qu, .string me, .slice ra rl rc, .bool wi, .string bo] 28))) := BoxQ.new _ _ _
  have HWM : Hid (∀ W, Below w.heap.size w W → Calls Tryz.prog 16 #[.slice a0 len cap, .string ⟨#[65, 99, 99, 101, 115, 115, 45, 67, 111, 110, 116, 114, 111, 108, 45, 65, 108, 108, 111, 119, 45, 77, 101, 116, 104, 111, 100, 115]⟩] W fun e w' => WdsAns (wordsO (fieldT mN ps)) W.heap.size e w' ∧ Below W.heap.size W w') := fun W hW => by
    have := words9_any ps hf ⟨#[65, 99, 99, 101, 115, 115, 45, 67, 111, 110, 116, 114, 111, 108, 45, 65, 108, 108, 111, 119, 45, 77, 101, 116, 104, 111, 100, 115]⟩ (by decide) a0 len cap b off W (hx.below hW)
    rw [← mN_is] at this
    exact this
  have HWH : Hid (∀ W, Below w.heap.size w W → Calls Tryz.prog 16 #[.slice a0 len cap, .string ⟨#[65, 99, 99, 101, 115, 115, 45, 67, 111, 110, 116, 114, 111, 108, 45, 65, 108, 108, 111, 119, 45, 72, 101, 97, 100, 101, 114, 115]⟩] W fun e w' => WdsAns (wordsO (fieldT hN ps)) W.heap.size e w' ∧ Below W.heap.size W w') := fun W hW => by
    have := words9_any ps hf ⟨#[65, 99, 99, 101, 115, 115, 45, 67, 111, 110, 116, 114, 111, 108, 45, 65, 108, 108, 111, 119, 45, 72, 101, 97, 100, 101, 114, 115]⟩ (by decide) a0 len cap b off W (hx.below hW)
    rw [← hN_is] at this
    exact this
  have HMA : Hid (∀ W, Below w.heap.size w W → Calls Tryz.prog 10 #[.agg #[.int .i64 pt, .bool fs, .string fh, .int .i64 fp, .bool us, .string uh, .int .i64 up, .string pa, .string qu, .string me, .slice ra rl rc, .bool wi, .string bo], .slice a0 len cap] W fun e w' => e = .returned (.bool y) ∧ Below W.heap.size W w') := fun W hW => by
    have := may9_any ps hf a0 len cap b off pt fp up fs us fh uh pa qu me bo ra rl rc wi z1 h0 h1 W (he.below hW (Nat.le_refl _)) (hx.below hW)
    rw [HMY.out] at this
    exact this
  have HAE : Hid (∀ W, Below w.heap.size w W → Calls Tryz.prog 9 #[.slice a0 len cap] W fun e w' => e = .returned (.int .i64 ag) ∧ Below W.heap.size W w') := fun W hW => by
    have := age9_any ps hf a0 len cap b off W (hx.below hW)
    rw [HAG.out] at this
    exact this
  have HME : Hid (∀ W, Below w.heap.size w W → Calls Tryz.prog 17 #[.string me] W fun e w' => e = .returned (.string m) ∧ Below W.heap.size W w') := fun W hW => by
    have := method_any me z5 W (hm.below hW (Nat.le_refl _))
    rw [HM.out] at this
    exact this
  have HCV : Hid (∀ (l : List PsV) (a : Option Addr) (n c g o : Nat) (W : World), n ≤ 1000000 → Below w.heap.size w W → Pss W a n g o l → Calls Tryz.prog 11 #[.agg #[.int .i64 pt, .bool fs, .string fh, .int .i64 fp, .bool us, .string uh, .int .i64 up, .string pa, .string qu, .string me, .slice ra rl rc, .bool wi, .string bo], .slice a n c] W fun e w' => e = .returned (.bool (coversL wi m xs l)) ∧ Below W.heap.size W w') := fun l a n c g o W hn hW hp => by
    have := covers9_any hq hps ra rl rc rb ro hrl pt fp up fs us wi fh uh pa qu me bo z5 l a n c g o hn W (hm.below hW (Nat.le_refl _)) (hh.below hW) hp
    rw [HM.out, HXS.out] at this
    exact this
  have HPF : Hid (∀ (ms hs : List ByteArray) (ma ha : Option Addr) (mn mc mb mo hn hc hb ho : Nat) (W : World), ms.length ≤ 100 → hs.length ≤ 100 → (∀ x ∈ hs, x.size ≤ 20000) → Strs W ma mn mb mo ms → Strs W ha hn hb ho hs → Calls Tryz.prog 18 #[.agg #[.int .i64 pt, .bool fs, .string fh, .int .i64 fp, .bool us, .string uh, .int .i64 up, .string pa, .string qu, .string me, .slice ra rl rc, .bool wi, .string bo], .int .i64 (now + ag), .slice ma mn mc, .slice ha hn hc] W fun e w' => (∃ v, e = .returned v ∧ OwnX p w' W.heap.size v (passL ms hs)) ∧ Below W.heap.size W w') := fun ms hs ma ha mn mc mb mo hn hc hb ho W l1 l2 l3 s1 s2 => by
    have := passesFor9_any pt fp up fs us wi fh uh pa qu me bo ra rl rc (by omega) (by omega) (by omega) (by omega) (now + ag) ms hs l1 l2 l3 ma ha mn mc mb mo hn hc hb ho W s1 s2
    rw [← HPB.out] at this
    exact this
  have HFT : Hid ((fieldT hN ps).length ≤ 13590) := hf.len hN
  clear hf hps he hm hx hh z1 z2 z3 z4 z5 h0 h1 HPB HM HXS HMY HAG
  go_enter Tryz.func8, Tryz.ntmps8
  go_wp2_with fail
  refine (HWM.out _ HQ.out.bel).mono ?_
  rintro e w1 ⟨ha1, hb1⟩
  have HQ1 : Hid (BoxQ 28 w #[.int .i64 pt, .bool fs, .string fh, .int .i64 fp, .bool us, .string uh, .int .i64 up, .string pa, .string qu, .string me, .slice ra rl rc, .bool wi, .string bo] w1) := HQ.out.step hb1
  have HA1 : Hid (WdsAns (wordsO (fieldT mN ps)) w.heap.size e w1) := by
    rcases ha1 with ⟨ms, v, e1, e2, e3⟩ | h
    · exact .inl ⟨ms, v, e1, e2, World.ownsRow.mono e3 HQ.out.bel.size⟩
    · exact .inr h
  clear ha1 hb1 HQ
  rcases HA1.out with ⟨ms, v, hms, rfl, hown⟩ | ⟨hms, rfl⟩
  case' inr =>
    have HE : Hid (grantL p y wi m xs ps = .error 3) := grantL_bad1 hms
    clear hms HA1
    go_wp2_with fail
    refine (HWH.out _ HQ1.out.bel).mono ?_
    rintro e w2 ⟨ha2, hb2⟩
    have HQ2 : Hid (BoxQ 28 w #[.int .i64 pt, .bool fs, .string fh, .int .i64 fp, .bool us, .string uh, .int .i64 up, .string pa, .string qu, .string me, .slice ra rl rc, .bool wi, .string bo] w2) := HQ1.out.step hb2
    clear hb2
    rcases ha2 with ⟨hs, v2, _, rfl, _⟩ | ⟨_, rfl⟩
    · go_wp2
      go_ret2
      exact ⟨.inr ⟨3, HE.out, rfl⟩, HQ2.out.bel⟩
    · go_wp2
      go_ret2
      exact ⟨.inr ⟨3, HE.out, rfl⟩, HQ2.out.bel⟩
  obtain ⟨ma, mc, mg, rfl, hmst⟩ := OwnS.strs hown
  have HMS : Hid (wordsO (fieldT mN ps) = some ms ∧ Strs w1 ma ms.length mg 0 ms) := ⟨hms, hmst⟩
  have hml : ms.length ≤ 40 := (wordsO_len hms).1
  obtain ⟨mn, HMN⟩ : ∃ mn, Hid (ms.length = mn) := ⟨_, rfl⟩
  rw [HMN.out] at HMS hml
  clear hms hown hmst HA1
  rw [HMN.out]
  go_wp2_with fail
  refine (HWH.out _ HQ1.out.bel).mono ?_
  rintro e w2 ⟨ha2, hb2⟩
  have HQ2 : Hid (BoxQ 28 w #[.int .i64 pt, .bool fs, .string fh, .int .i64 fp, .bool us, .string uh, .int .i64 up, .string pa, .string qu, .string me, .slice ra rl rc, .bool wi, .string bo] w2) := HQ1.out.step hb2
  have HMS2 : Hid (Strs w2 ma mn mg 0 ms) := HMS.out.2.below hb2
  clear hb2
  rcases ha2 with ⟨hs, v2, hhs, rfl, hown⟩ | ⟨hhs, rfl⟩
  case' inr =>
    have HE : Hid (grantL p y wi m xs ps = .error 3) := grantL_bad2 hhs
    clear hhs
    go_wp2
    go_ret2
    exact ⟨.inr ⟨3, HE.out, rfl⟩, HQ2.out.bel⟩
  obtain ⟨hha, hhc, hhg, rfl, hhst⟩ := OwnS.strs hown
  have HHS : Hid (wordsO (fieldT hN ps) = some hs ∧ Strs w2 hha hs.length hhg 0 hs) := ⟨hhs, hhst⟩
  have hhl : hs.length ≤ 40 := (wordsO_len hhs).1
  have HHZ : Hid (∀ x ∈ hs, x.size ≤ 20000) := fun x hx => Nat.le_trans ((wordsO_len hhs).2 x hx) (Nat.le_trans HFT.out (by decide))
  obtain ⟨hn, HHN⟩ : ∃ hn, Hid (hs.length = hn) := ⟨_, rfl⟩
  rw [HHN.out] at HHS hhl
  clear hhs hown hhst HQ1
  rw [HHN.out]
  have c0 := HQ2.out.at 0 _ rfl
  have c1 := HQ2.out.at 1 _ rfl
  have c2 := HQ2.out.at 2 _ rfl
  have c3 := HQ2.out.at 3 _ rfl
  have c4 := HQ2.out.at 4 _ rfl
  have c5 := HQ2.out.at 5 _ rfl
  have c6 := HQ2.out.at 6 _ rfl
  have c7 := HQ2.out.at 7 _ rfl
  have c8 := HQ2.out.at 8 _ rfl
  have c9 := HQ2.out.at 9 _ rfl
  have c10 := HQ2.out.at 10 _ rfl
  have c11 := HQ2.out.at 11 _ rfl
  have c12 := HQ2.out.at 12 _ rfl
  go_wp2_with fail
  refine (HMA.out _ HQ2.out.bel).mono ?_
  rintro e w3 ⟨rfl, hb3⟩
  have HQ3 : Hid (BoxQ 28 w #[.int .i64 pt, .bool fs, .string fh, .int .i64 fp, .bool us, .string uh, .int .i64 up, .string pa, .string qu, .string me, .slice ra rl rc, .bool wi, .string bo] w3) := HQ2.out.step hb3
  have HR3 : Hid (Strs w3 ma mn mg 0 ms ∧ Strs w3 hha hn hhg 0 hs) := ⟨HMS2.out.below hb3, HHS.out.2.below hb3⟩
  clear hb3 HQ2 HMS2 c0 c1 c2 c3 c4 c5 c6 c7 c8 c9 c10 c11 c12
  cases y
  · have HE : Hid (grantL p false wi m xs ps = .error 6) := grantL_no HMS.out.1 HHS.out.1
    go_wp2
    go_ret2
    exact ⟨.inr ⟨6, HE.out, rfl⟩, HQ3.out.bel⟩
  have c9 := HQ3.out.at 9 _ rfl
  go_upto_if 37 with fail
  go_cut [8] (fun v wc => ∃ (a : Option Addr) (n c g : Nat), v = .slice a n c ∧ n ≤ 40 ∧ Hid (Strs wc a n g 0 (msOf ms m) ∧ Strs wc hha hn hhg 0 hs ∧ BoxQ 28 w #[.int .i64 pt, .bool fs, .string fh, .int .i64 fp, .bool us, .string uh, .int .i64 up, .string pa, .string qu, .string me, .slice ra rl rc, .bool wi, .string bo] wc))
  case first =>
    by_cases hz : mn = 0
    · subst hz
      have HE : Hid (msOf ms m = [m]) := by show _ = _; unfold msOf; rw [if_pos HMN.out]
      go_wp2_with fail
      refine (HME.out _ HQ3.out.bel).mono ?_
      rintro e w4 ⟨rfl, hb4⟩
      have HB5 : Hid (Below w3.heap.size w3 (w4.alloc (.cells #[.string m] 9))) := hb4.alloc hb4.size _
      clear hb4
      go_wp2
      go_meet
      exact ⟨_, 1, _, w4.heap.size, rfl, by omega, ⟨by rw [HE.out]; exact strs_one w4 m, HR3.out.2.below HB5.out, HQ3.out.step HB5.out⟩⟩
    · have HE : Hid (msOf ms m = ms) := by show _ = _; unfold msOf; rw [if_neg (by rw [HMN.out]; exact hz)]
      have hzz : ¬ (mn : Int) = 0 := by omega
      go_wp2
      go_meet
      exact ⟨ma, mn, mc, mg, rfl, hml, ⟨by rw [HE.out]; exact HR3.out.1, HR3.out.2, HQ3.out⟩⟩
  case rest =>
    obtain ⟨qa, qn, qc, qg, rfl, hqn, HC⟩ := hcut
    obtain ⟨wp, rfl⟩ : ∃ x, x = wc := ⟨_, rfl⟩
    clear c9 HQ3 HR3
    obtain ⟨mt, HMT⟩ : ∃ mt, Hid (msOf ms m = mt) := ⟨_, rfl⟩
    have HC' : Hid (Strs wp qa qn qg 0 mt ∧ Strs wp hha hn hhg 0 hs ∧ BoxQ 28 w #[.int .i64 pt, .bool fs, .string fh, .int .i64 fp, .bool us, .string uh, .int .i64 up, .string pa, .string qu, .string me, .slice ra rl rc, .bool wi, .string bo] wp) := by rw [← HMT.out]; exact HC.out
    clear HC
    have hbase : ∀ W, Below wp.heap.size wp W → W.cell? ⟨w.heap.size, 0, none⟩ = some (.int .i64 pt) ∧ W.cell? ⟨w.heap.size, 1, none⟩ = some (.bool fs) ∧ W.cell? ⟨w.heap.size, 2, none⟩ = some (.string fh) ∧ W.cell? ⟨w.heap.size, 3, none⟩ = some (.int .i64 fp) ∧ W.cell? ⟨w.heap.size, 4, none⟩ = some (.bool us) ∧ W.cell? ⟨w.heap.size, 5, none⟩ = some (.string uh) ∧ W.cell? ⟨w.heap.size, 6, none⟩ = some (.int .i64 up) ∧ W.cell? ⟨w.heap.size, 7, none⟩ = some (.string pa) ∧ W.cell? ⟨w.heap.size, 8, none⟩ = some (.string qu) ∧ W.cell? ⟨w.heap.size, 9, none⟩ = some (.string me) ∧ W.cell? ⟨w.heap.size, 10, none⟩ = some (.slice ra rl rc) ∧ W.cell? ⟨w.heap.size, 11, none⟩ = some (.bool wi) ∧ W.cell? ⟨w.heap.size, 12, none⟩ = some (.string bo) ∧ Hid (Below wp.heap.size wp W) := fun W hW => (have hq := HC'.out.2.2.step hW; ⟨hq.at 0 _ rfl, hq.at 1 _ rfl, hq.at 2 _ rfl, hq.at 3 _ rfl, hq.at 4 _ rfl, hq.at 5 _ rfl, hq.at 6 _ rfl, hq.at 7 _ rfl, hq.at 8 _ rfl, hq.at 9 _ rfl, hq.at 10 _ rfl, hq.at 11 _ rfl, hq.at 12 _ rfl, hW⟩)
    have hS := hbase _ (Below.refl _ _).drew
    go_upto_region 9 with fail
    go_cut [12] (fun s12 w5 => ∃ v5 : Value, v5 = s12 ∧ Hid (Below wp.heap.size wp w5 ∧ OwnX p w5 wp.heap.size v5 (passL mt hs)))
    case first =>
      refine wp_region_held_drew (S := fun W => W.cell? ⟨w.heap.size, 0, none⟩ = some (.int .i64 pt) ∧ W.cell? ⟨w.heap.size, 1, none⟩ = some (.bool fs) ∧ W.cell? ⟨w.heap.size, 2, none⟩ = some (.string fh) ∧ W.cell? ⟨w.heap.size, 3, none⟩ = some (.int .i64 fp) ∧ W.cell? ⟨w.heap.size, 4, none⟩ = some (.bool us) ∧ W.cell? ⟨w.heap.size, 5, none⟩ = some (.string uh) ∧ W.cell? ⟨w.heap.size, 6, none⟩ = some (.int .i64 up) ∧ W.cell? ⟨w.heap.size, 7, none⟩ = some (.string pa) ∧ W.cell? ⟨w.heap.size, 8, none⟩ = some (.string qu) ∧ W.cell? ⟨w.heap.size, 9, none⟩ = some (.string me) ∧ W.cell? ⟨w.heap.size, 10, none⟩ = some (.slice ra rl rc) ∧ W.cell? ⟨w.heap.size, 11, none⟩ = some (.bool wi) ∧ W.cell? ⟨w.heap.size, 12, none⟩ = some (.string bo) ∧ Hid (Below wp.heap.size wp W)) (by kernel_rfl) hS (fun hHeld => ?_)
      refine takeH (i := 0) (d := some 42) (v := ?_) rfl rfl (by kernel_rfl) (by kernel_rfl) (by kernel_rfl) (fun _ _ _ h => h) (by rfl) ?_ (by assumption) ?_
      rotate_left
      · intro w hSw; (try dsimp only at hSw); obtain ⟨q0, q1, q2, q3, q4, q5, q6, q7, q8, q9, q10, q11, q12, _⟩ := hSw; go_simp; with_reducible rfl
      try simp only [Act.put, List.setIfInBounds_toArray, List.set_cons_zero, List.set_cons_succ]
      refine takeH (i := 1) (d := some 43) (v := ?_) rfl rfl (by kernel_rfl) (by kernel_rfl) (by kernel_rfl) (fun _ _ _ h => h) (by rfl) ?_ (by assumption) ?_
      rotate_left
      · intro w hSw; (try dsimp only at hSw); obtain ⟨q0, q1, q2, q3, q4, q5, q6, q7, q8, q9, q10, q11, q12, _⟩ := hSw; go_simp; with_reducible rfl
      try simp only [Act.put, List.setIfInBounds_toArray, List.set_cons_zero, List.set_cons_succ]
      refine takeH (i := 2) (d := some 44) (v := ?_) rfl rfl (by kernel_rfl) (by kernel_rfl) (by kernel_rfl) (fun _ _ _ h => h) (by rfl) ?_ (by assumption) ?_
      rotate_left
      · intro w hSw; (try dsimp only at hSw); obtain ⟨q0, q1, q2, q3, q4, q5, q6, q7, q8, q9, q10, q11, q12, _⟩ := hSw; go_simp; with_reducible rfl
      try simp only [Act.put, List.setIfInBounds_toArray, List.set_cons_zero, List.set_cons_succ]
      refine takeH (i := 5) (d := some 47) (v := ?_) rfl rfl (by kernel_rfl) (by kernel_rfl) (by kernel_rfl) (fun _ _ _ h => h) (by rfl) ?_ (by assumption) ?_
      rotate_left
      · intro w hSw; (try dsimp only at hSw); obtain ⟨q0, q1, q2, q3, q4, q5, q6, q7, q8, q9, q10, q11, q12, _⟩ := hSw; go_simp; with_reducible rfl
      try simp only [Act.put, List.setIfInBounds_toArray, List.set_cons_zero, List.set_cons_succ]
      refine takeH (i := 6) (d := some 48) (v := ?_) rfl rfl (by kernel_rfl) (by kernel_rfl) (by kernel_rfl) (fun _ _ _ h => h) (by rfl) ?_ (by assumption) ?_
      rotate_left
      · intro w hSw; (try dsimp only at hSw); obtain ⟨q0, q1, q2, q3, q4, q5, q6, q7, q8, q9, q10, q11, q12, _⟩ := hSw; go_simp; with_reducible rfl
      try simp only [Act.put, List.setIfInBounds_toArray, List.set_cons_zero, List.set_cons_succ]
      refine wpAnyH_ready (rs := [3]) (by kernel_rfl) (by simp) ?_
      refine AllReadyH.cons (by rfl) (fun K hKK => ?_) AllReadyH.nil
      go_simp
      refine (HAE.out _ (HC'.out.2.2.bel.trans ((show Below wp.heap.size wp wp.drew from (Below.refl _ _).drew).mono HC'.out.2.2.bel.size))).mono ?_
      rintro e w4 ⟨rfl, hb4⟩
      have HB4 : Hid (Below wp.heap.size wp w4) := (show Below wp.heap.size wp wp.drew from (Below.refl _ _).drew).trans hb4
      clear hb4
      go_wp2_with fail
      refine hKK.out _ _ (hbase _ HB4.out) (fun hHeld => ?_)
      clear hKK K
      try simp only [Act.put, List.setIfInBounds_toArray, List.set_cons_zero, List.set_cons_succ]
      have hwr : IntKind.i64.wrap (now + ag) = now + ag := wrap64_id (by omega) (by omega)
      refine takeH (i := 4) (d := some 46) (v := ?_) rfl rfl (by kernel_rfl) (by kernel_rfl) (by kernel_rfl) (fun _ _ _ h => h) (by rfl) ?_ (by assumption) ?_
      rotate_left
      · intro w hSw; (try dsimp only at hSw); obtain ⟨q0, q1, q2, q3, q4, q5, q6, q7, q8, q9, q10, q11, q12, _⟩ := hSw; go_simp; with_reducible rfl
      try simp only [Act.put, List.setIfInBounds_toArray, List.set_cons_zero, List.set_cons_succ]
      refine wpAnyH_ready (rs := [7]) (by kernel_rfl) (by simp) ?_
      refine AllReadyH.cons (by rfl) (fun K hKK => ?_) AllReadyH.nil
      go_simp
      refine (HPF.out mt hs qa hha qn qc qg 0 hn hhc hhg 0 _ (by have := HC'.out.1.len_eq; omega) (by have := HC'.out.2.1.len_eq; omega) HHZ.out (HC'.out.1.below HB4.out) (HC'.out.2.1.below HB4.out)).mono ?_
      rintro e w5 ⟨⟨v5, rfl, hv5⟩, hb5⟩
      have HB5 : Hid (Below wp.heap.size wp w5) := HB4.out.trans (hb5.mono HB4.out.size)
      have HV5 : Hid (OwnX p w5 wp.heap.size v5 (passL mt hs)) := OwnK.mono hv5 HB4.out.size
      clear hv5 hb5
      go_wp2_with fail
      refine hKK.out _ _ (hbase _ HB5.out) (fun hHeld => ?_)
      clear hKK K
      try simp only [Act.put, List.setIfInBounds_toArray, List.set_cons_zero, List.set_cons_succ]
      refine takeH (i := 8) (d := some 12) (v := ?_) rfl rfl (by kernel_rfl) (by kernel_rfl) (by kernel_rfl) (fun _ _ _ h => h) (by rfl) ?_ (by assumption) ?_
      rotate_left
      · intro w hSw; (try dsimp only at hSw); obtain ⟨q0, q1, q2, q3, q4, q5, q6, q7, q8, q9, q10, q11, q12, _⟩ := hSw; go_simp; with_reducible rfl
      try simp only [Act.put, List.setIfInBounds_toArray, List.set_cons_zero, List.set_cons_succ]
      refine wpAnyH_done (by kernel_rfl) ?_ _
      go_wp2_with fail
      go_meet
      exact ⟨v5, rfl, ⟨HB5.out, HV5.out⟩⟩
    case rest =>
    obtain ⟨v5, rfl, HV⟩ := hcut
    obtain ⟨w5, rfl⟩ : ∃ x, x = wc := ⟨_, rfl⟩
    have HB5 : Hid (Below wp.heap.size wp w5) := HV.out.1
    have HV5 : Hid (OwnX p w5 wp.heap.size v5 (passL mt hs)) := HV.out.2
    have hS5 := hbase _ HB5.out
    clear HV
    obtain ⟨xa, xc, xg, rfl, hps5⟩ := OwnX.pss HV5.out
    have HX5 : Hid (OwnX p w5 wp.heap.size (.slice xa (passL mt hs).length xc) (passL mt hs) ∧ Pss w5 xa (passL mt hs).length xg 0 ((passL mt hs).map p.of)) := ⟨HV5.out, hps5⟩
    have hpl : (passL mt hs).length ≤ 80 := by have := passL_len mt hs; have := HC'.out.1.len_eq; have := HC'.out.2.1.len_eq; omega
    obtain ⟨t, HT⟩ : ∃ t, Hid (coversL wi m xs ((passL mt hs).map p.of) = t) := ⟨_, rfl⟩
    have HG : Hid (grantL p true wi m xs ps = if t then .ok (passL mt hs) else .error 6) := by
      have e := grantL_cov (p := p) HMS.out.1 HHS.out.1 (t := t) (by rw [HMT.out]; exact HT.out)
      rw [HMT.out] at e
      exact e
    obtain ⟨pn, HPN⟩ : ∃ pn, Hid ((passL mt hs).length = pn) := ⟨_, rfl⟩
    rw [HPN.out] at HX5 hpl
    clear hps5 HV5 hS hbase
    obtain ⟨d0, d1, d2, d3, d4, d5, d6, d7, d8, d9, d10, d11, d12, _⟩ := hS5
    have HBW5 : Hid (Below w.heap.size w w5) := HC'.out.2.2.bel.trans (HB5.out.mono HC'.out.2.2.bel.size)
    rw [HPN.out]
    go_wp2_with fail
    refine (HCV.out _ xa pn xc xg 0 _ (by omega) HBW5.out HX5.out.2).mono ?_
    rintro e w6 ⟨rfl, hb6⟩
    rw [HT.out]
    have HB6 : Hid (Below w.heap.size w w6) := HBW5.out.trans (hb6.mono HBW5.out.size)
    have HX6 : Hid (OwnX p w6 w.heap.size (.slice xa pn xc) (passL mt hs)) := OwnK.mono (HX5.out.1.below hb6) HC'.out.2.2.bel.size
    clear hb6 d0 d1 d2 d3 d4 d5 d6 d7 d8 d9 d10 d11 d12
    cases t
    · go_wp2
      go_ret2
      exact ⟨.inr ⟨6, HG.out, rfl⟩, HB6.out⟩
    · go_wp2
      go_ret2
      exact ⟨.inl ⟨passL mt hs, _, HG.out, by rw [HPN.out]; exact hpl, rfl, HX6.out⟩, HB6.out⟩
end Go.Proofs.YthoblggjhdnlpaaGreatDoor

/- The fact that servers' answers are read and held. -/
namespace Go.Proofs.YthoblggjhdnlpaaGreatDoor
open Go.RowKit

theorem asked_none : askedL [] = [] := by
  have h : tx (askedNames []) = [] := by decide +kernel
  have h2 : sortL [] = [] := List.eq_nil_of_length_eq_zero (sortL_len [])
  unfold askedL
  rw [h, h2]
  rfl
def granS : ByteArray := ⟨#[65, 99, 99, 101, 115, 115, 45, 67, 111, 110, 116, 114, 111, 108, 45, 65, 108, 108, 111, 119, 45, 79, 114, 105, 103, 105, 110, 58, 32, 104, 116, 116, 112, 115, 58, 47, 47, 97, 46, 116, 101, 115, 116, 10, 65, 99, 99, 101, 115, 115, 45, 67, 111, 110, 116, 114, 111, 108, 45, 65, 108, 108, 111, 119, 45, 77, 101, 116, 104, 111, 100, 115, 58, 32, 80, 85, 84, 44, 88]⟩
def granF : List Par := [(⟨#[65, 99, 99, 101, 115, 115, 45, 67, 111, 110, 116, 114, 111, 108, 45, 65, 108, 108, 111, 119, 45, 79, 114, 105, 103, 105, 110]⟩, ⟨#[104, 116, 116, 112, 115, 58, 47, 47, 97, 46, 116, 101, 115, 116]⟩), (⟨#[65, 99, 99, 101, 115, 115, 45, 67, 111, 110, 116, 114, 111, 108, 45, 65, 108, 108, 111, 119, 45, 77, 101, 116, 104, 111, 100, 115]⟩, ⟨#[80, 85, 84, 44, 88]⟩)]
theorem granF_is : fieldsF granS.data.toList = .ok granF := by kernel_rfl
theorem granF_few : Few9 granF := by unfold Few9; decide +kernel
theorem granF_age : ageL granF = 5 := by kernel_rfl
theorem gran_may : mayL false (textL true (⟨#[97, 46, 116, 101, 115, 116]⟩ : ByteArray).data.toList 443) granF = true := by kernel_rfl
theorem gran_put : methodB ⟨#[80, 85, 84]⟩ = ⟨#[80, 85, 84]⟩ := by kernel_rfl
theorem gran_grant (p : PsV) : grantL p true false ⟨#[80, 85, 84]⟩ [] granF = .ok [(⟨#[80, 85, 84]⟩, ⟨#[]⟩), (⟨#[88]⟩, ⟨#[]⟩)] := by
  have h1 : wordsO (fieldT mN granF) = some [⟨#[80, 85, 84]⟩, ⟨#[88]⟩] := by kernel_rfl
  have h2 : wordsO (fieldT hN granF) = some [] := by kernel_rfl
  have h3 : passL (msOf [⟨#[80, 85, 84]⟩, ⟨#[88]⟩] ⟨#[80, 85, 84]⟩) [] = [(⟨#[80, 85, 84]⟩, ⟨#[]⟩), (⟨#[88]⟩, ⟨#[]⟩)] := by kernel_rfl
  have h4 : coversL false ⟨#[80, 85, 84]⟩ [] ((passL (msOf [⟨#[80, 85, 84]⟩, ⟨#[88]⟩] ⟨#[80, 85, 84]⟩) []).map p.of) = true := by
    rw [h3]
    unfold coversL
    simp [okM, PsV.of]
  rw [grantL_cov h1 h2 h4, if_pos rfl, h3]
theorem gran_cov : coversL false ⟨#[80, 85, 84]⟩ [] [] = false := by decide +kernel
theorem gran_same : sameO true ⟨#[97, 46, 116, 101, 115, 116]⟩ 443 true ⟨#[98, 46, 116, 101, 115, 116]⟩ 443 = false := by decide +kernel
set_option maxRecDepth 100000 in
set_option maxHeartbeats 8000000 in
theorem granted_any (w : World) (he : Env w) (hm : Methods w) : Calls Tryz.prog 4 #[] w fun e w' => e = .returned (.bool true) ∧ Below w.heap.size w w' := by
  have HQ : Hid (BoxQ 28 w #[.int .i64 0, .bool true, .string ⟨#[97, 46, 116, 101, 115, 116]⟩, .int .i64 443, .bool true, .string ⟨#[98, 46, 116, 101, 115, 116]⟩, .int .i64 443, .string ⟨#[47]⟩, .string ⟨#[]⟩, .string ⟨#[80, 85, 84]⟩, .slice none 0 0, .bool false, .string ⟨#[]⟩] (w.alloc (.cells #[.int .i64 0, .bool true, .string ⟨#[97, 46, 116, 101, 115, 116]⟩, .int .i64 443, .bool true, .string ⟨#[98, 46, 116, 101, 115, 116]⟩, .int .i64 443, .string ⟨#[47]⟩, .string ⟨#[]⟩, .string ⟨#[80, 85, 84]⟩, .slice none 0 0, .bool false, .string ⟨#[]⟩] 28))) := BoxQ.new _ _ _
  have HE : Hid (∀ W, Below w.heap.size w W → Env W ∧ Methods W) := fun W hW => ⟨he.below hW (Nat.le_refl _), hm.below hW (Nat.le_refl _)⟩
  have hfl := fields9_any granS (by decide +kernel) (w.alloc (.cells #[.int .i64 0, .bool true, .string ⟨#[97, 46, 116, 101, 115, 116]⟩, .int .i64 443, .bool true, .string ⟨#[98, 46, 116, 101, 115, 116]⟩, .int .i64 443, .string ⟨#[47]⟩, .string ⟨#[]⟩, .string ⟨#[80, 85, 84]⟩, .slice none 0 0, .bool false, .string ⟨#[]⟩] 28))
  rw [granF_is] at hfl
  clear he hm
  go_enter Tryz.func4, Tryz.ntmps4
  go_wp2_with fail
  refine hfl.mono ?_
  rintro e w1 ⟨ha, hb1⟩
  have HQ1 : Hid (BoxQ 28 w #[.int .i64 0, .bool true, .string ⟨#[97, 46, 116, 101, 115, 116]⟩, .int .i64 443, .bool true, .string ⟨#[98, 46, 116, 101, 115, 116]⟩, .int .i64 443, .string ⟨#[47]⟩, .string ⟨#[]⟩, .string ⟨#[80, 85, 84]⟩, .slice none 0 0, .bool false, .string ⟨#[]⟩] w1) := HQ.out.step hb1
  clear hfl hb1
  obtain ⟨v, rfl, hown⟩ : ∃ v, e = .returned (.tuple #[v, .nilIface]) ∧ OwnP w1 w.heap.size v granF := by
    rcases ha with ⟨acc, v, h1, _, h3, h4⟩ | ⟨h1, _⟩ | ⟨i, g, h1, _⟩
    · injection h1 with h1
      subst h1
      exact ⟨v, h3, h4.mono9 HQ.out.bel.size⟩
    · cases h1
    · cases h1
  obtain ⟨a, cap, g, rfl, hps, _⟩ := hown.pars
  have hl2 : granF.length = 2 := rfl
  rw [hl2] at hps
  have HP1 : Hid (Pars w1 a 2 g 0 granF) := hps
  clear ha hown hps HQ
  rw [hl2]
  have c0 := HQ1.out.at 0 _ rfl
  have c1 := HQ1.out.at 1 _ rfl
  have c2 := HQ1.out.at 2 _ rfl
  have c3 := HQ1.out.at 3 _ rfl
  have c4 := HQ1.out.at 4 _ rfl
  have c5 := HQ1.out.at 5 _ rfl
  have c6 := HQ1.out.at 6 _ rfl
  have c7 := HQ1.out.at 7 _ rfl
  have c8 := HQ1.out.at 8 _ rfl
  have c9 := HQ1.out.at 9 _ rfl
  have c10 := HQ1.out.at 10 _ rfl
  have c11 := HQ1.out.at 11 _ rfl
  have c12 := HQ1.out.at 12 _ rfl
  go_wp2_with fail
  have hgr := grant9_any granF granF_few a 2 cap g 0 [] (by intro p hp; cases hp) none 0 0 0 0 (by decide) 0 443 443 true true false ⟨#[97, 46, 116, 101, 115, 116]⟩ ⟨#[98, 46, 116, 101, 115, 116]⟩ ⟨#[47]⟩ ⟨#[]⟩ ⟨#[80, 85, 84]⟩ ⟨#[]⟩ (by decide) (by decide) (by decide) (by decide) (by decide) (by decide) (by decide) 10 (by decide) (by decide) w1 (HE.out _ HQ1.out.bel).1 (HE.out _ HQ1.out.bel).2 HP1.out ⟨rfl, fun h => absurd h (by omega), fun j p hp => by simp at hp, fun j p hp => by simp at hp⟩
  rw [gran_may, gran_put, asked_none, gran_grant] at hgr
  refine hgr.mono ?_
  rintro e w2 ⟨ha, hb2⟩
  have HQ2 : Hid (BoxQ 28 w #[.int .i64 0, .bool true, .string ⟨#[97, 46, 116, 101, 115, 116]⟩, .int .i64 443, .bool true, .string ⟨#[98, 46, 116, 101, 115, 116]⟩, .int .i64 443, .string ⟨#[47]⟩, .string ⟨#[]⟩, .string ⟨#[80, 85, 84]⟩, .slice none 0 0, .bool false, .string ⟨#[]⟩] w2) := HQ1.out.step hb2
  have HP2 : Hid (Pars w2 a 2 g 0 granF) := HP1.out.below hb2
  clear hgr hb2 HQ1 HP1 c0 c1 c2 c3 c4 c5 c6 c7 c8 c9 c10 c11 c12
  obtain ⟨v, rfl, hown⟩ : ∃ v, e = .returned (.tuple #[v, .nilIface]) ∧ OwnX ⟨true, ⟨#[97, 46, 116, 101, 115, 116]⟩, 443, true, ⟨#[98, 46, 116, 101, 115, 116]⟩, 443, ⟨#[47]⟩, ⟨#[]⟩, false, ⟨#[]⟩, ⟨#[]⟩, 10 + ageL granF⟩ w2 w1.heap.size v [(⟨#[80, 85, 84]⟩, ⟨#[]⟩), (⟨#[88]⟩, ⟨#[]⟩)] := by
    rcases ha with ⟨l, v, h1, _, h3, h4⟩ | ⟨n, h1, _⟩
    · injection h1 with h1
      subst h1
      exact ⟨v, h3, h4⟩
    · cases h1
  obtain ⟨xa, xc, xg, rfl, hpx⟩ := hown.pss
  obtain ⟨hxa, _⟩ := hpx.lies (by decide)
  subst hxa
  have hp9 := (hpx.all (j := 0) rfl).2.2.2.2.2.2.2.2.2.1
  have hp11 := (hpx.all (j := 1) rfl).2.2.2.2.2.2.2.2.2.2.2
  rw [granF_age] at hp11
  simp only [PsV.of, Nat.zero_add, Nat.zero_mul, Nat.one_mul, Nat.reduceAdd, Int.reduceAdd] at hp9 hp11
  clear ha hown hpx
  simp only [List.length_cons, List.length_nil, Nat.zero_add, Nat.reduceAdd]
  have d0 := HQ2.out.at 0 _ rfl
  have d1 := HQ2.out.at 1 _ rfl
  have d2 := HQ2.out.at 2 _ rfl
  have d3 := HQ2.out.at 3 _ rfl
  have d4 := HQ2.out.at 4 _ rfl
  have d5 := HQ2.out.at 5 _ rfl
  have d6 := HQ2.out.at 6 _ rfl
  have d7 := HQ2.out.at 7 _ rfl
  have d8 := HQ2.out.at 8 _ rfl
  have d9 := HQ2.out.at 9 _ rfl
  have d10 := HQ2.out.at 10 _ rfl
  have d11 := HQ2.out.at 11 _ rfl
  have d12 := HQ2.out.at 12 _ rfl
  have hn := needs9_any [] (by intro p hp; cases hp) none 0 0 0 0 (by decide) 0 443 443 true true false ⟨#[97, 46, 116, 101, 115, 116]⟩ ⟨#[98, 46, 116, 101, 115, 116]⟩ ⟨#[47]⟩ ⟨#[]⟩ ⟨#[80, 85, 84]⟩ ⟨#[]⟩ (by decide) w2 (HE.out _ HQ2.out.bel).2 ⟨rfl, fun h => absurd h (by omega), fun j p hp => by simp at hp, fun j p hp => by simp at hp⟩
  rw [gran_put, asked_none, gran_cov, gran_same] at hn
  go_wp2_with fail
  refine hn.mono ?_
  rintro e w3 ⟨rfl, hb3⟩
  have HQ3 : Hid (BoxQ 28 w #[.int .i64 0, .bool true, .string ⟨#[97, 46, 116, 101, 115, 116]⟩, .int .i64 443, .bool true, .string ⟨#[98, 46, 116, 101, 115, 116]⟩, .int .i64 443, .string ⟨#[47]⟩, .string ⟨#[]⟩, .string ⟨#[80, 85, 84]⟩, .slice none 0 0, .bool false, .string ⟨#[]⟩] w3) := HQ2.out.step hb3
  have HP3 : Hid (Pars w3 a 2 g 0 granF) := HP2.out.below hb3
  clear hn hb3 HQ2 HP2 d0 d1 d2 d3 d4 d5 d6 d7 d8 d9 d10 d11 d12 hp9 hp11
  have e0 := HQ3.out.at 0 _ rfl
  have e1 := HQ3.out.at 1 _ rfl
  have e2 := HQ3.out.at 2 _ rfl
  have e3 := HQ3.out.at 3 _ rfl
  have e4 := HQ3.out.at 4 _ rfl
  have e5 := HQ3.out.at 5 _ rfl
  have e6 := HQ3.out.at 6 _ rfl
  have e7 := HQ3.out.at 7 _ rfl
  have e8 := HQ3.out.at 8 _ rfl
  have e9 := HQ3.out.at 9 _ rfl
  have e10 := HQ3.out.at 10 _ rfl
  have e11 := HQ3.out.at 11 _ rfl
  have e12 := HQ3.out.at 12 _ rfl
  have hma := may9_any granF granF_few a 2 cap g 0 0 443 443 true true ⟨#[97, 46, 116, 101, 115, 116]⟩ ⟨#[98, 46, 116, 101, 115, 116]⟩ ⟨#[47]⟩ ⟨#[]⟩ ⟨#[80, 85, 84]⟩ ⟨#[]⟩ none 0 0 false (by decide) (by decide) (by decide) w3 (HE.out _ HQ3.out.bel).1 HP3.out
  rw [gran_may] at hma
  go_wp2_with fail
  refine hma.mono ?_
  rintro e w4 ⟨rfl, hb4⟩
  have HB4 : Hid (Below w.heap.size w w4) := HQ3.out.inB hb4
  clear hma hb4
  go_wp2
  go_ret
  exact ⟨rfl, HB4.out⟩
end Go.Proofs.YthoblggjhdnlpaaGreatDoor

/- Whether a request is few bytes, by the law's own words. -/
namespace Go.Proofs.YthoblggjhdnlpaaGreatDoor
open Go.RowKit

def rightB (hs : List Par) (n : Nat) : Bool := fewL hs && decide (n ≤ 600)
theorem rightB_small {hs : List Par} {n : Nat} (h : rightB hs n = true) : hs.length ≤ 40 ∧ (∀ p ∈ hs, p.1.size + p.2.size ≤ 300) ∧ n ≤ 600 := by
  unfold rightB at h
  rw [Bool.and_eq_true, decide_eq_true_eq] at h
  obtain ⟨h1, h2⟩ := fewL_small h.1
  exact ⟨h1, h2, h.2⟩
set_option maxRecDepth 100000 in
set_option maxHeartbeats 4000000 in
theorem rightful_any (hs : List Par) (hz : ∀ p ∈ hs, p.1.size ≤ 140737488355328 ∧ p.2.size ≤ 140737488355328) (ra : Option Addr) (rl rc rb ro : Nat) (hlb : rl ≤ 9223372036854775807)
    (pt fp up : Int) (fs us wi : Bool) (fh uh pa qu me bo : ByteArray) (h1 : fh.size ≤ 140737488355328) (h2 : uh.size ≤ 140737488355328) (h3 : pa.size ≤ 140737488355328) (h4 : qu.size ≤ 140737488355328) (h5 : me.size ≤ 140737488355328) (w : World) (hh : Pars w ra rl rb ro hs) :
    Calls Tryz.prog 5 #[.agg #[.int .i64 pt, .bool fs, .string fh, .int .i64 fp, .bool us, .string uh, .int .i64 up, .string pa, .string qu, .string me, .slice ra rl rc, .bool wi, .string bo]] w fun e w' => e = .returned (.bool (rightB hs (me.size + pa.size + qu.size + uh.size + fh.size))) ∧ Below w.heap.size w w' := by
  have HQ : Hid (BoxQ 28 w #[.int .i64 pt, .bool fs, .string fh, .int .i64 fp, .bool us, .string uh, .int .i64 up, .string pa, .string qu, .string me, .slice ra rl rc, .bool wi, .string bo] (w.alloc (.cells #[.int .i64 pt, .bool fs, .string fh, .int .i64 fp, .bool us, .string uh, .int .i64 up, .string pa, .string qu, .string me, .slice ra rl rc, .bool wi, .string bo] 28))) := BoxQ.new _ _ _
  have hfw := few_any hs hz ra rl rc rb ro hlb _ (hh.below HQ.out.bel)
  obtain ⟨q, HF⟩ : ∃ q, Hid (fewL hs = q) := ⟨_, rfl⟩
  rw [HF.out] at hfw
  have HD : Hid (decide (me.size + pa.size + qu.size + uh.size + fh.size ≤ 600) = decide ((me.size : Int) + (pa.size : Int) + (qu.size : Int) + (uh.size : Int) + (fh.size : Int) ≤ 600)) := by
    show _ = _
    rw [decide_eq_decide]
    omega
  have HR : Hid (rightB hs (me.size + pa.size + qu.size + uh.size + fh.size) = (q && decide ((me.size : Int) + (pa.size : Int) + (qu.size : Int) + (uh.size : Int) + (fh.size : Int) ≤ 600))) := by show _ = _; unfold rightB; rw [HF.out, HD.out]
  have c10 := HQ.out.at 10 _ rfl
  clear hz hh
  go_enter Tryz.func5, Tryz.ntmps5
  go_wp2_with fail
  refine hfw.mono ?_
  rintro e w1 ⟨rfl, hb1⟩
  have HQ1 : Hid (BoxQ 28 w #[.int .i64 pt, .bool fs, .string fh, .int .i64 fp, .bool us, .string uh, .int .i64 up, .string pa, .string qu, .string me, .slice ra rl rc, .bool wi, .string bo] w1) := HQ.out.step hb1
  clear hfw hb1 c10 HQ
  have c2 := HQ1.out.at 2 _ rfl
  have c5 := HQ1.out.at 5 _ rfl
  have c7 := HQ1.out.at 7 _ rfl
  have c8 := HQ1.out.at 8 _ rfl
  have c9 := HQ1.out.at 9 _ rfl
  cases q
  · go_wp2
    go_ret
    exact ⟨ret_bool (by rw [HR.out]; rfl), HQ1.out.bel⟩
  · go_wp2
    go_ret
    exact ⟨ret_bool (by rw [HR.out, Bool.true_and]), HQ1.out.bel⟩
end Go.Proofs.YthoblggjhdnlpaaGreatDoor

/- Each pass of an answer is one of a method, or one of a header. -/
namespace Go.Proofs.YthoblggjhdnlpaaGreatDoor

theorem listP_ne : ∀ (P : List (List UInt8)) (k : Nat) (ws : List (List UInt8)), listP k P = .ok ws → ∀ w ∈ ws, w ≠ []
  | [], k, ws, h, w, hw => by
    simp only [listP, Except.ok.injEq] at h
    rw [← h] at hw
    cases hw
  | p :: r, k, ws, h, w, hw => by
    rw [listP] at h
    split at h
    · rcases e : listP (k + p.length + 1) r with x | ys
      · rw [e] at h
        cases h
      · rw [e] at h
        have h' : consW (wordP p) ys = ws := by injection h
        rw [← h'] at hw
        have ih := listP_ne r _ ys e
        unfold consW at hw
        split at hw
        · exact ih w hw
        · rename_i hne
          rcases List.mem_cons.1 hw with hw | hw
          · rw [hw]; exact hne
          · exact ih w hw
    · cases h
theorem wordsO_ne {x : List UInt8} {xs : List ByteArray} (h : wordsO x = some xs) : ∀ w ∈ xs, w.size ≠ 0 := by
  unfold wordsO at h
  split at h
  · rename_i ws hws
    split at h
    · simp only [Option.some.injEq] at h
      rw [← h]
      intro w hw
      obtain ⟨v, hv, rfl⟩ := List.mem_map.1 hw
      rw [bs_size]
      intro h0
      exact listP_ne _ _ _ hws v hv (List.eq_nil_of_length_eq_zero h0)
    · cases h
  · cases h
/-- One of both is empty, and just one. -/
def oneX (x : ByteArray × ByteArray) : Prop := (x.1.size = 0) ≠ (x.2.size = 0)
theorem foldX_all {P : ByteArray × ByteArray → Prop} : ∀ (l s : List (ByteArray × ByteArray)), (∀ x ∈ s, P x) → (∀ x ∈ l, P x) → ∀ x ∈ l.foldl addX s, P x
  | [], s, hs, _, x, hx => hs x hx
  | y :: r, s, hs, hl, x, hx => by
    rw [List.foldl_cons] at hx
    refine foldX_all r (addX s y) (fun z hz => ?_) (fun z hz => hl z (List.mem_cons_of_mem _ hz)) x hx
    unfold addX at hz
    split at hz
    · exact hs z hz
    · rcases List.mem_append.1 hz with hz | hz
      · exact hs z hz
      · rw [List.mem_singleton.1 hz]
        exact hl y List.mem_cons_self
theorem passL_one {ms hs : List ByteArray} (hm : ∀ w ∈ ms, w.size ≠ 0) (hh : ∀ w ∈ hs, w.size ≠ 0) : ∀ x ∈ passL ms hs, oneX x := by
  unfold passL passM
  refine foldX_all _ _ (foldX_all _ _ (fun x hx => by cases hx) (fun x hx => ?_)) (fun x hx => ?_)
  · obtain ⟨m, h1, rfl⟩ := List.mem_map.1 hx
    intro e
    have e' : (m.size = 0) = ((⟨#[]⟩ : ByteArray).size = 0) := e
    exact hm m h1 (e'.mpr rfl)
  · obtain ⟨h, h1, rfl⟩ := List.mem_map.1 hx
    have := hh h h1
    intro e
    have e' : ((⟨#[]⟩ : ByteArray).size = 0) = ((bs (h.data.toList.map low)).size = 0) := e
    have h2 := e'.mp rfl
    rw [bs_size, List.length_map, Array.length_toList] at h2
    exact this h2
theorem msOf_ne {ms : List ByteArray} {m : ByteArray} (hm : ∀ w ∈ ms, w.size ≠ 0) (h : m.size ≠ 0) : ∀ w ∈ msOf ms m, w.size ≠ 0 := by
  unfold msOf
  split
  · intro w hw
    rw [List.mem_singleton.1 hw]
    exact h
  · exact hm
theorem grantL_ok {p : PsV} {may wi : Bool} {m : ByteArray} {xs : List ByteArray} {ps : List Par} {l : List (ByteArray × ByteArray)} (hm : m.size ≠ 0) (h : grantL p may wi m xs ps = .ok l) :
    may = true ∧ coversL wi m xs (l.map p.of) = true ∧ ∀ x ∈ l, oneX x := by
  unfold grantL at h
  split at h
  · rename_i ms hs h1 h2
    split at h
    · cases h
    · rename_i hmay
      split at h
      · rename_i hc
        injection h with h
        subst h
        exact ⟨by simpa using hmay, hc, passL_one (msOf_ne (wordsO_ne h1) hm) (wordsO_ne h2)⟩
      · cases h
  · cases h
end Go.Proofs.YthoblggjhdnlpaaGreatDoor

/- One of n that a number stands for. -/
namespace Go.Proofs.YthoblggjhdnlpaaGreatDoor
open Go.RowKit

def pickI (a n : Int) : Int := (a % 18446744073709551616) % n
theorem pickI_in (a n : Int) (h : 0 < n) : 0 ≤ pickI a n ∧ pickI a n < n := ⟨Int.emod_nonneg _ (by omega), Int.emod_lt_of_pos _ h⟩
theorem u64_wrap (a : Int) : IntKind.u64.wrap a = a % 18446744073709551616 := rfl
theorem pick_eq (a n : Int) (hn : 0 < n) (hn2 : n ≤ 4611686018427387904) : wrap64 ((IntKind.u64.wrap a).tmod n) = pickI a n := by
  rw [u64_wrap, Int.tmod_eq_emod_of_nonneg (Int.emod_nonneg _ (by decide))]
  have h := pickI_in a n hn
  unfold pickI at *
  unfold wrap64
  omega
set_option maxRecDepth 100000 in
set_option maxHeartbeats 1000000 in
theorem pick_any (a n : Int) (_h0 : -9223372036854775808 ≤ a) (_h1 : a ≤ 9223372036854775807) (hn : 0 < n) (hn2 : n ≤ 4611686018427387904) (w : World) :
    Calls Tryz.prog 7 #[.int .i64 a, .int .i64 n] w fun e w' => e = .returned (.int .i64 (pickI a n)) ∧ w' = w := by
  go_enter Tryz.func7, Tryz.ntmps7
  go_wp2
  go_ret
  exact ⟨congrArg (fun x => Ending.returned (.int .i64 x)) (pick_eq a n hn hn2), rfl⟩
end Go.Proofs.YthoblggjhdnlpaaGreatDoor

/- The law GrantCovers, walked. -/
namespace Go.Proofs.YthoblggjhdnlpaaGreatDoor
open Go.RowKit
set_option linter.unusedVariables false
set_option linter.unusedSimpArgs false

theorem methodB_ne {m : ByteArray} (h : m.size ≠ 0) : (methodB m).size ≠ 0 := by
  unfold methodB
  repeat' split
  all_goals first | exact h | decide
theorem one_bool {x y : ByteArray} (h : oneX (x, y)) : (x.toList.isEmpty == y.toList.isEmpty) = false := by
  unfold oneX at h
  have e : ∀ z : ByteArray, z.toList.isEmpty = decide (z.size = 0) := fun z => by
    rw [ByteArray.toList_eq, Bool.eq_iff_iff, List.isEmpty_iff, decide_eq_true_eq]
    have hz : z.data.toList.length = z.size := Array.length_toList
    constructor
    · intro h0
      rw [h0] at hz
      exact hz.symm
    · intro h0
      exact List.eq_nil_of_length_eq_zero (by omega)
  rw [e, e, beq_eq_false_iff_ne]
  intro h2
  simp only [decide_eq_decide] at h2
  exact h (propext h2)
set_option maxRecDepth 100000 in
set_option maxHeartbeats 16000000 in
theorem grantCovers_walk (pt fp up : Int) (ht : (-9223372036854775808 ≤ pt ∧ pt ≤ 9223372036854775807) ∧ (-9223372036854775808 ≤ fp ∧ fp ≤ 9223372036854775807) ∧ -9223372036854775808 ≤ up ∧ up ≤ 9223372036854775807) (fs us wi : Bool) (fh uh pa qu me bo : ByteArray) (hs : List Par) (hz : (fh.size ≤ 140737488355328 ∧ uh.size ≤ 140737488355328 ∧ pa.size ≤ 140737488355328 ∧ qu.size ≤ 140737488355328 ∧ me.size ≤ 140737488355328 ∧ bo.size ≤ 140737488355328) ∧ ∀ q ∈ hs, q.1.size ≤ 140737488355328 ∧ q.2.size ≤ 140737488355328) (ra : Option Addr) (rl rc rb ro : Nat) (hlr : rl ≤ 9223372036854775807) (a0 : Option Addr) (len cap b off : Nat) (ps : List Par) (hl : len ≤ cap ∧ cap ≤ 9223372036854775807) (hzp : ∀ p ∈ ps, p.1.size ≤ 140737488355328 ∧ p.2.size ≤ 140737488355328) (n0 : Int) (hn0 : -9223372036854775808 ≤ n0) (hn1 : n0 ≤ 9223372036854775807) (w : World) (hh : Pars w ra rl rb ro hs) (hx : Pars w a0 len b off ps) (he : Env w) (hm : Methods w) :
    Calls Tryz.prog 3 #[.agg #[.int .i64 pt, .bool fs, .string fh, .int .i64 fp, .bool us, .string uh, .int .i64 up, .string pa, .string qu, .string me, .slice ra rl rc, .bool wi, .string bo], .slice a0 len cap, .int .i64 n0] w fun e w' => e = .returned (.bool true) ∧ Below w.heap.size w w' := by
  have HX : Hid (Pars w a0 len b off ps) := hx
  have HH : Hid (Pars w ra rl rb ro hs) := hh
  have HQ : Hid (BoxQ 28 w #[.int .i64 pt, .bool fs, .string fh, .int .i64 fp, .bool us, .string uh, .int .i64 up, .string pa, .string qu, .string me, .slice ra rl rc, .bool wi, .string bo] (w.alloc (.cells #[.int .i64 pt, .bool fs, .string fh, .int .i64 fp, .bool us, .string uh, .int .i64 up, .string pa, .string qu, .string me, .slice ra rl rc, .bool wi, .string bo] 28))) := BoxQ.new _ _ _
  have hgr := granted_any _ (he.below HQ.out.bel (Nat.le_refl _)) (hm.below HQ.out.bel (Nat.le_refl _))
  have HENV : Hid (∀ W, Below w.heap.size w W → Env W ∧ Methods W) := fun W hW => ⟨he.below hW (Nat.le_refl _), hm.below hW (Nat.le_refl _)⟩
  have HRF : Hid (∀ W, Below w.heap.size w W → Calls Tryz.prog 5 #[.agg #[.int .i64 pt, .bool fs, .string fh, .int .i64 fp, .bool us, .string uh, .int .i64 up, .string pa, .string qu, .string me, .slice ra rl rc, .bool wi, .string bo]] W fun e w' => e = .returned (.bool (rightB hs (me.size + pa.size + qu.size + uh.size + fh.size))) ∧ Below W.heap.size W w') := fun W hW =>
    rightful_any hs hz.2 ra rl rc rb ro hlr pt fp up fs us wi fh uh pa qu me bo hz.1.1 hz.1.2.1 hz.1.2.2.1 hz.1.2.2.2.1 hz.1.2.2.2.2.1 W (hh.below hW)
  have HFW : Hid (∀ W, Below w.heap.size w W → Calls Tryz.prog 6 #[.slice a0 len cap] W fun e w' => e = .returned (.bool (fewL ps)) ∧ Below W.heap.size W w') := fun W hW => few_any ps hzp a0 len cap b off (Nat.le_trans hl.1 hl.2) W (hx.below hW)
  have HFP : Hid (-9223372036854775808 ≤ fp ∧ fp ≤ 9223372036854775807) := ht.2.1
  obtain ⟨q, HQR⟩ : ∃ q, Hid (rightB hs (me.size + pa.size + qu.size + uh.size + fh.size) = q) := ⟨_, rfl⟩
  obtain ⟨z, HZF⟩ : ∃ z, Hid (fewL ps = z) := ⟨_, rfl⟩
  rw [HQR.out] at HRF
  rw [HZF.out] at HFW
  have hpk := fun W => pick_any n0 1099511627776 hn0 hn1 (by decide) (by decide) W
  obtain ⟨now, HNOW⟩ : ∃ now, Hid (pickI n0 1099511627776 = now) := ⟨_, rfl⟩
  have hpi := pickI_in n0 1099511627776 (by decide)
  rw [HNOW.out] at hpk hpi
  obtain ⟨hp0, hp1⟩ := hpi
  clear hx hz hzp hl he hm hh ht hlr hn0 hn1
  go_enter Tryz.func3, Tryz.ntmps3
  go_wp2_with fail
  refine hgr.mono ?_
  rintro e w1 ⟨rfl, hb1⟩
  have HQ1 : Hid (BoxQ 28 w #[.int .i64 pt, .bool fs, .string fh, .int .i64 fp, .bool us, .string uh, .int .i64 up, .string pa, .string qu, .string me, .slice ra rl rc, .bool wi, .string bo] w1) := HQ.out.step hb1
  clear hgr hb1 HQ
  have c0 := HQ1.out.at 0 _ rfl
  have c1 := HQ1.out.at 1 _ rfl
  have c2 := HQ1.out.at 2 _ rfl
  have c3 := HQ1.out.at 3 _ rfl
  have c4 := HQ1.out.at 4 _ rfl
  have c5 := HQ1.out.at 5 _ rfl
  have c6 := HQ1.out.at 6 _ rfl
  have c7 := HQ1.out.at 7 _ rfl
  have c8 := HQ1.out.at 8 _ rfl
  have c9 := HQ1.out.at 9 _ rfl
  have c10 := HQ1.out.at 10 _ rfl
  have c11 := HQ1.out.at 11 _ rfl
  have c12 := HQ1.out.at 12 _ rfl
  go_wp2_with fail
  refine (HRF.out _ HQ1.out.bel).mono ?_
  rintro e w2 ⟨rfl, hb2⟩
  have HQ2 : Hid (BoxQ 28 w #[.int .i64 pt, .bool fs, .string fh, .int .i64 fp, .bool us, .string uh, .int .i64 up, .string pa, .string qu, .string me, .slice ra rl rc, .bool wi, .string bo] w2) := HQ1.out.step hb2
  clear hb2 HQ1 c0 c1 c2 c3 c4 c5 c6 c7 c8 c9 c10 c11 c12
  cases q
  · go_wp2
    go_ret
    exact ⟨rfl, HQ2.out.bel⟩
  go_wp2_with fail
  refine (HFW.out _ HQ2.out.bel).mono ?_
  rintro e w3 ⟨rfl, hb3⟩
  have HQ3 : Hid (BoxQ 28 w #[.int .i64 pt, .bool fs, .string fh, .int .i64 fp, .bool us, .string uh, .int .i64 up, .string pa, .string qu, .string me, .slice ra rl rc, .bool wi, .string bo] w3) := HQ2.out.step hb3
  clear hb3 HQ2
  cases z
  · go_wp2
    go_ret
    exact ⟨rfl, HQ3.out.bel⟩
  have e0 := HQ3.out.at 0 _ rfl
  have e1 := HQ3.out.at 1 _ rfl
  have e2 := HQ3.out.at 2 _ rfl
  have e3 := HQ3.out.at 3 _ rfl
  have e4 := HQ3.out.at 4 _ rfl
  have e5 := HQ3.out.at 5 _ rfl
  have e6 := HQ3.out.at 6 _ rfl
  have e7 := HQ3.out.at 7 _ rfl
  have e8 := HQ3.out.at 8 _ rfl
  have e9 := HQ3.out.at 9 _ rfl
  have e10 := HQ3.out.at 10 _ rfl
  have e11 := HQ3.out.at 11 _ rfl
  have e12 := HQ3.out.at 12 _ rfl
  by_cases hme0 : me.size = 0
  · have hmt : me.toList.isEmpty = true := by
      rw [ByteArray.toList_eq, List.isEmpty_iff]
      exact List.eq_nil_of_length_eq_zero (by rw [Array.length_toList]; exact hme0)
    go_wp2
    go_ret
    exact ⟨rfl, HQ3.out.bel⟩
  have hmt : me.toList.isEmpty = false := by
    rw [ByteArray.toList_eq, List.isEmpty_eq_false_iff]
    intro e
    have hz : me.data.toList.length = me.size := Array.length_toList
    rw [e] at hz
    exact hme0 hz.symm
  have HF : Hid (Few9 ps) := few9_few HZF.out
  obtain ⟨hl40, hsm, h600⟩ := rightB_small HQR.out
  have HS8 : Hid (Small8 hs) := fun p hp => by have := hsm p hp; omega
  have hrl : rl ≤ 60 := by have := HH.out.len_eq; omega
  have HB : Hid (fh.size ≤ 4000 ∧ uh.size ≤ 4000 ∧ pa.size ≤ 4000 ∧ qu.size ≤ 4000 ∧ me.size ≤ 3000) := ⟨by omega, by omega, by omega, by omega, by omega⟩
  have HMNE : Hid ((methodB me).size ≠ 0) := methodB_ne hme0
  obtain ⟨y, HMY⟩ : ∃ y, Hid (mayL wi (textL fs fh.data.toList fp) ps = y) := ⟨_, rfl⟩
  obtain ⟨ag, HAG⟩ : ∃ ag, Hid (ageL ps = ag) := ⟨_, rfl⟩
  have hag := ageL_bounds ps
  rw [HAG.out] at hag
  obtain ⟨ag0, ag1⟩ := hag
  have HMA : Hid (∀ W, Below w.heap.size w W → Calls Tryz.prog 10 #[.agg #[.int .i64 pt, .bool fs, .string fh, .int .i64 fp, .bool us, .string uh, .int .i64 up, .string pa, .string qu, .string me, .slice ra rl rc, .bool wi, .string bo], .slice a0 len cap] W fun e w' => e = .returned (.bool y) ∧ Below W.heap.size W w') := fun W hW => by
    have := may9_any ps HF.out a0 len cap b off pt fp up fs us fh uh pa qu me bo ra rl rc wi HB.out.1 HFP.out.1 HFP.out.2 W (HENV.out W hW).1 (HX.out.below hW)
    rw [HMY.out] at this
    exact this
  have HAE : Hid (∀ W, Below w.heap.size w W → Calls Tryz.prog 9 #[.slice a0 len cap] W fun e w' => e = .returned (.int .i64 ag) ∧ Below W.heap.size W w') := fun W hW => by
    have := age9_any ps HF.out a0 len cap b off W (HX.out.below hW)
    rw [HAG.out] at this
    exact this
  obtain ⟨mm, HMM⟩ : ∃ mm, Hid (methodB me = mm) := ⟨_, rfl⟩
  obtain ⟨xs, HXS⟩ : ∃ xs, Hid (askedL hs = xs) := ⟨_, rfl⟩
  obtain ⟨p, HPB⟩ : ∃ p : PsV, Hid (p = ⟨fs, fh, fp, us, uh, up, pa, qu, wi, ⟨#[]⟩, ⟨#[]⟩, now + ag⟩) := ⟨_, rfl⟩
  have hgt := grant9_any ps HF.out a0 len cap b off hs HS8.out ra rl rc rb ro hrl pt fp up fs us wi fh uh pa qu me bo HB.out.1 HB.out.2.1 HB.out.2.2.1 HB.out.2.2.2.1 HB.out.2.2.2.2 HFP.out.1 HFP.out.2 now hp0 (by omega) w3 (HENV.out _ HQ3.out.bel).1 (HENV.out _ HQ3.out.bel).2 (HX.out.below HQ3.out.bel) (HH.out.below HQ3.out.bel)
  rw [HMY.out, HAG.out, HMM.out, HXS.out, ← HPB.out] at hgt
  have HCV : Hid (∀ (l : List PsV) (a : Option Addr) (n c g o : Nat) (W : World), n ≤ 1000000 → Below w.heap.size w W → Pss W a n g o l → Calls Tryz.prog 11 #[.agg #[.int .i64 pt, .bool fs, .string fh, .int .i64 fp, .bool us, .string uh, .int .i64 up, .string pa, .string qu, .string me, .slice ra rl rc, .bool wi, .string bo], .slice a n c] W fun e w' => e = .returned (.bool (coversL wi mm xs l)) ∧ Below W.heap.size W w') := fun l a n c g o W hn hW hp => by
    have := covers9_any hs HS8.out ra rl rc rb ro hrl pt fp up fs us wi fh uh pa qu me bo HB.out.2.2.2.2 l a n c g o hn W (HENV.out W hW).2 (HH.out.below hW) hp
    rw [HMM.out, HXS.out] at this
    exact this
  rw [HMM.out] at HMNE
  clear hl40 hsm h600 hrl HRF HFW
  go_wp2_with fail
  refine (hpk _).mono ?_
  rintro e w9 ⟨rfl, hw9⟩
  obtain rfl := hw9.symm
  clear hpk
  go_wp2_with fail
  refine hgt.mono ?_
  rintro e w4 ⟨ha4, hb4⟩
  have HQ4 : Hid (BoxQ 28 w #[.int .i64 pt, .bool fs, .string fh, .int .i64 fp, .bool us, .string uh, .int .i64 up, .string pa, .string qu, .string me, .slice ra rl rc, .bool wi, .string bo] w4) := HQ3.out.step hb4
  clear hgt hb4 HQ3 e0 e1 e2 e3 e4 e5 e6 e7 e8 e9 e10 e11 e12
  rcases ha4 with ⟨l, v, hl, hl80, rfl, hown⟩ | ⟨n, hl, rfl⟩
  case' inr =>
    go_wp2
    go_ret
    exact ⟨rfl, HQ4.out.bel⟩
  obtain ⟨hy, hcv, hone⟩ := grantL_ok HMNE.out hl
  subst hy
  have HCO : Hid (coversL wi mm xs (l.map p.of) = true) := hcv
  have HONE : Hid (∀ x ∈ l, oneX x) := hone
  obtain ⟨xa, xc, xg, rfl, hps4⟩ := OwnX.pss hown
  obtain ⟨pn, HPN⟩ : ∃ pn, Hid (l.length = pn) := ⟨_, rfl⟩
  rw [HPN.out] at hps4 hl80
  have HP4 : Hid (Pss w4 xa pn xg 0 (l.map p.of)) := hps4
  clear hcv hone hown hps4 hl
  rw [HPN.out]
  go_wp2
  go_loopw [39] (fun i wr => ∃ k : Nat, k ≤ pn ∧ i = .int .i64 k ∧ Hid (BoxQ 28 w #[.int .i64 pt, .bool fs, .string fh, .int .i64 fp, .bool us, .string uh, .int .i64 up, .string pa, .string qu, .string me, .slice ra rl rc, .bool wi, .string bo] wr ∧ Below w4.heap.size w4 wr)) (fun i _ => pn - (intOf i).toNat)
  case atStart => exact ⟨0, Nat.zero_le _, rfl, HQ4.out, Below.refl _ _⟩
  case round =>
    obtain ⟨k, hk, rfl, HI⟩ := hrel
    by_cases hlt : k < pn
    · have hltz : (k : Int) < (pn : Int) := by omega
      obtain ⟨x, hx⟩ : ∃ x, l[k]? = some x := ⟨l[k]'(by have := HPN.out; omega), List.getElem?_eq_getElem _⟩
      have hox := HONE.out x (List.mem_of_getElem? hx)
      obtain ⟨ha0, _⟩ := HP4.out.lies (by omega)
      subst ha0
      have hall := (HP4.out.below HI.out.2).all (j := k) (v := p.of x) (by rw [List.getElem?_map, hx]; rfl)
      obtain ⟨xm, xh⟩ := x
      rw [HPB.out] at hall
      simp only [PsV.of, Nat.zero_add] at hall
      obtain ⟨c0, c1, c2, c3, c4, c5, c6, c7, c8, c9, c10, c11⟩ := hall
      have HOB : Hid ((xm.toList.isEmpty == xh.toList.isEmpty) = false) := one_bool hox
      clear hx hox
      have HN0 : Hid (BoxQ 39 wr #[.bool fs, .string fh, .int .i64 fp, .bool us, .string uh, .int .i64 up, .string pa, .string qu, .bool wi, .string xm, .string xh, .int .i64 (now + ag)] (wr.alloc (.cells #[.bool fs, .string fh, .int .i64 fp, .bool us, .string uh, .int .i64 up, .string pa, .string qu, .bool wi, .string xm, .string xh, .int .i64 (now + ag)] 39))) := BoxQ.new _ _ _
      have HR : Hid (BoxQ 28 w #[.int .i64 pt, .bool fs, .string fh, .int .i64 fp, .bool us, .string uh, .int .i64 up, .string pa, .string qu, .string me, .slice ra rl rc, .bool wi, .string bo] (wr.alloc (.cells #[.bool fs, .string fh, .int .i64 fp, .bool us, .string uh, .int .i64 up, .string pa, .string qu, .bool wi, .string xm, .string xh, .int .i64 (now + ag)] 39)).drew ∧ BoxQ 39 wr #[.bool fs, .string fh, .int .i64 fp, .bool us, .string uh, .int .i64 up, .string pa, .string qu, .bool wi, .string xm, .string xh, .int .i64 (now + ag)] (wr.alloc (.cells #[.bool fs, .string fh, .int .i64 fp, .bool us, .string uh, .int .i64 up, .string pa, .string qu, .bool wi, .string xm, .string xh, .int .i64 (now + ag)] 39)).drew) := ⟨(HI.out.1.step HN0.out.bel).step (Below.refl _ _).drew, HN0.out.step (Below.refl _ _).drew⟩
      have hbase : ∀ W, BoxQ 28 w #[.int .i64 pt, .bool fs, .string fh, .int .i64 fp, .bool us, .string uh, .int .i64 up, .string pa, .string qu, .string me, .slice ra rl rc, .bool wi, .string bo] W → BoxQ 39 wr #[.bool fs, .string fh, .int .i64 fp, .bool us, .string uh, .int .i64 up, .string pa, .string qu, .bool wi, .string xm, .string xh, .int .i64 (now + ag)] W → W.cell? ⟨w.heap.size, 1, none⟩ = some (.bool fs) ∧ W.cell? ⟨w.heap.size, 2, none⟩ = some (.string fh) ∧ W.cell? ⟨w.heap.size, 3, none⟩ = some (.int .i64 fp) ∧ W.cell? ⟨w.heap.size, 4, none⟩ = some (.bool us) ∧ W.cell? ⟨w.heap.size, 5, none⟩ = some (.string uh) ∧ W.cell? ⟨w.heap.size, 6, none⟩ = some (.int .i64 up) ∧ W.cell? ⟨w.heap.size, 7, none⟩ = some (.string pa) ∧ W.cell? ⟨w.heap.size, 8, none⟩ = some (.string qu) ∧ W.cell? ⟨w.heap.size, 11, none⟩ = some (.bool wi) ∧ W.cell? ⟨wr.heap.size, 0, none⟩ = some (.bool fs) ∧ W.cell? ⟨wr.heap.size, 1, none⟩ = some (.string fh) ∧ W.cell? ⟨wr.heap.size, 2, none⟩ = some (.int .i64 fp) ∧ W.cell? ⟨wr.heap.size, 3, none⟩ = some (.bool us) ∧ W.cell? ⟨wr.heap.size, 4, none⟩ = some (.string uh) ∧ W.cell? ⟨wr.heap.size, 5, none⟩ = some (.int .i64 up) ∧ W.cell? ⟨wr.heap.size, 6, none⟩ = some (.string pa) ∧ W.cell? ⟨wr.heap.size, 7, none⟩ = some (.string qu) ∧ W.cell? ⟨wr.heap.size, 8, none⟩ = some (.bool wi) ∧ W.cell? ⟨wr.heap.size, 9, none⟩ = some (.string xm) ∧ W.cell? ⟨wr.heap.size, 10, none⟩ = some (.string xh) ∧ W.cell? ⟨wr.heap.size, 11, none⟩ = some (.int .i64 (now + ag)) ∧ Hid (BoxQ 28 w #[.int .i64 pt, .bool fs, .string fh, .int .i64 fp, .bool us, .string uh, .int .i64 up, .string pa, .string qu, .string me, .slice ra rl rc, .bool wi, .string bo] W ∧ BoxQ 39 wr #[.bool fs, .string fh, .int .i64 fp, .bool us, .string uh, .int .i64 up, .string pa, .string qu, .bool wi, .string xm, .string xh, .int .i64 (now + ag)] W) := fun W h1 h2 => ⟨(show BoxQ _ _ _ _ from h1).at 1 _ rfl, (show BoxQ _ _ _ _ from h1).at 2 _ rfl, (show BoxQ _ _ _ _ from h1).at 3 _ rfl, (show BoxQ _ _ _ _ from h1).at 4 _ rfl, (show BoxQ _ _ _ _ from h1).at 5 _ rfl, (show BoxQ _ _ _ _ from h1).at 6 _ rfl, (show BoxQ _ _ _ _ from h1).at 7 _ rfl, (show BoxQ _ _ _ _ from h1).at 8 _ rfl, (show BoxQ _ _ _ _ from h1).at 11 _ rfl, (show BoxQ _ _ _ _ from h2).at 0 _ rfl, (show BoxQ _ _ _ _ from h2).at 1 _ rfl, (show BoxQ _ _ _ _ from h2).at 2 _ rfl, (show BoxQ _ _ _ _ from h2).at 3 _ rfl, (show BoxQ _ _ _ _ from h2).at 4 _ rfl, (show BoxQ _ _ _ _ from h2).at 5 _ rfl, (show BoxQ _ _ _ _ from h2).at 6 _ rfl, (show BoxQ _ _ _ _ from h2).at 7 _ rfl, (show BoxQ _ _ _ _ from h2).at 8 _ rfl, (show BoxQ _ _ _ _ from h2).at 9 _ rfl, (show BoxQ _ _ _ _ from h2).at 10 _ rfl, (show BoxQ _ _ _ _ from h2).at 11 _ rfl, ⟨h1, h2⟩⟩
      have hwr : IntKind.i64.wrap (now + ag) = now + ag := wrap64_id (by omega) (by omega)
      have eo := fun W => eqR9 fs fs fh fh fp fp true (by unfold sameO; simp) W
      have eu := fun W => eqU9 9997 us uh up pa qu W
      have ew : (wi == wi) = true := by simp
      have ob := HOB.out
      go_upto_region 12 with fail
      clear c0 c1 c2 c3 c4 c5 c6 c7 c8 c9 c10 c11
      refine wp_region_held_drew (S := fun W => W.cell? ⟨w.heap.size, 1, none⟩ = some (.bool fs) ∧ W.cell? ⟨w.heap.size, 2, none⟩ = some (.string fh) ∧ W.cell? ⟨w.heap.size, 3, none⟩ = some (.int .i64 fp) ∧ W.cell? ⟨w.heap.size, 4, none⟩ = some (.bool us) ∧ W.cell? ⟨w.heap.size, 5, none⟩ = some (.string uh) ∧ W.cell? ⟨w.heap.size, 6, none⟩ = some (.int .i64 up) ∧ W.cell? ⟨w.heap.size, 7, none⟩ = some (.string pa) ∧ W.cell? ⟨w.heap.size, 8, none⟩ = some (.string qu) ∧ W.cell? ⟨w.heap.size, 11, none⟩ = some (.bool wi) ∧ W.cell? ⟨wr.heap.size, 0, none⟩ = some (.bool fs) ∧ W.cell? ⟨wr.heap.size, 1, none⟩ = some (.string fh) ∧ W.cell? ⟨wr.heap.size, 2, none⟩ = some (.int .i64 fp) ∧ W.cell? ⟨wr.heap.size, 3, none⟩ = some (.bool us) ∧ W.cell? ⟨wr.heap.size, 4, none⟩ = some (.string uh) ∧ W.cell? ⟨wr.heap.size, 5, none⟩ = some (.int .i64 up) ∧ W.cell? ⟨wr.heap.size, 6, none⟩ = some (.string pa) ∧ W.cell? ⟨wr.heap.size, 7, none⟩ = some (.string qu) ∧ W.cell? ⟨wr.heap.size, 8, none⟩ = some (.bool wi) ∧ W.cell? ⟨wr.heap.size, 9, none⟩ = some (.string xm) ∧ W.cell? ⟨wr.heap.size, 10, none⟩ = some (.string xh) ∧ W.cell? ⟨wr.heap.size, 11, none⟩ = some (.int .i64 (now + ag)) ∧ Hid (BoxQ 28 w #[.int .i64 pt, .bool fs, .string fh, .int .i64 fp, .bool us, .string uh, .int .i64 up, .string pa, .string qu, .string me, .slice ra rl rc, .bool wi, .string bo] W ∧ BoxQ 39 wr #[.bool fs, .string fh, .int .i64 fp, .bool us, .string uh, .int .i64 up, .string pa, .string qu, .bool wi, .string xm, .string xh, .int .i64 (now + ag)] W)) (by kernel_rfl) (hbase _ HR.out.1 HR.out.2) (fun hHeld => ?_)
      refine takeH (i := 0) (d := some 43) (v := ?_) rfl rfl (by kernel_rfl) (by kernel_rfl) (by kernel_rfl) (fun _ _ _ h => h) (by rfl) ?_ (by assumption) ?_
      rotate_left
      · intro w hSw; (try dsimp only at hSw); obtain ⟨q0, q1, q2, q3, q4, q5, q6, q7, q8, q9, q10, q11, q12, q13, q14, q15, q16, q17, q18, q19, q20, _⟩ := hSw; go_simp; with_reducible rfl
      try simp only [Act.put, List.setIfInBounds_toArray, List.set_cons_zero, List.set_cons_succ]
      refine takeH (i := 1) (d := some 44) (v := ?_) rfl rfl (by kernel_rfl) (by kernel_rfl) (by kernel_rfl) (fun _ _ _ h => h) (by rfl) ?_ (by assumption) ?_
      rotate_left
      · intro w hSw; (try dsimp only at hSw); obtain ⟨q0, q1, q2, q3, q4, q5, q6, q7, q8, q9, q10, q11, q12, q13, q14, q15, q16, q17, q18, q19, q20, _⟩ := hSw; go_simp; with_reducible rfl
      try simp only [Act.put, List.setIfInBounds_toArray, List.set_cons_zero, List.set_cons_succ]
      refine takeH (i := 2) (d := some 45) (v := ?_) rfl rfl (by kernel_rfl) (by kernel_rfl) (by kernel_rfl) (fun _ _ _ h => h) (by rfl) ?_ (by assumption) ?_
      rotate_left
      · intro w hSw; (try dsimp only at hSw); obtain ⟨q0, q1, q2, q3, q4, q5, q6, q7, q8, q9, q10, q11, q12, q13, q14, q15, q16, q17, q18, q19, q20, _⟩ := hSw; go_simp; with_reducible rfl
      try simp only [Act.put, List.setIfInBounds_toArray, List.set_cons_zero, List.set_cons_succ]
      refine takeH (i := 3) (d := some 46) (v := ?_) rfl rfl (by kernel_rfl) (by kernel_rfl) (by kernel_rfl) (fun _ _ _ h => h) (by rfl) ?_ (by assumption) ?_
      rotate_left
      · intro w hSw; (try dsimp only at hSw); obtain ⟨q0, q1, q2, q3, q4, q5, q6, q7, q8, q9, q10, q11, q12, q13, q14, q15, q16, q17, q18, q19, q20, _⟩ := hSw; go_simp; with_reducible rfl
      try simp only [Act.put, List.setIfInBounds_toArray, List.set_cons_zero, List.set_cons_succ]
      refine takeH (i := 4) (d := some 47) (v := ?_) rfl rfl (by kernel_rfl) (by kernel_rfl) (by kernel_rfl) (fun _ _ _ h => h) (by rfl) ?_ (by assumption) ?_
      rotate_left
      · intro w hSw; (try dsimp only at hSw); obtain ⟨q0, q1, q2, q3, q4, q5, q6, q7, q8, q9, q10, q11, q12, q13, q14, q15, q16, q17, q18, q19, q20, _⟩ := hSw; go_simp; with_reducible rfl
      try simp only [Act.put, List.setIfInBounds_toArray, List.set_cons_zero, List.set_cons_succ]
      refine takeH (i := 5) (d := some 48) (v := ?_) rfl rfl (by kernel_rfl) (by kernel_rfl) (by kernel_rfl) (fun _ _ _ h => h) (by rfl) ?_ (by assumption) ?_
      rotate_left
      · intro w hSw; (try dsimp only at hSw); obtain ⟨q0, q1, q2, q3, q4, q5, q6, q7, q8, q9, q10, q11, q12, q13, q14, q15, q16, q17, q18, q19, q20, _⟩ := hSw; go_simp; with_reducible rfl
      try simp only [Act.put, List.setIfInBounds_toArray, List.set_cons_zero, List.set_cons_succ]
      refine takeH (i := 6) (d := some 49) (v := ?_) rfl rfl (by kernel_rfl) (by kernel_rfl) (by kernel_rfl) (fun _ _ _ h => h) (by rfl) ?_ (by assumption) ?_
      rotate_left
      · intro w hSw; (try dsimp only at hSw); obtain ⟨q0, q1, q2, q3, q4, q5, q6, q7, q8, q9, q10, q11, q12, q13, q14, q15, q16, q17, q18, q19, q20, _⟩ := hSw; go_simp; with_reducible rfl
      try simp only [Act.put, List.setIfInBounds_toArray, List.set_cons_zero, List.set_cons_succ]
      refine takeH (i := 7) (d := some 50) (v := ?_) rfl rfl (by kernel_rfl) (by kernel_rfl) (by kernel_rfl) (fun _ _ _ h => h) (by rfl) ?_ (by assumption) ?_
      rotate_left
      · intro w hSw; (try dsimp only at hSw); obtain ⟨q0, q1, q2, q3, q4, q5, q6, q7, q8, q9, q10, q11, q12, q13, q14, q15, q16, q17, q18, q19, q20, _⟩ := hSw; go_simp; with_reducible rfl
      try simp only [Act.put, List.setIfInBounds_toArray, List.set_cons_zero, List.set_cons_succ]
      refine takeH (i := 8) (d := some 51) (v := ?_) rfl rfl (by kernel_rfl) (by kernel_rfl) (by kernel_rfl) (fun _ _ _ h => h) (by rfl) ?_ (by assumption) ?_
      rotate_left
      · intro w hSw; (try dsimp only at hSw); obtain ⟨q0, q1, q2, q3, q4, q5, q6, q7, q8, q9, q10, q11, q12, q13, q14, q15, q16, q17, q18, q19, q20, _⟩ := hSw; go_simp; with_reducible rfl
      try simp only [Act.put, List.setIfInBounds_toArray, List.set_cons_zero, List.set_cons_succ]
      refine takeH (i := 9) (d := some 52) (v := ?_) rfl rfl (by kernel_rfl) (by kernel_rfl) (by kernel_rfl) (fun _ _ _ h => h) (by rfl) ?_ (by assumption) ?_
      rotate_left
      · intro w hSw; (try dsimp only at hSw); obtain ⟨q0, q1, q2, q3, q4, q5, q6, q7, q8, q9, q10, q11, q12, q13, q14, q15, q16, q17, q18, q19, q20, _⟩ := hSw; go_simp; with_reducible rfl
      try simp only [Act.put, List.setIfInBounds_toArray, List.set_cons_zero, List.set_cons_succ]
      refine takeH (i := 10) (d := some 53) (v := ?_) rfl rfl (by kernel_rfl) (by kernel_rfl) (by kernel_rfl) (fun _ _ _ h => h) (by rfl) ?_ (by assumption) ?_
      rotate_left
      · intro w hSw; (try dsimp only at hSw); obtain ⟨q0, q1, q2, q3, q4, q5, q6, q7, q8, q9, q10, q11, q12, q13, q14, q15, q16, q17, q18, q19, q20, _⟩ := hSw; go_simp; with_reducible rfl
      try simp only [Act.put, List.setIfInBounds_toArray, List.set_cons_zero, List.set_cons_succ]
      refine takeH (i := 11) (d := some 54) (v := ?_) rfl rfl (by kernel_rfl) (by kernel_rfl) (by kernel_rfl) (fun _ _ _ h => h) (by rfl) ?_ (by assumption) ?_
      rotate_left
      · intro w hSw; (try dsimp only at hSw); obtain ⟨q0, q1, q2, q3, q4, q5, q6, q7, q8, q9, q10, q11, q12, q13, q14, q15, q16, q17, q18, q19, q20, _⟩ := hSw; go_simp; with_reducible rfl
      try simp only [Act.put, List.setIfInBounds_toArray, List.set_cons_zero, List.set_cons_succ]
      refine takeH (i := 12) (d := some 55) (v := ?_) rfl rfl (by kernel_rfl) (by kernel_rfl) (by kernel_rfl) (fun _ _ _ h => h) (by rfl) ?_ (by assumption) ?_
      rotate_left
      · intro w hSw; (try dsimp only at hSw); obtain ⟨q0, q1, q2, q3, q4, q5, q6, q7, q8, q9, q10, q11, q12, q13, q14, q15, q16, q17, q18, q19, q20, _⟩ := hSw; go_simp; with_reducible rfl
      try simp only [Act.put, List.setIfInBounds_toArray, List.set_cons_zero, List.set_cons_succ]
      refine takeH (i := 13) (d := some 56) (v := ?_) rfl rfl (by kernel_rfl) (by kernel_rfl) (by kernel_rfl) (fun _ _ _ h => h) (by rfl) ?_ (by assumption) ?_
      rotate_left
      · intro w hSw; (try dsimp only at hSw); obtain ⟨q0, q1, q2, q3, q4, q5, q6, q7, q8, q9, q10, q11, q12, q13, q14, q15, q16, q17, q18, q19, q20, _⟩ := hSw; go_simp; with_reducible rfl
      try simp only [Act.put, List.setIfInBounds_toArray, List.set_cons_zero, List.set_cons_succ]
      refine takeH (i := 14) (d := some 57) (v := ?_) rfl rfl (by kernel_rfl) (by kernel_rfl) (by kernel_rfl) (fun _ _ _ h => h) (by rfl) ?_ (by assumption) ?_
      rotate_left
      · intro w hSw; (try dsimp only at hSw); obtain ⟨q0, q1, q2, q3, q4, q5, q6, q7, q8, q9, q10, q11, q12, q13, q14, q15, q16, q17, q18, q19, q20, _⟩ := hSw; go_simp; with_reducible rfl
      try simp only [Act.put, List.setIfInBounds_toArray, List.set_cons_zero, List.set_cons_succ]
      refine takeH (i := 15) (d := some 58) (v := ?_) rfl rfl (by kernel_rfl) (by kernel_rfl) (by kernel_rfl) (fun _ _ _ h => h) (by rfl) ?_ (by assumption) ?_
      rotate_left
      · intro w hSw; (try dsimp only at hSw); obtain ⟨q0, q1, q2, q3, q4, q5, q6, q7, q8, q9, q10, q11, q12, q13, q14, q15, q16, q17, q18, q19, q20, _⟩ := hSw; go_simp; with_reducible rfl
      try simp only [Act.put, List.setIfInBounds_toArray, List.set_cons_zero, List.set_cons_succ]
      refine takeH (i := 16) (d := some 59) (v := ?_) rfl rfl (by kernel_rfl) (by kernel_rfl) (by kernel_rfl) (fun _ _ _ h => h) (by rfl) ?_ (by assumption) ?_
      rotate_left
      · intro w hSw; (try dsimp only at hSw); obtain ⟨q0, q1, q2, q3, q4, q5, q6, q7, q8, q9, q10, q11, q12, q13, q14, q15, q16, q17, q18, q19, q20, _⟩ := hSw; go_simp; with_reducible rfl
      try simp only [Act.put, List.setIfInBounds_toArray, List.set_cons_zero, List.set_cons_succ]
      refine takeH (i := 17) (d := some 60) (v := ?_) rfl rfl (by kernel_rfl) (by kernel_rfl) (by kernel_rfl) (fun _ _ _ h => h) (by rfl) ?_ (by assumption) ?_
      rotate_left
      · intro w hSw; (try dsimp only at hSw); obtain ⟨q0, q1, q2, q3, q4, q5, q6, q7, q8, q9, q10, q11, q12, q13, q14, q15, q16, q17, q18, q19, q20, _⟩ := hSw; go_simp; with_reducible rfl
      try simp only [Act.put, List.setIfInBounds_toArray, List.set_cons_zero, List.set_cons_succ]
      refine takeH (i := 18) (d := some 61) (v := ?_) rfl rfl (by kernel_rfl) (by kernel_rfl) (by kernel_rfl) (fun _ _ _ h => h) (by rfl) ?_ (by assumption) ?_
      rotate_left
      · intro w hSw; (try dsimp only at hSw); obtain ⟨q0, q1, q2, q3, q4, q5, q6, q7, q8, q9, q10, q11, q12, q13, q14, q15, q16, q17, q18, q19, q20, _⟩ := hSw; go_simp; with_reducible rfl
      try simp only [Act.put, List.setIfInBounds_toArray, List.set_cons_zero, List.set_cons_succ]
      refine takeH (i := 19) (d := some 62) (v := ?_) rfl rfl (by kernel_rfl) (by kernel_rfl) (by kernel_rfl) (fun _ _ _ h => h) (by rfl) ?_ (by assumption) ?_
      rotate_left
      · intro w hSw; (try dsimp only at hSw); obtain ⟨q0, q1, q2, q3, q4, q5, q6, q7, q8, q9, q10, q11, q12, q13, q14, q15, q16, q17, q18, q19, q20, _⟩ := hSw; go_simp; with_reducible rfl
      try simp only [Act.put, List.setIfInBounds_toArray, List.set_cons_zero, List.set_cons_succ]
      refine takeH (i := 20) (d := some 63) (v := ?_) rfl rfl (by kernel_rfl) (by kernel_rfl) (by kernel_rfl) (fun _ _ _ h => h) (by rfl) ?_ (by assumption) ?_
      rotate_left
      · intro w hSw; (try dsimp only at hSw); obtain ⟨q0, q1, q2, q3, q4, q5, q6, q7, q8, q9, q10, q11, q12, q13, q14, q15, q16, q17, q18, q19, q20, _⟩ := hSw; go_simp; with_reducible rfl
      try simp only [Act.put, List.setIfInBounds_toArray, List.set_cons_zero, List.set_cons_succ]
      refine takeH (i := 21) (d := some 64) (v := ?_) rfl rfl (by kernel_rfl) (by kernel_rfl) (by kernel_rfl) (fun _ _ _ h => h) (by rfl) ?_ (by assumption) ?_
      rotate_left
      · intro w hSw; (try dsimp only at hSw); obtain ⟨q0, q1, q2, q3, q4, q5, q6, q7, q8, q9, q10, q11, q12, q13, q14, q15, q16, q17, q18, q19, q20, _⟩ := hSw; go_simp; with_reducible rfl
      try simp only [Act.put, List.setIfInBounds_toArray, List.set_cons_zero, List.set_cons_succ]
      refine takeH (i := 22) (d := some 65) (v := ?_) rfl rfl (by kernel_rfl) (by kernel_rfl) (by kernel_rfl) (fun _ _ _ h => h) (by rfl) ?_ (by assumption) ?_
      rotate_left
      · intro w hSw; (try dsimp only at hSw); obtain ⟨q0, q1, q2, q3, q4, q5, q6, q7, q8, q9, q10, q11, q12, q13, q14, q15, q16, q17, q18, q19, q20, _⟩ := hSw; go_simp; with_reducible rfl
      try simp only [Act.put, List.setIfInBounds_toArray, List.set_cons_zero, List.set_cons_succ]
      refine takeH (i := 23) (d := some 66) (v := ?_) rfl rfl (by kernel_rfl) (by kernel_rfl) (by kernel_rfl) (fun _ _ _ h => h) (by rfl) ?_ (by assumption) ?_
      rotate_left
      · intro w hSw; (try dsimp only at hSw); obtain ⟨q0, q1, q2, q3, q4, q5, q6, q7, q8, q9, q10, q11, q12, q13, q14, q15, q16, q17, q18, q19, q20, _⟩ := hSw; go_simp; with_reducible rfl
      try simp only [Act.put, List.setIfInBounds_toArray, List.set_cons_zero, List.set_cons_succ]
      refine wpAnyH_ready (rs := [24]) (by kernel_rfl) (by simp) ?_
      refine AllReadyH.cons (by rfl) (fun K hKK => ?_) AllReadyH.nil
      go_simp
      refine (HAE.out _ HR.out.1.bel).mono ?_
      rintro e w4 ⟨rfl, hb4⟩
      have HR4 : Hid (BoxQ 28 w #[.int .i64 pt, .bool fs, .string fh, .int .i64 fp, .bool us, .string uh, .int .i64 up, .string pa, .string qu, .string me, .slice ra rl rc, .bool wi, .string bo] w4 ∧ BoxQ 39 wr #[.bool fs, .string fh, .int .i64 fp, .bool us, .string uh, .int .i64 up, .string pa, .string qu, .bool wi, .string xm, .string xh, .int .i64 (now + ag)] w4) := ⟨HR.out.1.step hb4, HR.out.2.step hb4⟩
      clear hb4
      go_wp2_with fail
      refine hKK.out _ _ (hbase _ HR4.out.1 HR4.out.2) (fun hHeld => ?_)
      clear hKK K
      try simp only [Act.put, List.setIfInBounds_toArray, List.set_cons_zero, List.set_cons_succ]
      refine takeH (i := 25) (d := some 68) (v := ?_) rfl rfl (by kernel_rfl) (by kernel_rfl) (by kernel_rfl) (fun _ _ _ h => h) (by rfl) ?_ (by assumption) ?_
      rotate_left
      · intro w hSw; (try dsimp only at hSw); obtain ⟨q0, q1, q2, q3, q4, q5, q6, q7, q8, q9, q10, q11, q12, q13, q14, q15, q16, q17, q18, q19, q20, _⟩ := hSw; go_simp; with_reducible rfl
      try simp only [Act.put, List.setIfInBounds_toArray, List.set_cons_zero, List.set_cons_succ]
      refine takeH (i := 26) (d := some 69) (v := ?_) rfl rfl (by kernel_rfl) (by kernel_rfl) (by kernel_rfl) (fun _ _ _ h => h) (by rfl) ?_ (by assumption) ?_
      rotate_left
      · intro w hSw; (try dsimp only at hSw); obtain ⟨q0, q1, q2, q3, q4, q5, q6, q7, q8, q9, q10, q11, q12, q13, q14, q15, q16, q17, q18, q19, q20, _⟩ := hSw; go_simp; with_reducible rfl
      try simp only [Act.put, List.setIfInBounds_toArray, List.set_cons_zero, List.set_cons_succ]
      refine takeH (i := 27) (d := some 70) (v := ?_) rfl rfl (by kernel_rfl) (by kernel_rfl) (by kernel_rfl) (fun _ _ _ h => h) (by rfl) ?_ (by assumption) ?_
      rotate_left
      · intro w hSw; (try dsimp only at hSw); obtain ⟨q0, q1, q2, q3, q4, q5, q6, q7, q8, q9, q10, q11, q12, q13, q14, q15, q16, q17, q18, q19, q20, _⟩ := hSw; go_simp; with_reducible rfl
      try simp only [Act.put, List.setIfInBounds_toArray, List.set_cons_zero, List.set_cons_succ]
      refine takeH (i := 28) (d := some 71) (v := ?_) rfl rfl (by kernel_rfl) (by kernel_rfl) (by kernel_rfl) (fun _ _ _ h => h) (by rfl) ?_ (by assumption) ?_
      rotate_left
      · intro w hSw; (try dsimp only at hSw); obtain ⟨q0, q1, q2, q3, q4, q5, q6, q7, q8, q9, q10, q11, q12, q13, q14, q15, q16, q17, q18, q19, q20, _⟩ := hSw; go_simp; with_reducible rfl
      try simp only [Act.put, List.setIfInBounds_toArray, List.set_cons_zero, List.set_cons_succ]
      refine takeH (i := 29) (d := some 72) (v := ?_) rfl rfl (by kernel_rfl) (by kernel_rfl) (by kernel_rfl) (fun _ _ _ h => h) (by rfl) ?_ (by assumption) ?_
      rotate_left
      · intro w hSw; (try dsimp only at hSw); obtain ⟨q0, q1, q2, q3, q4, q5, q6, q7, q8, q9, q10, q11, q12, q13, q14, q15, q16, q17, q18, q19, q20, _⟩ := hSw; go_simp; with_reducible rfl
      try simp only [Act.put, List.setIfInBounds_toArray, List.set_cons_zero, List.set_cons_succ]
      refine takeH (i := 30) (d := some 73) (v := ?_) rfl rfl (by kernel_rfl) (by kernel_rfl) (by kernel_rfl) (fun _ _ _ h => h) (by rfl) ?_ (by assumption) ?_
      rotate_left
      · intro w hSw; (try dsimp only at hSw); obtain ⟨q0, q1, q2, q3, q4, q5, q6, q7, q8, q9, q10, q11, q12, q13, q14, q15, q16, q17, q18, q19, q20, _⟩ := hSw; go_simp; with_reducible rfl
      try simp only [Act.put, List.setIfInBounds_toArray, List.set_cons_zero, List.set_cons_succ]
      refine takeH (i := 31) (d := some 74) (v := ?_) rfl rfl (by kernel_rfl) (by kernel_rfl) (by kernel_rfl) (fun _ _ _ h => h) (by rfl) ?_ (by assumption) ?_
      rotate_left
      · intro w hSw; (try dsimp only at hSw); obtain ⟨q0, q1, q2, q3, q4, q5, q6, q7, q8, q9, q10, q11, q12, q13, q14, q15, q16, q17, q18, q19, q20, _⟩ := hSw; go_simp; with_reducible rfl
      try simp only [Act.put, List.setIfInBounds_toArray, List.set_cons_zero, List.set_cons_succ]
      refine takeH (i := 32) (d := some 75) (v := ?_) rfl rfl (by kernel_rfl) (by kernel_rfl) (by kernel_rfl) (fun _ _ _ h => h) (by rfl) ?_ (by assumption) ?_
      rotate_left
      · intro w hSw; (try dsimp only at hSw); obtain ⟨q0, q1, q2, q3, q4, q5, q6, q7, q8, q9, q10, q11, q12, q13, q14, q15, q16, q17, q18, q19, q20, _⟩ := hSw; go_simp; with_reducible rfl
      try simp only [Act.put, List.setIfInBounds_toArray, List.set_cons_zero, List.set_cons_succ]
      refine takeH (i := 33) (d := some 76) (v := ?_) rfl rfl (by kernel_rfl) (by kernel_rfl) (by kernel_rfl) (fun _ _ _ h => h) (by rfl) ?_ (by assumption) ?_
      rotate_left
      · intro w hSw; (try dsimp only at hSw); obtain ⟨q0, q1, q2, q3, q4, q5, q6, q7, q8, q9, q10, q11, q12, q13, q14, q15, q16, q17, q18, q19, q20, _⟩ := hSw; go_simp; with_reducible rfl
      try simp only [Act.put, List.setIfInBounds_toArray, List.set_cons_zero, List.set_cons_succ]
      refine takeH (i := 34) (d := some 77) (v := ?_) rfl rfl (by kernel_rfl) (by kernel_rfl) (by kernel_rfl) (fun _ _ _ h => h) (by rfl) ?_ (by assumption) ?_
      rotate_left
      · intro w hSw; (try dsimp only at hSw); obtain ⟨q0, q1, q2, q3, q4, q5, q6, q7, q8, q9, q10, q11, q12, q13, q14, q15, q16, q17, q18, q19, q20, _⟩ := hSw; go_simp; with_reducible rfl
      try simp only [Act.put, List.setIfInBounds_toArray, List.set_cons_zero, List.set_cons_succ]
      refine takeH (i := 35) (d := some 78) (v := ?_) rfl rfl (by kernel_rfl) (by kernel_rfl) (by kernel_rfl) (fun _ _ _ h => h) (by rfl) ?_ (by assumption) ?_
      rotate_left
      · intro w hSw; (try dsimp only at hSw); obtain ⟨q0, q1, q2, q3, q4, q5, q6, q7, q8, q9, q10, q11, q12, q13, q14, q15, q16, q17, q18, q19, q20, _⟩ := hSw; go_simp; with_reducible rfl
      try simp only [Act.put, List.setIfInBounds_toArray, List.set_cons_zero, List.set_cons_succ]
      refine takeH (i := 36) (d := some 79) (v := ?_) rfl rfl (by kernel_rfl) (by kernel_rfl) (by kernel_rfl) (fun _ _ _ h => h) (by rfl) ?_ (by assumption) ?_
      rotate_left
      · intro w hSw; (try dsimp only at hSw); obtain ⟨q0, q1, q2, q3, q4, q5, q6, q7, q8, q9, q10, q11, q12, q13, q14, q15, q16, q17, q18, q19, q20, _⟩ := hSw; go_simp; with_reducible rfl
      try simp only [Act.put, List.setIfInBounds_toArray, List.set_cons_zero, List.set_cons_succ]
      refine wpAnyH_done (by kernel_rfl) ?_ _
      go_wp2
      go_roundw
      case rel => exact ⟨k + 1, by omega, by go_num, HR4.out.1, HI.out.2.trans (HR4.out.2.bel.mono HI.out.2.size)⟩
      case measure => simp [intOf]; omega
    · have hltz : ¬ (k : Int) < (pn : Int) := by omega
      have f0 := HI.out.1.at 0 _ rfl
      have f1 := HI.out.1.at 1 _ rfl
      have f2 := HI.out.1.at 2 _ rfl
      have f3 := HI.out.1.at 3 _ rfl
      have f4 := HI.out.1.at 4 _ rfl
      have f5 := HI.out.1.at 5 _ rfl
      have f6 := HI.out.1.at 6 _ rfl
      have f7 := HI.out.1.at 7 _ rfl
      have f8 := HI.out.1.at 8 _ rfl
      have f9 := HI.out.1.at 9 _ rfl
      have f10 := HI.out.1.at 10 _ rfl
      have f11 := HI.out.1.at 11 _ rfl
      have f12 := HI.out.1.at 12 _ rfl
      go_wp2_with fail
      refine (HMA.out _ HI.out.1.bel).mono ?_
      rintro e w6 ⟨rfl, hb6⟩
      have HQ6 : Hid (BoxQ 28 w #[.int .i64 pt, .bool fs, .string fh, .int .i64 fp, .bool us, .string uh, .int .i64 up, .string pa, .string qu, .string me, .slice ra rl rc, .bool wi, .string bo] w6) := HI.out.1.step hb6
      have HP6 : Hid (Pss w6 xa pn xg 0 (l.map p.of)) := (HP4.out.below HI.out.2).below hb6
      clear hb6 f0 f1 f2 f3 f4 f5 f6 f7 f8 f9 f10 f11 f12
      have g0 := HQ6.out.at 0 _ rfl
      have g1 := HQ6.out.at 1 _ rfl
      have g2 := HQ6.out.at 2 _ rfl
      have g3 := HQ6.out.at 3 _ rfl
      have g4 := HQ6.out.at 4 _ rfl
      have g5 := HQ6.out.at 5 _ rfl
      have g6 := HQ6.out.at 6 _ rfl
      have g7 := HQ6.out.at 7 _ rfl
      have g8 := HQ6.out.at 8 _ rfl
      have g9 := HQ6.out.at 9 _ rfl
      have g10 := HQ6.out.at 10 _ rfl
      have g11 := HQ6.out.at 11 _ rfl
      have g12 := HQ6.out.at 12 _ rfl
      go_wp2_with fail
      refine (HCV.out _ xa pn xc xg 0 _ (by omega) HQ6.out.bel HP6.out).mono ?_
      rintro e w7 ⟨rfl, hb7⟩
      rw [HCO.out]
      have HB7 : Hid (Below w.heap.size w w7) := HQ6.out.inB hb7
      clear hb7 g0 g1 g2 g3 g4 g5 g6 g7 g8 g9 g10 g11 g12
      go_wp2
      go_ret
      exact ⟨rfl, HB7.out⟩
end Go.Proofs.YthoblggjhdnlpaaGreatDoor
