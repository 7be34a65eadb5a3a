/- An origin as text, by the program. -/
import Derived.Test.YtoblpjknnchlmabGreatDoorSch
import Derived.Test.YtoblpjknnchlmabGreatDoorShItoa
import Derived.Lib.ItoaLen
namespace Go.Proofs.YtoblpjknnchlmabGreatDoor
open Go.RowKit

/-- What a text of an origin leans on: the two tables. -/
structure Env (w : World) : Prop where
  sch : Schemes w
  tab : Lib.TabIs Tryz.prog w "internal/strconv.uint64pow10" .u64 Lib.pow10Tab
theorem Env.below {w w' : World} (h : Env w) {H : Nat} (hb : Below H w w') (hH : w.heap.size ≤ H) : Env w' :=
  ⟨h.sch.below hb hH, Joins.tab_stays (g := 6) (by kernel_rfl) h.tab hb hH⟩
def tailT (sec : Bool) (port : Int) : List UInt8 := if port = portI sec then [] else 58 :: Lib.itoa port
def textL (sec : Bool) (host : List UInt8) (port : Int) : List UInt8 := (markOf sec).data.toList ++ host ++ tailT sec port
structure TKeep (w W : World) : Prop where
  env : Env W
  bel : Below w.heap.size w W
  siz : w.heap.size < W.heap.size

theorem TKeep.step {w W W' : World} (h : TKeep w W) (hb : Below W.heap.size W W') : TKeep w W' :=
  ⟨h.env.below hb (Nat.le_refl _), h.bel.trans (hb.mono h.bel.size), Nat.lt_of_lt_of_le h.siz hb.size⟩

theorem keepQ {w W W' : World} {a b : Nat} {x y z : Value} (h : W.cell? ⟨a, 1, none⟩ = some x ∧ W.cell? ⟨a, 2, none⟩ = some y ∧ W.cell? ⟨b, 0, none⟩ = some z ∧ TKeep w W) (_hab : a < b) (hb : Below W.heap.size W W') :
    W'.cell? ⟨a, 1, none⟩ = some x ∧ W'.cell? ⟨a, 2, none⟩ = some y ∧ W'.cell? ⟨b, 0, none⟩ = some z ∧ TKeep w W' := by
  obtain ⟨h1, h2, h3, h4⟩ := h
  exact ⟨(hb.cell (p := ⟨a, 1, none⟩) (lt_of_cell h1)).trans h1, (hb.cell (p := ⟨a, 2, none⟩) (lt_of_cell h2)).trans h2, (hb.cell (p := ⟨b, 0, none⟩) (lt_of_cell h3)).trans h3, h4.step hb⟩
set_option maxRecDepth 100000 in
set_option maxHeartbeats 1000000 in
theorem text_any (sec : Bool) (host : ByteArray) (port : Int) (hs : host.size ≤ 4000) (h0 : -9223372036854775808 ≤ port) (h1 : port ≤ 9223372036854775807) (w : World) (h : Env w) :
    Calls Tryz.prog 39 #[.agg #[.bool sec, .string host, .int .i64 port]] w fun e w' => e = .returned (.string (bs (textL sec host.data.toList port))) ∧ Below w.heap.size w w' := by
  have hS : TKeep w (w.alloc (.cells #[.bool sec, .string host, .int .i64 port] 23)) := by
    have hb : Below w.heap.size w (w.alloc (.cells #[.bool sec, .string host, .int .i64 port] 23)) := (Below.refl _ _).alloc (Nat.le_refl _) _
    exact ⟨h.below hb (Nat.le_refl _), hb, by simp⟩
  obtain ⟨mk, HM⟩ : ∃ mk : ByteArray, Hid (markOf sec = mk) := ⟨_, rfl⟩
  have hmk : mk.size ≤ 8 := by rw [← HM.out]; cases sec <;> decide
  obtain ⟨pt, HP⟩ : ∃ pt : Int, Hid (portI sec = pt) := ⟨_, rfl⟩
  by_cases hp : port = pt
  · subst hp
    have HR : Hid (bs (textL sec host.data.toList port) = mk ++ host) := by
      show _ = _
      unfold textL tailT
      rw [HM.out, HP.out, if_pos rfl, List.append_nil, bs_append, bs_self, bs_self]
    go_enter Tryz.func39, Tryz.ntmps39
    go_wp2_with fail
    refine (schemeOf_any sec _ hS.env.sch).mono ?_
    rintro e w1 ⟨rfl, hb1⟩
    rw [HM.out, HP.out]
    have hT := hS.step hb1
    have k1 : ∀ o, (w1.alloc o).cell? ⟨w.heap.size, 1, none⟩ = some (.string host) := fun o => (World.cell?_alloc_lt (w := w1) (o := o) (a := ⟨w.heap.size, 1, none⟩) (h := hT.siz)).trans ((hb1.cell (p := ⟨w.heap.size, 1, none⟩) (by simp)).trans (cells_new _ _ _ 1))
    have k2 : ∀ o, (w1.alloc o).cell? ⟨w.heap.size, 2, none⟩ = some (.int .i64 port) := fun o => (World.cell?_alloc_lt (w := w1) (o := o) (a := ⟨w.heap.size, 2, none⟩) (h := hT.siz)).trans ((hb1.cell (p := ⟨w.heap.size, 2, none⟩) (by simp)).trans (cells_new _ _ _ 2))
    go_wp2
    go_ret
    exact ⟨ret_str HR.out.symm, hT.bel.trans ((Below.refl _ _).alloc (Nat.le_refl _) _ |>.mono hT.bel.size)⟩
  · have hpq : (port == pt) = false := beq_eq_false_iff_ne.2 hp
    have HR : Hid (bs (textL sec host.data.toList port) = mk ++ host ++ bs [58] ++ bs (Lib.itoa port)) := by
      show _ = _
      unfold textL tailT
      rw [HM.out, HP.out, if_neg hp, bs_append, bs_append, bs_self, bs_self, ← List.singleton_append, bs_append]
      simp only [ByteArray.append_assoc]
    obtain ⟨tx, HTX⟩ : ∃ tx : ByteArray, Hid (bs (Lib.itoa port) = tx) := ⟨_, rfl⟩
    have htx : tx.size ≤ 21 := by rw [← HTX.out, bs_size]; exact Lib.itoa_length_le port h0 h1
    have a1 := fun W => run_string_add_sum (P := Tryz.prog) W mk host (by omega)
    have a2 := fun W => run_string_add_sum (P := Tryz.prog) W (mk ++ host) ⟨#[58]⟩ (by simp [ByteArray.size_append]; have : (⟨#[58]⟩ : ByteArray).size = 1 := rfl; omega)
    have a3 := fun W => run_string_add_sum (P := Tryz.prog) W (mk ++ host ++ ⟨#[58]⟩) tx (by simp only [ByteArray.size_append]; have : (⟨#[58]⟩ : ByteArray).size = 1 := rfl; omega)
    go_enter Tryz.func39, Tryz.ntmps39
    go_wp2_with fail
    refine (schemeOf_any sec _ hS.env.sch).mono ?_
    rintro e w1 ⟨rfl, hb1⟩
    rw [HM.out, HP.out]
    have hT := hS.step hb1
    have k1 : ∀ o, (w1.alloc o).cell? ⟨w.heap.size, 1, none⟩ = some (.string host) := fun o => (World.cell?_alloc_lt (w := w1) (o := o) (a := ⟨w.heap.size, 1, none⟩) (h := hT.siz)).trans ((hb1.cell (p := ⟨w.heap.size, 1, none⟩) (by simp)).trans (cells_new _ _ _ 1))
    have k2 : ∀ o, (w1.alloc o).cell? ⟨w.heap.size, 2, none⟩ = some (.int .i64 port) := fun o => (World.cell?_alloc_lt (w := w1) (o := o) (a := ⟨w.heap.size, 2, none⟩) (h := hT.siz)).trans ((hb1.cell (p := ⟨w.heap.size, 2, none⟩) (by simp)).trans (cells_new _ _ _ 2))
    go_wp2
    have hQ : (w1.alloc (.cells #[.string mk, .bool sec, .int .i64 pt] 103)).drew.cell? ⟨w.heap.size, 1, none⟩ = some (.string host) ∧ (w1.alloc (.cells #[.string mk, .bool sec, .int .i64 pt] 103)).drew.cell? ⟨w.heap.size, 2, none⟩ = some (.int .i64 port) ∧ (w1.alloc (.cells #[.string mk, .bool sec, .int .i64 pt] 103)).drew.cell? ⟨w1.heap.size, 0, none⟩ = some (.string mk) ∧ TKeep w (w1.alloc (.cells #[.string mk, .bool sec, .int .i64 pt] 103)).drew :=
      ⟨k1 _, k2 _, cells_new _ _ _ 0, hT.step (((Below.refl _ _).alloc (Nat.le_refl _) _).drew)⟩
    go_region_held3 (fun W => W.cell? ⟨w.heap.size, 1, none⟩ = some (.string host) ∧ W.cell? ⟨w.heap.size, 2, none⟩ = some (.int .i64 port) ∧ W.cell? ⟨w1.heap.size, 0, none⟩ = some (.string mk) ∧ TKeep w W) (first | assumption | exact hQ) (
      (go_at_call 70; refine (itoa_any port h0 h1 _ (TKeep.env (And.right (And.right (And.right (by assumption))))).tab).mono ?_; rintro e w3 ⟨rfl, hb3⟩; rw [HTX.out]; have hQ3 := keepQ (a := w.heap.size) (b := w1.heap.size) (by assumption) hT.siz hb3))
    go_wp2
    go_ret
    exact ⟨ret_str (by rw [HR.out, HTX.out]; rfl), hQ3.2.2.2.bel⟩
end Go.Proofs.YtoblpjknnchlmabGreatDoor
