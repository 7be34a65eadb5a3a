/- What came in, kept while a law goes on: who asks, and what is asked for. -/
import Derived.Test.YtooaiamfbmjmnaaFmtSumd
namespace Go.Proofs.YtooaiamfbmjmnaaFmt
open Go.RowKit

/-- What is kept of what came in: each cell. -/
structure AcK (w W : World) (a : PfA) (st : Bool) (dv : Value) (u p : ByteArray) : Prop where
  c0 : W.cell? ⟨w.heap.size, 0, none⟩ = some (.int .i64 a.scheme)
  c1 : W.cell? ⟨w.heap.size, 1, none⟩ = some (.string a.realm)
  c2 : W.cell? ⟨w.heap.size, 2, none⟩ = some (.string a.nonce)
  c3 : W.cell? ⟨w.heap.size, 3, none⟩ = some (.string a.opq)
  c4 : W.cell? ⟨w.heap.size, 4, none⟩ = some (.bool a.sess)
  c5 : W.cell? ⟨w.heap.size, 5, none⟩ = some (.string a.qop)
  c6 : W.cell? ⟨w.heap.size, 6, none⟩ = some (.bool st)
  c7 : W.cell? ⟨w.heap.size, 7, none⟩ = some dv
  d0 : W.cell? ⟨w.heap.size + 1, 0, none⟩ = some (.string u)
  d1 : W.cell? ⟨w.heap.size + 1, 1, none⟩ = some (.string p)
  lt : w.heap.size + 1 < W.heap.size
  bel : Below w.heap.size w W
  tabs : Tabs W
theorem AcK.below {w W W' : World} {a : PfA} {st : Bool} {dv : Value} {u p : ByteArray} (h : AcK w W a st dv u p) (hb : Below W.heap.size W W') : AcK w W' a st dv u p := by
  have hl := h.lt
  have k : ∀ (b i : Nat), b < W.heap.size → W'.cell? ⟨b, i, none⟩ = W.cell? ⟨b, i, none⟩ := fun b i hlt => hb.cell (p := ⟨b, i, none⟩) hlt
  exact ⟨by rw [k _ _ (by omega)]; exact h.c0, by rw [k _ _ (by omega)]; exact h.c1, by rw [k _ _ (by omega)]; exact h.c2, by rw [k _ _ (by omega)]; exact h.c3, by rw [k _ _ (by omega)]; exact h.c4, by rw [k _ _ (by omega)]; exact h.c5, by rw [k _ _ (by omega)]; exact h.c6, by rw [k _ _ (by omega)]; exact h.c7, by rw [k _ _ (by omega)]; exact h.d0, by rw [k _ _ (by omega)]; exact h.d1, Nat.lt_of_lt_of_le hl hb.size, h.bel.trans (hb.mono h.bel.size), h.tabs.below hb⟩
theorem acK_start (w : World) (a : PfA) (st : Bool) (dv : Value) (u p : ByteArray) (HT : Hid (Tabs w)) : AcK w ((w.alloc (.cells #[.int .i64 a.scheme, .string a.realm, .string a.nonce, .string a.opq, .bool a.sess, .string a.qop, .bool st, dv] 24)).alloc (.cells #[.string u, .string p] 26)) a st dv u p := by
  have hb1 : Below w.heap.size w (w.alloc (.cells #[.int .i64 a.scheme, .string a.realm, .string a.nonce, .string a.opq, .bool a.sess, .string a.qop, .bool st, dv] 24)) := (Below.refl _ _).alloc (Nat.le_refl _) _
  have hz : (w.alloc (.cells #[.int .i64 a.scheme, .string a.realm, .string a.nonce, .string a.opq, .bool a.sess, .string a.qop, .bool st, dv] 24)).heap.size = w.heap.size + 1 := by simp
  have hc : ∀ i, (w.alloc (.cells #[.int .i64 a.scheme, .string a.realm, .string a.nonce, .string a.opq, .bool a.sess, .string a.qop, .bool st, dv] 24)).cell? ⟨w.heap.size, i, none⟩ = #[.int .i64 a.scheme, .string a.realm, .string a.nonce, .string a.opq, .bool a.sess, .string a.qop, .bool st, dv][i]? := fun i => World.cell?_alloc_mark _ _ _ _ _
  generalize (w.alloc (.cells #[.int .i64 a.scheme, .string a.realm, .string a.nonce, .string a.opq, .bool a.sess, .string a.qop, .bool st, dv] 24)) = W1 at hb1 hz hc ⊢
  have hb2 : Below W1.heap.size W1 (W1.alloc (.cells #[.string u, .string p] 26)) := (Below.refl _ _).alloc (Nat.le_refl _) _
  have hd : ∀ i, (W1.alloc (.cells #[.string u, .string p] 26)).cell? ⟨W1.heap.size, i, none⟩ = #[.string u, .string p][i]? := fun i => World.cell?_alloc_mark _ _ _ _ _
  rw [hz] at hd
  have k : ∀ (i : Nat), (W1.alloc (.cells #[.string u, .string p] 26)).cell? ⟨w.heap.size, i, none⟩ = W1.cell? ⟨w.heap.size, i, none⟩ := fun i => hb2.cell (p := ⟨w.heap.size, i, none⟩) (by show w.heap.size < _; omega)
  exact ⟨by rw [k, hc]; rfl, by rw [k, hc]; rfl, by rw [k, hc]; rfl, by rw [k, hc]; rfl, by rw [k, hc]; rfl, by rw [k, hc]; rfl, by rw [k, hc]; rfl, by rw [k, hc]; rfl, by rw [hd]; rfl, by rw [hd]; rfl, by simp [hz], hb1.trans (hb2.mono hb1.size), (HT.out.below hb1).below hb2⟩
end Go.Proofs.YtooaiamfbmjmnaaFmt
