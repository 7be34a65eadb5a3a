/- What proves a request, by the program. -/
import Derived.Test.YtooaiamfbmjmnaaFmtSumd
import Derived.Test.YtooaiamfbmjmnaaFmtCnt
namespace Go.Proofs.YtooaiamfbmjmnaaFmt
open Go.RowKit

/-- What is asked for, as a value. -/
def askW (a : PfA) (st : Bool) (dv : Value) : Value := .agg #[.int .i64 a.scheme, .string a.realm, .string a.nonce, .string a.opq, .bool a.sess, .string a.qop, .bool st, dv]
def askC (a : PfA) (st : Bool) (dv : Value) : Array Value := #[.int .i64 a.scheme, .string a.realm, .string a.nonce, .string a.opq, .bool a.sess, .string a.qop, .bool st, dv]
/-- What a proof holds while it goes on. -/
structure PfK (w W : World) (a : PfA) (r : PfR) : Prop where
  c0 : W.cell? ⟨w.heap.size, 0, none⟩ = some (.int .i64 a.scheme)
  c1 : W.cell? ⟨w.heap.size, 1, none⟩ = some (.string a.realm)
  c2 : W.cell? ⟨w.heap.size, 2, none⟩ = some (.string a.nonce)
  c4 : W.cell? ⟨w.heap.size, 4, none⟩ = some (.bool a.sess)
  c5 : W.cell? ⟨w.heap.size, 5, none⟩ = some (.string a.qop)
  d0 : W.cell? ⟨w.heap.size + 1, 0, none⟩ = some (.string r.user)
  d1 : W.cell? ⟨w.heap.size + 1, 1, none⟩ = some (.string r.pass)
  lt : w.heap.size + 1 < W.heap.size
  bel : Below w.heap.size w W
  tabs : Tabs W
theorem PfK.below {w W W' : World} {a : PfA} {r : PfR} (h : PfK w W a r) (hb : Below W.heap.size W W') : PfK w W' a r := by
  have hl := h.lt
  have k : ∀ (b i : Nat), b < W.heap.size → W'.cell? ⟨b, i, none⟩ = W.cell? ⟨b, i, none⟩ := fun b i hlt => hb.cell (p := ⟨b, i, none⟩) hlt
  exact ⟨by rw [k _ _ (by omega)]; exact h.c0, by rw [k _ _ (by omega)]; exact h.c1, by rw [k _ _ (by omega)]; exact h.c2, by rw [k _ _ (by omega)]; exact h.c4, by rw [k _ _ (by omega)]; exact h.c5, by rw [k _ _ (by omega)]; exact h.d0, by rw [k _ _ (by omega)]; exact h.d1, Nat.lt_of_lt_of_le hl hb.size, h.bel.trans (hb.mono h.bel.size), h.tabs.below hb⟩
theorem PfK.drew {w W : World} {a : PfA} {r : PfR} (h : PfK w W a r) : PfK w W.drew a r := h.below (Below.refl _ _).drew
theorem pfK_start (w : World) (a : PfA) (r : PfR) (st : Bool) (dv : Value) (HT : Hid (Tabs w)) : PfK w ((w.alloc (.cells #[.int .i64 a.scheme, .string a.realm, .string a.nonce, .string a.opq, .bool a.sess, .string a.qop, .bool st, dv] 24)).alloc (.cells #[.string r.user, .string r.pass] 26)) a r := by
  have hb1 : Below w.heap.size w (w.alloc (.cells #[.int .i64 a.scheme, .string a.realm, .string a.nonce, .string a.opq, .bool a.sess, .string a.qop, .bool st, dv] 24)) := (Below.refl _ _).alloc (Nat.le_refl _) _
  have hz : (w.alloc (.cells #[.int .i64 a.scheme, .string a.realm, .string a.nonce, .string a.opq, .bool a.sess, .string a.qop, .bool st, dv] 24)).heap.size = w.heap.size + 1 := by simp
  have hc : ∀ i, (w.alloc (.cells #[.int .i64 a.scheme, .string a.realm, .string a.nonce, .string a.opq, .bool a.sess, .string a.qop, .bool st, dv] 24)).cell? ⟨w.heap.size, i, none⟩ = #[.int .i64 a.scheme, .string a.realm, .string a.nonce, .string a.opq, .bool a.sess, .string a.qop, .bool st, dv][i]? := fun i => World.cell?_alloc_mark _ _ _ _ _
  generalize (w.alloc (.cells #[.int .i64 a.scheme, .string a.realm, .string a.nonce, .string a.opq, .bool a.sess, .string a.qop, .bool st, dv] 24)) = W1 at hb1 hz hc ⊢
  have hb2 : Below W1.heap.size W1 (W1.alloc (.cells #[.string r.user, .string r.pass] 26)) := (Below.refl _ _).alloc (Nat.le_refl _) _
  have hd : ∀ i, (W1.alloc (.cells #[.string r.user, .string r.pass] 26)).cell? ⟨W1.heap.size, i, none⟩ = #[.string r.user, .string r.pass][i]? := fun i => World.cell?_alloc_mark _ _ _ _ _
  rw [hz] at hd
  have k : ∀ (i : Nat), (W1.alloc (.cells #[.string r.user, .string r.pass] 26)).cell? ⟨w.heap.size, i, none⟩ = W1.cell? ⟨w.heap.size, i, none⟩ := fun i => hb2.cell (p := ⟨w.heap.size, i, none⟩) (by show w.heap.size < _; omega)
  exact ⟨by rw [k, hc]; rfl, by rw [k, hc]; rfl, by rw [k, hc]; rfl, by rw [k, hc]; rfl, by rw [k, hc]; rfl, by rw [hd]; rfl, by rw [hd]; rfl, by simp [hz], hb1.trans (hb2.mono hb1.size), (HT.out.below hb1).below hb2⟩
/-- Texts that are not too long to be summed. -/
def Fits (a : PfA) (r : PfR) : Prop := a.realm.size + a.nonce.size + a.qop.size + r.user.size + r.pass.size + r.method.size + r.target.size + r.body.size + r.cnonce.size ≤ 500
theorem sumL_len (sch : Int) (l : List UInt8) : (sumL sch l).length ≤ 64 := by
  unfold sumL
  rw [hexL_length]
  split
  · obtain ⟨a, b, c, d, e, f, g, h, hx⟩ := eightN (shaBlocks_length (padL false l) ((l.length + 72) / 64))
    unfold shaL
    rw [hx]
    simp [be4]
  · unfold md5L
    generalize md5Blocks _ _ = v
    simp [Four.bytes, le4]
end Go.Proofs.YtooaiamfbmjmnaaFmt
