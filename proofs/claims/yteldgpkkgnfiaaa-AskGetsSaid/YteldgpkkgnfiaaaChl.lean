/- A challenge, and a row of challenges, that lie somewhere; the value of a parameter, by the program. -/
import Derived.Test.YteldgpkkgnfiaaaPrm
import Derived.Test.YteldgpkkgnfiaaaClo
import Derived.Deep.QuietTactic
import Derived.BigQuiet
namespace Go.Proofs.Yteldgpkkgnfiaaa
open Go.RowKit

/-- A challenge, and where its parameters lie. -/
structure ChV where
  x : Chal
  a : Option Addr
  cap : Nat
  b : Nat
  off : Nat
def ChV.len (c : ChV) : Nat := c.x.params.length
/-- Its parameters lie there. -/
def ChOk (w : World) (c : ChV) : Prop := Pars w c.a c.len c.b c.off c.x.params
/-- A row of challenges that lies somewhere. -/
structure Chals (w : World) (a0 : Option Addr) (len b off : Nat) (cs : List ChV) : Prop where
  len_eq : cs.length = len
  lies : 0 < len → a0 = some ⟨b, off, none⟩ ∧ b < w.heap.size
  one : ∀ (j : Nat) (c : ChV), cs[j]? = some c → w.cell? ⟨b, off + j * 3, none⟩ = some (.string c.x.scheme)
  two : ∀ (j : Nat) (c : ChV), cs[j]? = some c → w.cell? ⟨b, off + j * 3 + 1, none⟩ = some (.string c.x.token)
  three : ∀ (j : Nat) (c : ChV), cs[j]? = some c → w.cell? ⟨b, off + j * 3 + 2, none⟩ = some (.slice c.a c.len c.cap)
  pars : ∀ c ∈ cs, ChOk w c
theorem ChOk.below {w w' : World} {c : ChV} (h : ChOk w c) (hb : Below w.heap.size w w') : ChOk w' c := Pars.below h hb
theorem Chals.below {w w' : World} {a0 : Option Addr} {len b off : Nat} {cs : List ChV} (h : Chals w a0 len b off cs) (hb : Below w.heap.size w w') : Chals w' a0 len b off cs := by
  have hl : ∀ (j : Nat) (c : ChV), cs[j]? = some c → b < w.heap.size := fun j c hc => by
    have := (List.getElem?_eq_some_iff.1 hc).1
    have := h.len_eq
    exact (h.lies (by omega)).2
  exact ⟨h.len_eq, fun h0 => ⟨(h.lies h0).1, Nat.lt_of_lt_of_le (h.lies h0).2 hb.size⟩,
    fun j c hc => (hb.cell (p := ⟨b, off + j * 3, none⟩) (hl j c hc)).trans (h.one j c hc),
    fun j c hc => (hb.cell (p := ⟨b, off + j * 3 + 1, none⟩) (hl j c hc)).trans (h.two j c hc),
    fun j c hc => (hb.cell (p := ⟨b, off + j * 3 + 2, none⟩) (hl j c hc)).trans (h.three j c hc),
    fun c hc => (h.pars c hc).below hb⟩
/-- The value of a parameter. -/
def getL (ps : List Par) (n : List UInt8) : Option ByteArray := (ps.find? fun p => sameL p.1.data.toList n).map (·.2)
/-- Names and values that are not too long. -/
def Few (ps : List Par) : Prop := ps.length ≤ 1000000 ∧ ∀ p ∈ ps, p.1.size ≤ 3000 ∧ p.2.size ≤ 3000
set_option maxHeartbeats 1000000 in
theorem get_none (c : ChV) (n : ByteArray) (hf : Few c.x.params) (hn : n.size ≤ 3000) (w : World) (hx : ChOk w c) (hg : getL c.x.params n.data.toList = none) :
    Calls Try.prog 6 #[.agg #[.string c.x.scheme, .string c.x.token, .slice c.a c.len c.cap], .string n] w fun e w' => e = .returned (.tuple #[.string ⟨#[]⟩, .bool false]) ∧ Below w.heap.size w w' := by
  have hb1 : Below w.heap.size w (w.alloc (.cells #[.string c.x.scheme, .string c.x.token, .slice c.a c.len c.cap] 24)) := (Below.refl _ _).alloc (Nat.le_refl _) _
  have HX : Hid (ChOk (w.alloc (.cells #[.string c.x.scheme, .string c.x.token, .slice c.a c.len c.cap] 24)) c) := hx.below hb1
  have HF : Hid (Few c.x.params) := hf
  have HG : Hid (c.x.params.find? (fun p => sameL p.1.data.toList n.data.toList) = none) := by
    have := hg
    unfold getL at this
    exact Option.map_eq_none_iff.1 this
  clear hx hf hg
  go_enter Try.func6, Try.ntmps6
  go_wp2_with fail
  refine (find_any c.x.params n (fun p hp => Nat.le_trans (HF.out.2 p hp).1 (by omega)) (by omega) c.a c.len c.cap c.b c.off HF.out.1 _ HX.out).mono ?_
  rintro e w2 ⟨⟨r, rfl, HR⟩, hb2⟩
  have hr : r = -1 := by
    rcases HR.out with ⟨h, _⟩ | ⟨k, p, _, _, h⟩
    · exact h
    · rw [HG.out] at h; cases h
  subst hr
  go_wp2
  go_ret2
  exact ⟨rfl, hb1.trans (hb2.mono (by simp))⟩
set_option maxHeartbeats 1000000 in
theorem get_some (c : ChV) (n v : ByteArray) (hf : Few c.x.params) (hn : n.size ≤ 3000) (w : World) (hx : ChOk w c) (hg : getL c.x.params n.data.toList = some v) :
    Calls Try.prog 6 #[.agg #[.string c.x.scheme, .string c.x.token, .slice c.a c.len c.cap], .string n] w fun e w' => e = .returned (.tuple #[.string v, .bool true]) ∧ Below w.heap.size w w' := by
  have hb1 : Below w.heap.size w (w.alloc (.cells #[.string c.x.scheme, .string c.x.token, .slice c.a c.len c.cap] 24)) := (Below.refl _ _).alloc (Nat.le_refl _) _
  have HX : Hid (ChOk (w.alloc (.cells #[.string c.x.scheme, .string c.x.token, .slice c.a c.len c.cap] 24)) c) := hx.below hb1
  have HF : Hid (Few c.x.params) := hf
  have HG : Hid (∃ p, c.x.params.find? (fun p => sameL p.1.data.toList n.data.toList) = some p ∧ p.2 = v) := by
    have := hg
    unfold getL at this
    exact Option.map_eq_some_iff.1 this
  clear hx hf hg
  go_enter Try.func6, Try.ntmps6
  go_wp2_with fail
  refine (find_any c.x.params n (fun p hp => Nat.le_trans (HF.out.2 p hp).1 (by omega)) (by omega) c.a c.len c.cap c.b c.off HF.out.1 _ HX.out).mono ?_
  rintro e w2 ⟨⟨r, rfl, HR⟩, hb2⟩
  obtain ⟨k, hr, hk, hcell, hkl, hvz, hlies⟩ : ∃ k : Nat, r = k ∧ k < c.len ∧ w2.cell? ⟨c.b, c.off + k * 2 + 1, none⟩ = some (.string v) ∧ c.len ≤ 1000000 ∧ v.size ≤ 3000 ∧ c.a = some ⟨c.b, c.off, none⟩ := by
    obtain ⟨q, hq, hqv⟩ := HG.out
    rcases HR.out with ⟨_, h⟩ | ⟨k, p, hr, hk, h⟩
    · rw [hq] at h; cases h
    · rw [hq] at h
      cases h
      have hkl := (List.getElem?_eq_some_iff.1 hk).1
      have h2 := HX.out.below hb2
      refine ⟨k, hr, hkl, ?_, HF.out.1, ?_, ?_⟩
      · rw [← hqv]; exact h2.two k _ hk
      · rw [← hqv]; exact (HF.out.2 _ (List.mem_of_getElem? hk)).2
      · exact (h2.lies (by show 0 < c.len; unfold ChV.len; omega)).1
  subst hr
  have hbx : w2.cell? ⟨w.heap.size, 2, none⟩ = some (.slice c.a c.len c.cap) := (hb2.cell (p := ⟨w.heap.size, 2, none⟩) (by simp)).trans (World.cell?_alloc_mark _ _ _ _ _)
  rw [hlies] at hbx
  have hk0 : (k : Int) < (c.len : Int) := by omega
  have hkn : ¬ (k : Int) < 0 := by omega
  go_wp2_with (go_at_call 9; refine (clone_any v hvz _).mono ?_; rintro e w3 ⟨rfl, hb3⟩)
  go_ret2
  exact ⟨rfl, (hb1.trans (hb2.mono (by simp))).trans (hb3.mono (Nat.le_trans (by simp) hb2.size))⟩
end Go.Proofs.Yteldgpkkgnfiaaa
