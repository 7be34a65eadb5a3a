/- The bank's closures that find grants. -/
import Derived.Test.YtdnnlfklanaliabGrD
import Derived.Test.YtdnnlfklanaliabDlfG
import Derived.Test.YtdnnlfklanaliabCln2
import Derived.Deep.QuietTactic
import Derived.BigQuiet
namespace Go.Proofs.Ytdnnlfklanaliab
open Go.RowKit
set_option linter.unusedVariables false

def orgB (a b : OrgV) : Bool := a.sec == b.sec && (a.host.toList == b.host.toList && a.port == b.port)
theorem eqOrg (a b : OrgV) (E : Bool) (hE : orgB a b = E) (w : World) :
    (Op.equalIn 10000 29 (.agg #[.bool a.sec, .string a.host, .int .i64 a.port]) (.agg #[.bool b.sec, .string b.host, .int .i64 b.port])).run Try.prog w = .ok E w := by
  have u3 := Try.underlying3
  have u4 := Try.underlying4
  have u9 := Try.underlying9
  have a3 := Try.isAgg3
  have z3 := Try.sizeOf3
  have hS : Try.prog.underlying 29 = some (.struct (Try.prog.fieldsOf 29)) := by kernel_rfl
  have hp : Try.prog.stoodInHeld 29 = false := by kernel_rfl
  rw [show (10000 : Nat) = 9999 + 1 from rfl, run_equalIn_agg w 9999 29 _ _ hS hp, ← hE]
  unfold orgB
  simp only [Program.fieldsOf, Try.underlying29]
  go_simp
  by_cases h1 : a.sec = b.sec <;> by_cases h2 : a.host.toList = b.host.toList <;> by_cases h3 : a.port = b.port <;> simp [h1, h2, h3]
/-- Whether a grant is an origin's, of a proxy or not, and of a realm. -/
def realmB (o : OrgV) (p : Bool) (r : ByteArray) (g : GrP) : Bool := orgB g.org o && (g.proxy == p && g.ask.realm.toList == r.toList)
/-- What a function of origin, proxy and realm says of a grant's cells. -/
def onG (q : OrgV → Bool → ByteArray → Bool) : List Value → Bool
  | .bool s :: .string h :: .int _ n :: .bool p :: _ :: _ :: _ :: .string r :: _ => q ⟨s, h, n⟩ p r
  | _ => false
theorem onG_at (q : OrgV → Bool → ByteArray → Bool) (v : GrV) : onG q (grCells v) = q v.g.org v.g.proxy v.g.ask.realm := rfl
/-- Three boxes of an origin, a proxy, and a text. -/
structure Box3 (w : World) (a b c : Nat) (o : OrgV) (p : Bool) (r : ByteArray) : Prop where
  org : w.heap[a]? = some (.cells #[.bool o.sec, .string o.host, .int .i64 o.port] 29 (0, 0))
  prx : w.heap[b]? = some (.cells #[.bool p] 4 (0, 0))
  txt : w.heap[c]? = some (.cells #[.string r] 9 (0, 0))
theorem Box3.below {w w' : World} {a b c : Nat} {o : OrgV} {p : Bool} {r : ByteArray} (h : Box3 w a b c o p r) (hb : Below w.heap.size w w') : Box3 w' a b c o p r :=
  ⟨(hb.block _ (Array.getElem?_eq_some_iff.1 h.org).1).trans h.org, (hb.block _ (Array.getElem?_eq_some_iff.1 h.prx).1).trans h.prx, (hb.block _ (Array.getElem?_eq_some_iff.1 h.txt).1).trans h.txt⟩
theorem Box3.grown {w w' : World} {a b c g : Nat} {o : OrgV} {p : Bool} {r : ByteArray} {cs : Array Value} (h : Box3 w a b c o p r) (hg : w.grownBy w' (some g)) (hh : w.heap[g]? = some (.cells cs 36 (0, 0))) : Box3 w' a b c o p r := by
  have ne : ∀ {x : Nat} {cur : Array Value} {t : TypeId}, w.heap[x]? = some (.cells cur t (0, 0)) → t ≠ 36 → some x ≠ some g := fun hx ht e => by
    injection e with e
    subst e
    rw [hx] at hh
    injection hh with hh
    injection hh with _ h3
    exact ht h3
  exact ⟨(hg.block _ (Array.getElem?_eq_some_iff.1 h.org).1 (ne h.org (by decide))).trans h.org, (hg.block _ (Array.getElem?_eq_some_iff.1 h.prx).1 (ne h.prx (by decide))).trans h.prx, (hg.block _ (Array.getElem?_eq_some_iff.1 h.txt).1 (ne h.txt (by decide))).trans h.txt⟩
set_option maxRecDepth 100000 in
set_option maxHeartbeats 4000000 in
theorem grantIs_any (v : GrV) (hone : ∀ u ∈ grCells v, u.oneCell' = true) (o : OrgV) (p : Bool) (r : ByteArray) (a b c : Nat) (w : World) (hb : Box3 w a b c o p r) :
    Calls Try.prog 58 #[.agg (grCells v).toArray, .pointer (some ⟨a, 0, none⟩), .pointer (some ⟨b, 0, none⟩), .pointer (some ⟨c, 0, none⟩)] w fun e w' => e = .returned (.bool (realmB o p r v.g)) ∧ Below w.heap.size w w' := by
  have hbb : Below w.heap.size w (w.alloc (.cells (grCells v).toArray 36)) := (Below.refl _ _).alloc (Nat.le_refl _) _
  have hb2 := hb.below hbb
  have hn := heap_alloc_new w (.cells (grCells v).toArray 36)
  unfold grCells at hbb hb2 hn ⊢
  have HB : Hid (Below w.heap.size w (w.alloc (.cells [Value.bool v.g.org.sec, .string v.g.org.host, .int .i64 v.g.org.port, .bool v.g.proxy, .string v.g.user, .string v.g.pass, .int .i64 v.g.ask.sch, .string v.g.ask.realm, .string v.g.ask.nonce, .string v.g.ask.opq, .bool v.g.ask.sess, .string v.g.ask.qop, .bool v.g.ask.stale, v.dv, .int .i64 v.g.count, v.pv].toArray 36))) := hbb
  have c0 := (cell_of (i := 0) hb2.org)
  have c1 := (cell_of (i := 1) hb2.org)
  have c2 := (cell_of (i := 2) hb2.org)
  have c3 := (cell_of (i := 0) hb2.prx)
  have c4 := (cell_of (i := 0) hb2.txt)
  have n0 := cell_of (i := 0) hn
  have n1 := cell_of (i := 1) hn
  have n2 := cell_of (i := 2) hn
  have n3 := cell_of (i := 3) hn
  have n7 := cell_of (i := 7) hn
  simp only [List.getElem?_toArray, List.getElem?_cons_zero, List.getElem?_cons_succ] at c0 c1 c2 c3 c4 n0 n1 n2 n3 n7
  have e1 := eqOrg v.g.org o (orgB v.g.org o) rfl
  clear hb hb2 hn hbb hone
  go_enter Try.func58, Try.ntmps58
  obtain ⟨E1, h1⟩ : ∃ E, orgB v.g.org o = E := ⟨_, rfl⟩
  obtain ⟨E2, h2⟩ : ∃ E, (v.g.proxy == p) = E := ⟨_, rfl⟩
  obtain ⟨E3, h3⟩ : ∃ E, (v.g.ask.realm.toList == r.toList) = E := ⟨_, rfl⟩
  have HE : Hid (realmB o p r v.g = (E1 && (E2 && E3))) := by show _ = _; unfold realmB; rw [h1, h2, h3]
  rw [h1] at e1
  clear h1
  rw [HE.out]
  cases E1
  · go_wp2
    go_ret
    exact ⟨rfl, HB.out⟩
  · cases E2
    · go_wp2
      go_ret
      exact ⟨rfl, HB.out⟩
    · cases E3
      · go_wp2
        go_ret
        exact ⟨rfl, HB.out⟩
      · go_wp2
        go_ret
        exact ⟨rfl, HB.out⟩
set_option maxRecDepth 100000 in
set_option maxHeartbeats 2000000 in
theorem grantOf_any (o : OrgV) (p : Bool) (r : ByteArray) (w : World) :
    Calls Try.prog 47 #[.agg #[.bool o.sec, .string o.host, .int .i64 o.port], .bool p, .string r] w fun e w' => (∃ a b c, e = .returned (.func (.func 58) #[] #[.pointer (some ⟨a, 0, none⟩), .pointer (some ⟨b, 0, none⟩), .pointer (some ⟨c, 0, none⟩)]) ∧ Hid (Box3 w' a b c o p r)) ∧ Below w.heap.size w w' := by
  have hb1 : Below w.heap.size w (((w.alloc (.cells #[.bool o.sec, .string o.host, .int .i64 o.port] 29)).alloc (.cells #[.bool p] 4)).alloc (.cells #[.string r] 9)) := (((Below.refl _ _).alloc (Nat.le_refl _) _).alloc (by simp) _).alloc (by simp; omega) _
  have h1 : Hid (Box3 (((w.alloc (.cells #[.bool o.sec, .string o.host, .int .i64 o.port] 29)).alloc (.cells #[.bool p] 4)).alloc (.cells #[.string r] 9)) w.heap.size (w.heap.size + 1) (w.heap.size + 2) o p r) := by
    have e1 := heap_alloc_new w (.cells #[.bool o.sec, .string o.host, .int .i64 o.port] 29)
    have e2 := heap_alloc_new (w.alloc (.cells #[.bool o.sec, .string o.host, .int .i64 o.port] 29)) (.cells #[.bool p] 4)
    have e3 := heap_alloc_new ((w.alloc (.cells #[.bool o.sec, .string o.host, .int .i64 o.port] 29)).alloc (.cells #[.bool p] 4)) (.cells #[.string r] 9)
    simp only [World.size_alloc] at e2 e3
    refine ⟨?_, ?_, e3⟩
    · rw [heap_alloc_old _ _ (by simp; omega), heap_alloc_old _ _ (by simp)]
      exact e1
    · rw [heap_alloc_old _ _ (by simp)]
      exact e2
  go_enter Try.func47, Try.ntmps47
  go_wp2
  go_ret
  exact ⟨⟨_, _, _, rfl, h1⟩, hb1⟩
end Go.Proofs.Ytdnnlfklanaliab
