/- sameAsk, sameGrant of what is the same. -/
import Derived.Test.YtdnnlfklanaliabEqs
import Derived.Test.YtdnnlfklanaliabBkC
import Derived.Test.YtdnnlfklanaliabFshA
import Derived.Test.YtdnnlfklanaliabDra
namespace Go.Proofs.Ytdnnlfklanaliab
open Go.RowKit
set_option linter.unusedVariables false

set_option maxRecDepth 100000 in
set_option maxHeartbeats 4000000 in
theorem sameAsk_yes (a : AskP) (p q : Option Addr) (n c d pb po qb qo : Nat) (w : World) (hp : Strs w p n pb po a.dom) (hq : Strs w q n qb qo a.dom) (hl : a.dom.length ≤ 1000) :
    Calls Try.prog 20 #[.agg #[.int .i64 a.sch, .string a.realm, .string a.nonce, .string a.opq, .bool a.sess, .string a.qop, .bool a.stale, .slice p n c], .agg #[.int .i64 a.sch, .string a.realm, .string a.nonce, .string a.opq, .bool a.sess, .string a.qop, .bool a.stale, .slice q n d]] w fun e w' => e = .returned (.bool true) ∧ Below w.heap.size w w' := by
  have HB : Hid (_ ∧ _ ∧ _) := boxes2 w #[.int .i64 a.sch, .string a.realm, .string a.nonce, .string a.opq, .bool a.sess, .string a.qop, .bool a.stale, .slice p n c] #[.int .i64 a.sch, .string a.realm, .string a.nonce, .string a.opq, .bool a.sess, .string a.qop, .bool a.stale, .slice q n d] 34 34
  have HS : Hid (_ ∧ _ ∧ _) := ⟨hp, hq, hl⟩
  have c0 := cell_of (i := 0) HB.out.2.1
  have c1 := cell_of (i := 1) HB.out.2.1
  have c2 := cell_of (i := 2) HB.out.2.1
  have c3 := cell_of (i := 3) HB.out.2.1
  have c4 := cell_of (i := 4) HB.out.2.1
  have c5 := cell_of (i := 5) HB.out.2.1
  have c6 := cell_of (i := 6) HB.out.2.1
  have c7 := cell_of (i := 7) HB.out.2.1
  have d0 := cell_of (i := 0) HB.out.2.2
  have d1 := cell_of (i := 1) HB.out.2.2
  have d2 := cell_of (i := 2) HB.out.2.2
  have d3 := cell_of (i := 3) HB.out.2.2
  have d4 := cell_of (i := 4) HB.out.2.2
  have d5 := cell_of (i := 5) HB.out.2.2
  have d6 := cell_of (i := 6) HB.out.2.2
  have d7 := cell_of (i := 7) HB.out.2.2
  simp only [List.getElem?_toArray, List.getElem?_cons_zero, List.getElem?_cons_succ] at c0 c1 c2 c3 c4 c5 c6 c7 d0 d1 d2 d3 d4 d5 d6 d7
  clear hp hq hl
  go_enter Try.func20, Try.ntmps20
  have hn : n ≤ 1000000 := by have := HS.out.1.len_eq; have := HS.out.2.2; omega
  have heq := equal_same p q n c pb po d qb qo a.dom _ hn (HS.out.1.below HB.out.1) (HS.out.2.1.below HB.out.1)
  go_wp2_with fail
  refine heq.mono ?_
  rintro e w1 ⟨rfl, z, rfl⟩
  have HZ : Hid (Below w.heap.size w (((w.alloc (.cells #[.int .i64 a.sch, .string a.realm, .string a.nonce, .string a.opq, .bool a.sess, .string a.qop, .bool a.stale, .slice p n c] 34)).alloc (.cells #[.int .i64 a.sch, .string a.realm, .string a.nonce, .string a.opq, .bool a.sess, .string a.qop, .bool a.stale, .slice q n d] 34)).drewN z)) := drewN_at HB.out.1 z
  clear heq c0 c1 c2 c3 c4 c5 c6 c7 d0 d1 d2 d3 d4 d5 d6 d7
  go_wp2
  go_ret
  exact ⟨rfl, HZ.out⟩
theorem eqCred (u p : ByteArray) (w : World) : (Op.equalIn 10000 31 (.agg #[.string u, .string p]) (.agg #[.string u, .string p])).run Try.prog w = .ok true w := by
  have u9 := Try.underlying9
  have hS : Try.prog.underlying 31 = some (.struct (Try.prog.fieldsOf 31)) := by kernel_rfl
  have hp : Try.prog.stoodInHeld 31 = false := by kernel_rfl
  rw [show (10000 : Nat) = 9999 + 1 from rfl, run_equalIn_agg w 9999 31 _ _ hS hp]
  simp only [Program.fieldsOf, Try.underlying31]
  go_simp
theorem orgB_self (o : OrgV) : orgB o o = true := by unfold orgB; simp
set_option maxRecDepth 100000 in
set_option maxHeartbeats 8000000 in
theorem sameGrant_yes (g : GrP) (dp dq pp pq : Option Addr) (n c d pb po qb qo m c' d' rb ro sb so : Nat) (w : World) (hp : Strs w dp n pb po g.ask.dom) (hq : Strs w dq n qb qo g.ask.dom) (hp2 : Strs w pp m rb ro g.paths) (hq2 : Strs w pq m sb so g.paths) (hl : g.ask.dom.length ≤ 1000 ∧ g.paths.length ≤ 1000) :
    Calls Try.prog 11 #[.agg #[.bool g.org.sec, .string g.org.host, .int .i64 g.org.port, .bool g.proxy, .string g.user, .string g.pass, .int .i64 g.ask.sch, .string g.ask.realm, .string g.ask.nonce, .string g.ask.opq, .bool g.ask.sess, .string g.ask.qop, .bool g.ask.stale, .slice dp n c, .int .i64 g.count, .slice pp m c'], .agg #[.bool g.org.sec, .string g.org.host, .int .i64 g.org.port, .bool g.proxy, .string g.user, .string g.pass, .int .i64 g.ask.sch, .string g.ask.realm, .string g.ask.nonce, .string g.ask.opq, .bool g.ask.sess, .string g.ask.qop, .bool g.ask.stale, .slice dq n d, .int .i64 g.count, .slice pq m d']] w fun e w' => e = .returned (.bool true) ∧ Below w.heap.size w w' := by
  have HB : Hid (_ ∧ _ ∧ _) := boxes2 w #[.bool g.org.sec, .string g.org.host, .int .i64 g.org.port, .bool g.proxy, .string g.user, .string g.pass, .int .i64 g.ask.sch, .string g.ask.realm, .string g.ask.nonce, .string g.ask.opq, .bool g.ask.sess, .string g.ask.qop, .bool g.ask.stale, .slice dp n c, .int .i64 g.count, .slice pp m c'] #[.bool g.org.sec, .string g.org.host, .int .i64 g.org.port, .bool g.proxy, .string g.user, .string g.pass, .int .i64 g.ask.sch, .string g.ask.realm, .string g.ask.nonce, .string g.ask.opq, .bool g.ask.sess, .string g.ask.qop, .bool g.ask.stale, .slice dq n d, .int .i64 g.count, .slice pq m d'] 36 36
  have HS : Hid (Strs w dp n pb po g.ask.dom ∧ Strs w dq n qb qo g.ask.dom ∧ Strs w pp m rb ro g.paths ∧ Strs w pq m sb so g.paths ∧ g.ask.dom.length ≤ 1000 ∧ g.paths.length ≤ 1000) := ⟨hp, hq, hp2, hq2, hl⟩
  have c0 := cell_of (i := 0) HB.out.2.1
  have d0 := cell_of (i := 0) HB.out.2.2
  have c1 := cell_of (i := 1) HB.out.2.1
  have d1 := cell_of (i := 1) HB.out.2.2
  have c2 := cell_of (i := 2) HB.out.2.1
  have d2 := cell_of (i := 2) HB.out.2.2
  have c3 := cell_of (i := 3) HB.out.2.1
  have d3 := cell_of (i := 3) HB.out.2.2
  have c4 := cell_of (i := 4) HB.out.2.1
  have d4 := cell_of (i := 4) HB.out.2.2
  have c5 := cell_of (i := 5) HB.out.2.1
  have d5 := cell_of (i := 5) HB.out.2.2
  have c6 := cell_of (i := 6) HB.out.2.1
  have d6 := cell_of (i := 6) HB.out.2.2
  have c7 := cell_of (i := 7) HB.out.2.1
  have d7 := cell_of (i := 7) HB.out.2.2
  have c8 := cell_of (i := 8) HB.out.2.1
  have d8 := cell_of (i := 8) HB.out.2.2
  have c9 := cell_of (i := 9) HB.out.2.1
  have d9 := cell_of (i := 9) HB.out.2.2
  have c10 := cell_of (i := 10) HB.out.2.1
  have d10 := cell_of (i := 10) HB.out.2.2
  have c11 := cell_of (i := 11) HB.out.2.1
  have d11 := cell_of (i := 11) HB.out.2.2
  have c12 := cell_of (i := 12) HB.out.2.1
  have d12 := cell_of (i := 12) HB.out.2.2
  have c13 := cell_of (i := 13) HB.out.2.1
  have d13 := cell_of (i := 13) HB.out.2.2
  have c14 := cell_of (i := 14) HB.out.2.1
  have d14 := cell_of (i := 14) HB.out.2.2
  have c15 := cell_of (i := 15) HB.out.2.1
  have d15 := cell_of (i := 15) HB.out.2.2
  simp only [List.getElem?_toArray, List.getElem?_cons_zero, List.getElem?_cons_succ] at c0 d0 c1 d1 c2 d2 c3 d3 c4 d4 c5 d5 c6 d6 c7 d7 c8 d8 c9 d9 c10 d10 c11 d11 c12 d12 c13 d13 c14 d14 c15 d15
  clear hp hq hp2 hq2 hl
  have e1 := eqOrg g.org g.org true (orgB_self _)
  have e2 := eqCred g.user g.pass
  have hask := sameAsk_yes g.ask dp dq n c d pb po qb qo _ (HS.out.1.below HB.out.1) (HS.out.2.1.below HB.out.1) HS.out.2.2.2.2.1
  go_enter Try.func11, Try.ntmps11
  go_wp2_with fail
  refine hask.mono ?_
  rintro e w1 ⟨rfl, hb1⟩
  have HB1 : Hid (Below w.heap.size w w1 ∧ w1.heap[w.heap.size]? = some (.cells #[.bool g.org.sec, .string g.org.host, .int .i64 g.org.port, .bool g.proxy, .string g.user, .string g.pass, .int .i64 g.ask.sch, .string g.ask.realm, .string g.ask.nonce, .string g.ask.opq, .bool g.ask.sess, .string g.ask.qop, .bool g.ask.stale, .slice dp n c, .int .i64 g.count, .slice pp m c'] 36 (0, 0)) ∧ w1.heap[w.heap.size + 1]? = some (.cells #[.bool g.org.sec, .string g.org.host, .int .i64 g.org.port, .bool g.proxy, .string g.user, .string g.pass, .int .i64 g.ask.sch, .string g.ask.realm, .string g.ask.nonce, .string g.ask.opq, .bool g.ask.sess, .string g.ask.qop, .bool g.ask.stale, .slice dq n d, .int .i64 g.count, .slice pq m d'] 36 (0, 0))) :=
    ⟨HB.out.1.trans (hb1.mono HB.out.1.size), (hb1.block _ (Array.getElem?_eq_some_iff.1 HB.out.2.1).1).trans HB.out.2.1, (hb1.block _ (Array.getElem?_eq_some_iff.1 HB.out.2.2).1).trans HB.out.2.2⟩
  clear hask hb1 HB c0 d0 c1 d1 c2 d2 c3 d3 c4 d4 c5 d5 c6 d6 c7 d7 c8 d8 c9 d9 c10 d10 c11 d11 c12 d12 c13 d13 c14 d14 c15 d15
  have c14 := cell_of (i := 14) HB1.out.2.1
  have c15 := cell_of (i := 15) HB1.out.2.1
  have d14 := cell_of (i := 14) HB1.out.2.2
  have d15 := cell_of (i := 15) HB1.out.2.2
  simp only [List.getElem?_toArray, List.getElem?_cons_zero, List.getElem?_cons_succ] at c14 c15 d14 d15
  have hm : m ≤ 1000000 := by have := HS.out.2.2.1.len_eq; have := HS.out.2.2.2.2.2; omega
  have heq := equal_same pp pq m c' rb ro d' sb so g.paths w1 hm (HS.out.2.2.1.below HB1.out.1) (HS.out.2.2.2.1.below HB1.out.1)
  go_wp2_with fail
  refine heq.mono ?_
  rintro e w2 ⟨rfl, z, rfl⟩
  have HZ : Hid (Below w.heap.size w (w1.drewN z)) := drewN_at HB1.out.1 z
  clear heq c14 c15 d14 d15
  go_wp2
  go_ret
  exact ⟨rfl, HZ.out⟩
end Go.Proofs.Ytdnnlfklanaliab
