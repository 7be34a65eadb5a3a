/- gatepostkeep.held's own closure: what it says of a grant. -/
import Derived.Test.YtdnnlfklanaliabHld7
namespace Go.Proofs.Ytdnnlfklanaliab
open Go.RowKit
set_option linter.unusedVariables false

/-- Whatever it says: where it says no, the grant's rows are short. -/
def HeldAns (n m : Nat) (B : Nat) (w : World) (e : Ending) (w' : World) : Prop := (∃ t : Bool, e = .returned (.bool t) ∧ (t = false → n ≤ 6 ∧ m ≤ 6)) ∧ Below B w w'
set_option maxRecDepth 100000 in
set_option maxHeartbeats 4000000 in
theorem heldOne (g : GrP) (dp pp : Option Addr) (n c m c' rb ro : Nat) (w : World) (hp : Strs w pp m rb ro g.paths) (s1 : g.org.host.size ≤ 140737488355328) (s2 : g.ask.realm.size ≤ 140737488355328) (s3 : g.ask.nonce.size ≤ 140737488355328) (s4 : g.user.size ≤ 140737488355328) :
    Calls Try.prog 26 #[.agg #[.bool g.org.sec, .string g.org.host, .int .i64 g.org.port, .bool g.proxy, .string g.user, .string g.pass, .int .i64 g.ask.sch, .string g.ask.realm, .string g.ask.nonce, .string g.ask.opq, .bool g.ask.sess, .string g.ask.qop, .bool g.ask.stale, .slice dp n c, .int .i64 g.count, .slice pp m c']] w fun e w' => HeldAns n m w.heap.size w e w' := by
  have hbb : Below w.heap.size w (w.alloc (.cells #[.bool g.org.sec, .string g.org.host, .int .i64 g.org.port, .bool g.proxy, .string g.user, .string g.pass, .int .i64 g.ask.sch, .string g.ask.realm, .string g.ask.nonce, .string g.ask.opq, .bool g.ask.sess, .string g.ask.qop, .bool g.ask.stale, .slice dp n c, .int .i64 g.count, .slice pp m c'] 36)) := (Below.refl _ _).alloc (Nat.le_refl _) _
  have hn := heap_alloc_new w (.cells #[.bool g.org.sec, .string g.org.host, .int .i64 g.org.port, .bool g.proxy, .string g.user, .string g.pass, .int .i64 g.ask.sch, .string g.ask.realm, .string g.ask.nonce, .string g.ask.opq, .bool g.ask.sess, .string g.ask.qop, .bool g.ask.stale, .slice dp n c, .int .i64 g.count, .slice pp m c'] 36)
  have HB : Hid (Below w.heap.size w (w.alloc (.cells #[.bool g.org.sec, .string g.org.host, .int .i64 g.org.port, .bool g.proxy, .string g.user, .string g.pass, .int .i64 g.ask.sch, .string g.ask.realm, .string g.ask.nonce, .string g.ask.opq, .bool g.ask.sess, .string g.ask.qop, .bool g.ask.stale, .slice dp n c, .int .i64 g.count, .slice pp m c'] 36)) ∧ Strs w pp m rb ro g.paths) := ⟨hbb, hp⟩
  have n1 := cell_of (i := 1) hn
  have n4 := cell_of (i := 4) hn
  have n7 := cell_of (i := 7) hn
  have n8 := cell_of (i := 8) hn
  have n13 := cell_of (i := 13) hn
  have n15 := cell_of (i := 15) hn
  simp only [List.getElem?_toArray, List.getElem?_cons_zero, List.getElem?_cons_succ] at n1 n4 n7 n8 n13 n15
  clear hbb hn hp
  go_enter Try.func26, Try.ntmps26
  by_cases h1 : (6 : Int) < (m : Int)
  · go_wp2
    go_ret
    exact ⟨⟨_, rfl, fun h => by cases h⟩, HB.out.1⟩
  · by_cases h2 : (6 : Int) < (n : Int)
    · go_wp2
      go_ret
      exact ⟨⟨_, rfl, fun h => by cases h⟩, HB.out.1⟩
    · have hz1 : (g.org.host.size : Int) ≤ 140737488355328 := by omega
      have hz2 : (g.ask.realm.size : Int) ≤ 140737488355328 := by omega
      have hz3 : (g.ask.nonce.size : Int) ≤ 140737488355328 := by omega
      have hz4 : (g.user.size : Int) ≤ 140737488355328 := by omega
      by_cases h3 : (200 : Int) < (g.org.host.size : Int) + (g.ask.realm.size : Int) + (g.ask.nonce.size : Int) + (g.user.size : Int)
      · go_wp2
        go_ret
        exact ⟨⟨_, rfl, fun h => by cases h⟩, HB.out.1⟩
      · have hc := heldCtn pp m c' rb ro g.paths _ (HB.out.2.below HB.out.1) (by omega)
        go_wp2_with fail
        refine hc.mono ?_
        rintro e w1 ⟨⟨t, rfl⟩, hw⟩
        obtain rfl := hw.symm
        have HE : Hid (n ≤ 6 ∧ m ≤ 6) := ⟨by omega, by omega⟩
        clear hc
        go_wp2
        go_ret
        exact ⟨⟨_, rfl, fun _ => HE.out⟩, HB.out.1⟩
end Go.Proofs.Ytdnnlfklanaliab
