/- The law FetchRights, walked. -/
import Derived.Test.YtbhnaekkjpcafaaRgt8
import Derived.Deep.RegionHeld3
import Derived.RegionTactic
namespace Go.Proofs.Ytbhnaekkjpcafaa
open Go.RowKit

structure BoxR (w : World) (cs : Array Value) (a0 : Option Addr) (len b off : Nat) (ps : List Par) (W : World) : Prop where
  bel : Below w.heap.size w W
  row : W.heap[w.heap.size]? = some (.cells cs 28 (0, 0))
  par : Pars W a0 len b off ps
theorem BoxR.step {w W W' : World} {cs : Array Value} {a0 : Option Addr} {len b off : Nat} {ps : List Par} (h : BoxR w cs a0 len b off ps W) (hb : Below W.heap.size W W') : BoxR w cs a0 len b off ps W' :=
  ⟨h.bel.trans (hb.mono h.bel.size), (hb.block _ (Array.getElem?_eq_some_iff.1 h.row).1).trans h.row, h.par.below hb⟩
theorem all13 {w : World} {g : Nat} {v0 v1 v2 v3 v4 v5 v6 v7 v8 v9 v10 v11 v12 : Value} {T : TypeId} (h : w.heap[g]? = some (.cells #[v0, v1, v2, v3, v4, v5, v6, v7, v8, v9, v10, v11, v12] T (0, 0))) :
    w.cell? ⟨g, 0, none⟩ = some v0 ∧ w.cell? ⟨g, 1, none⟩ = some v1 ∧ w.cell? ⟨g, 2, none⟩ = some v2 ∧ w.cell? ⟨g, 3, none⟩ = some v3 ∧ w.cell? ⟨g, 4, none⟩ = some v4 ∧ w.cell? ⟨g, 5, none⟩ = some v5 ∧ w.cell? ⟨g, 6, none⟩ = some v6 ∧ w.cell? ⟨g, 7, none⟩ = some v7 ∧ w.cell? ⟨g, 8, none⟩ = some v8 ∧ w.cell? ⟨g, 9, none⟩ = some v9 ∧ w.cell? ⟨g, 10, none⟩ = some v10 ∧ w.cell? ⟨g, 11, none⟩ = some v11 ∧ w.cell? ⟨g, 12, none⟩ = some v12 :=
  ⟨by simp [World.cell?, h], by simp [World.cell?, h], by simp [World.cell?, h], by simp [World.cell?, h], by simp [World.cell?, h], by simp [World.cell?, h], by simp [World.cell?, h], by simp [World.cell?, h], by simp [World.cell?, h], by simp [World.cell?, h], by simp [World.cell?, h], by simp [World.cell?, h], by simp [World.cell?, h]⟩
abbrev RS13 (w : World) (v0 v1 v2 v3 v4 v5 v6 v7 v8 v9 v10 v11 v12 : Value) (a0 : Option Addr) (len b off : Nat) (ps : List Par) (W : World) : Prop :=
  W.cell? ⟨w.heap.size, 0, none⟩ = some v0 ∧ W.cell? ⟨w.heap.size, 1, none⟩ = some v1 ∧ W.cell? ⟨w.heap.size, 2, none⟩ = some v2 ∧ W.cell? ⟨w.heap.size, 3, none⟩ = some v3 ∧ W.cell? ⟨w.heap.size, 4, none⟩ = some v4 ∧ W.cell? ⟨w.heap.size, 5, none⟩ = some v5 ∧ W.cell? ⟨w.heap.size, 6, none⟩ = some v6 ∧ W.cell? ⟨w.heap.size, 7, none⟩ = some v7 ∧ W.cell? ⟨w.heap.size, 8, none⟩ = some v8 ∧ W.cell? ⟨w.heap.size, 9, none⟩ = some v9 ∧ W.cell? ⟨w.heap.size, 10, none⟩ = some v10 ∧ W.cell? ⟨w.heap.size, 11, none⟩ = some v11 ∧ W.cell? ⟨w.heap.size, 12, none⟩ = some v12 ∧ Hid (BoxR w #[v0, v1, v2, v3, v4, v5, v6, v7, v8, v9, v10, v11, v12] a0 len b off ps W)
theorem RS13.of {w W : World} {v0 v1 v2 v3 v4 v5 v6 v7 v8 v9 v10 v11 v12 : Value} {a0 : Option Addr} {len b off : Nat} {ps : List Par} (h : BoxR w #[v0, v1, v2, v3, v4, v5, v6, v7, v8, v9, v10, v11, v12] a0 len b off ps W) : RS13 w v0 v1 v2 v3 v4 v5 v6 v7 v8 v9 v10 v11 v12 a0 len b off ps W := by
  obtain ⟨e0, e1, e2, e3, e4, e5, e6, e7, e8, e9, e10, e11, e12⟩ := all13 h.row
  exact ⟨e0, e1, e2, e3, e4, e5, e6, e7, e8, e9, e10, e11, e12, h⟩
theorem RS13.box {w W : World} {v0 v1 v2 v3 v4 v5 v6 v7 v8 v9 v10 v11 v12 : Value} {a0 : Option Addr} {len b off : Nat} {ps : List Par} (h : RS13 w v0 v1 v2 v3 v4 v5 v6 v7 v8 v9 v10 v11 v12 a0 len b off ps W) : BoxR w #[v0, v1, v2, v3, v4, v5, v6, v7, v8, v9, v10, v11, v12] a0 len b off ps W := h.2.2.2.2.2.2.2.2.2.2.2.2.2.out
theorem RS13.step {w W W' : World} {v0 v1 v2 v3 v4 v5 v6 v7 v8 v9 v10 v11 v12 : Value} {a0 : Option Addr} {len b off : Nat} {ps : List Par} (h : RS13 w v0 v1 v2 v3 v4 v5 v6 v7 v8 v9 v10 v11 v12 a0 len b off ps W) (hb : Below W.heap.size W W') : RS13 w v0 v1 v2 v3 v4 v5 v6 v7 v8 v9 v10 v11 v12 a0 len b off ps W' := RS13.of (h.box.step hb)
set_option maxRecDepth 100000 in
set_option maxHeartbeats 8000000 in
theorem fetchRights_walk (pt : Int) (hpt : -9223372036854775808 ≤ pt ∧ pt ≤ 9223372036854775807) (fp up : Int) (fs us wi : Bool) (fh uh pa qu me bo : ByteArray) (h1 : fh.size ≤ 140737488355328) (h2 : uh.size ≤ 140737488355328) (h3 : pa.size ≤ 140737488355328) (h4 : qu.size ≤ 140737488355328) (h5 : me.size ≤ 140737488355328) (h6 : bo.size ≤ 140737488355328)
    (ps : List Par) (hz : ∀ p ∈ ps, p.1.size ≤ 140737488355328 ∧ p.2.size ≤ 140737488355328) (a0 : Option Addr) (len cap b off : Nat) (hlb : len ≤ 9223372036854775807) (w : World) (hx : Pars w a0 len b off ps) :
    Calls Try.prog 3 #[.agg #[.int .i64 pt, .bool fs, .string fh, .int .i64 fp, .bool us, .string uh, .int .i64 up, .string pa, .string qu, .string me, .slice a0 len cap, .bool wi, .string bo]] w fun e w' => e = .returned (.bool true) ∧ Below w.heap.size w w' := by
  have hb0 : Below w.heap.size w (w.alloc (.cells #[.int .i64 pt, .bool fs, .string fh, .int .i64 fp, .bool us, .string uh, .int .i64 up, .string pa, .string qu, .string me, .slice a0 len cap, .bool wi, .string bo] 28)) := (Below.refl _ _).alloc (Nat.le_refl _) _
  have HS : Hid (BoxR w #[.int .i64 pt, .bool fs, .string fh, .int .i64 fp, .bool us, .string uh, .int .i64 up, .string pa, .string qu, .string me, .slice a0 len cap, .bool wi, .string bo] a0 len b off ps (w.alloc (.cells #[.int .i64 pt, .bool fs, .string fh, .int .i64 fp, .bool us, .string uh, .int .i64 up, .string pa, .string qu, .string me, .slice a0 len cap, .bool wi, .string bo] 28))) := ⟨hb0, heap_alloc_new w _, hx.below hb0⟩
  have hlg : ∀ W, Pars W a0 len b off ps → Calls Try.prog 4 #[.agg #[.int .i64 pt, .bool fs, .string fh, .int .i64 fp, .bool us, .string uh, .int .i64 up, .string pa, .string qu, .string me, .slice a0 len cap, .bool wi, .string bo]] W fun e w' => e = .returned (.bool (largeL ps (me.size + pa.size + qu.size + uh.size + fh.size + bo.size))) ∧ Below W.heap.size W w' := fun W hW => large_any ps hz a0 len cap b off hlb pt fp up fs us wi fh uh pa qu me bo h1 h2 h3 h4 h5 h6 W hW
  obtain ⟨z, HZ⟩ : ∃ z, Hid (largeL ps (me.size + pa.size + qu.size + uh.size + fh.size + bo.size) = z) := ⟨_, rfl⟩
  rw [HZ.out] at hlg
  have HLEN : Hid (ps.length = len) := hx.len_eq
  clear hb0 hx
  go_enter Try.func3, Try.ntmps3
  go_upto_region 1 with fail
  generalize hW0 : w.alloc (.cells #[.int .i64 pt, .bool fs, .string fh, .int .i64 fp, .bool us, .string uh, .int .i64 up, .string pa, .string qu, .string me, .slice a0 len cap, .bool wi, .string bo] 28) = W0 at HS ⊢
  clear hW0
  have hS := RS13.of HS.out
  cases z
  · obtain ⟨hl45, hn, hsm⟩ := large_small HZ.out
    have hps : ∀ p ∈ ps, p.1.size ≤ 3000 := fun p hp => by have := hsm p hp; omega
    have hme : me.size ≤ 3000 := by omega
    have hlen : len ≤ 60 := by have := HLEN.out; omega
    obtain ⟨r, HR⟩ : ∃ r, Hid (rightL pt me.data.toList ps = r) := ⟨_, rfl⟩
    have hrg : ∀ W, Pars W a0 len b off ps → Calls Try.prog 5 #[.agg #[.int .i64 pt, .bool fs, .string fh, .int .i64 fp, .bool us, .string uh, .int .i64 up, .string pa, .string qu, .string me, .slice a0 len cap, .bool wi, .string bo]] W fun e w' => e = .returned (.bool r) ∧ Below W.heap.size W w' := fun W hW => by
      have := right8_any ps hps a0 len cap b off hlen pt fp up fs us wi fh uh pa qu me bo hme hpt W hW
      rw [HR.out] at this
      exact this
    have hrr : ∀ W, Pars W a0 len b off ps → Calls Try.prog 6 #[.agg #[.int .i64 pt, .bool fs, .string fh, .int .i64 fp, .bool us, .string uh, .int .i64 up, .string pa, .string qu, .string me, .slice a0 len cap, .bool wi, .string bo]] W fun e w' => e = .returned (.bool r) ∧ Below W.heap.size W w' := fun W hW => by
      have := refRight8_any ps hps a0 len cap b off hlen pt fp up fs us wi fh uh pa qu me bo hme hpt W hW
      rw [HR.out] at this
      exact this
    clear hl45 hn hsm hz
    go_region_held3 (fun W => W.cell? ⟨w.heap.size, 0, none⟩ = some (.int .i64 pt) ∧ W.cell? ⟨w.heap.size, 1, none⟩ = some (.bool fs) ∧ W.cell? ⟨w.heap.size, 2, none⟩ = some (.string fh) ∧ W.cell? ⟨w.heap.size, 3, none⟩ = some (.int .i64 fp) ∧ W.cell? ⟨w.heap.size, 4, none⟩ = some (.bool us) ∧ W.cell? ⟨w.heap.size, 5, none⟩ = some (.string uh) ∧ W.cell? ⟨w.heap.size, 6, none⟩ = some (.int .i64 up) ∧ W.cell? ⟨w.heap.size, 7, none⟩ = some (.string pa) ∧ W.cell? ⟨w.heap.size, 8, none⟩ = some (.string qu) ∧ W.cell? ⟨w.heap.size, 9, none⟩ = some (.string me) ∧ W.cell? ⟨w.heap.size, 10, none⟩ = some (.slice a0 len cap) ∧ W.cell? ⟨w.heap.size, 11, none⟩ = some (.bool wi) ∧ W.cell? ⟨w.heap.size, 12, none⟩ = some (.string bo) ∧ Hid (BoxR w #[.int .i64 pt, .bool fs, .string fh, .int .i64 fp, .bool us, .string uh, .int .i64 up, .string pa, .string qu, .string me, .slice a0 len cap, .bool wi, .string bo] a0 len b off ps W)) (first | assumption | exact hS.step (Below.refl _ _).drew) (first
      | (go_at_call 4; refine (hlg _ (BoxR.par (RS13.box (by assumption)))).mono ?_; rintro e w1 ⟨rfl, hb1⟩; have hS1 := RS13.step (by assumption) hb1)
      | (go_at_call 5; refine (hrg _ (BoxR.par (RS13.box (by assumption)))).mono ?_; rintro e w2 ⟨rfl, hb2⟩; have hS2 := RS13.step (by assumption) hb2)
      | (go_at_call 6; refine (hrr _ (BoxR.par (RS13.box (by assumption)))).mono ?_; rintro e w3 ⟨rfl, hb3⟩; have hS3 := RS13.step (by assumption) hb3))
    go_wp2
    go_ret
    exact ⟨ret_bool (by simp), hS3.box.bel⟩
  · obtain ⟨d0, d1, d2, d3, d4, d5, d6, d7, d8, d9, d10, d11, d12, _⟩ := hS
    go_region_with (go_at_call 4; refine (hlg _ (HS.out.step (Below.refl _ _).drew).par).mono ?_; rintro e w1 ⟨rfl, hb1⟩)
    all_goals
      go_wp2
      go_ret
      exact ⟨rfl, ((HS.out.step (Below.refl _ _).drew).step hb1).bel⟩
end Go.Proofs.Ytbhnaekkjpcafaa
