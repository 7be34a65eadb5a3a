/- The program's digits of a sum's words. -/
import Derived.Test.YtooaiamfbmjmnaaFmtFill
namespace Go.Proofs.YtooaiamfbmjmnaaFmt
open Go.RowKit

def byteO (o : Bool) (l : List Nat) (j : Nat) : UInt8 := UInt8.ofNat (l.getD (j / 4) 0 / 2 ^ shiftN o (j % 4) 4)
def bytesO (o : Bool) (l : List Nat) (i : Nat) : List UInt8 := (List.range i).map (byteO o l)
theorem bytesO_length (o : Bool) (l : List Nat) (i : Nat) : (bytesO o l i).length = i := by simp [bytesO]
theorem bytesO_succ (o : Bool) (l : List Nat) (i : Nat) : bytesO o l (i + 1) = bytesO o l i ++ [byteO o l i] := by simp [bytesO, List.range_succ]
theorem bytesO_four (o : Bool) (l : List Nat) : ∀ k, k ≤ l.length → bytesO o l (4 * k) = (l.take k).flatMap (if o then be4 else le4)
  | 0, _ => by simp [bytesO]
  | k + 1, h => by
    have ih := bytesO_four o l k (by omega)
    have e : (4 * (k + 1)) = 4 * k + 1 + 1 + 1 + 1 := by omega
    have ht : l.take (k + 1) = l.take k ++ [l.getD k 0] := by
      rw [List.take_succ_eq_append_getElem (by omega)]
      simp [List.getD_eq_getElem?_getD, show k < l.length by omega]
    rw [e, bytesO_succ, bytesO_succ, bytesO_succ, bytesO_succ, ih, ht, List.flatMap_append]
    have d0 : 4 * k / 4 = k := by omega
    have d1 : (4 * k + 1) / 4 = k := by omega
    have d2 : (4 * k + 1 + 1) / 4 = k := by omega
    have d3 : (4 * k + 1 + 1 + 1) / 4 = k := by omega
    have m0 : 4 * k % 4 = 0 := by omega
    have m1 : (4 * k + 1) % 4 = 1 := by omega
    have m2 : (4 * k + 1 + 1) % 4 = 2 := by omega
    have m3 : (4 * k + 1 + 1 + 1) % 4 = 3 := by omega
    unfold byteO
    rw [d0, d1, d2, d3, m0, m1, m2, m3]
    cases o <;> simp [shiftN, le4, be4]
/-- Append to a row of bytes that the call owns, as a step of a region that draws its order; the cell at (b, q) stays. -/
theorem step_append_M {P : Program} (w : World) {ops : Array Oper} {o : Oper} {a : Act} {K : Act → World → Prop} {Q : Exit → Act → World → Prop} {E : Prop} (hgd : o.guard = none) (s x : Operand) (t : TypeId)
    (ho : o.op = .call { callee := .builtin .append, args := #[s, x], argTypes := #[t, t] }) (B : Nat) (i : TypeInfo) (ht : P.underlying t = some (.slice 5)) (hi : P.info? 5 = some i) (hz : i.zero = some (.int .u8 0)) (hsize : i.size = 1) (hby : i.bytes = 1)
    (g n cap : Nat) (l : List UInt8) (hs : a.eval s = .slice (some ⟨g, 0, none⟩) n cap) (h : OwnM w B g n cap l)
    (ad : Addr) (m c : Nat) (news : List UInt8) (hx : a.eval x = .slice (some ad) m c) (hl : news.length = m) (hnews : ∀ j u, (news.map fun c => Value.int .u8 (c.toNat : Int))[j]? = some u → w.cell? (ad.add j) = some u)
    (h63 : n + m ≤ 140737488355328) (hbase : B ≤ w.heap.size) (b q : Nat) (hbg : b ≠ g) (hbl : b < w.heap.size)
    (k : ∀ g' cap' w', OwnM w' B g' (n + m) cap' (l ++ news) → w.grownBy w' (some g) → (g' = g ∨ g' = w.heap.size) → w'.cell? ⟨b, q, none⟩ = w.cell? ⟨b, q, none⟩ → K (a.put o.dst (.slice (some ⟨g', 0, none⟩) (n + m) cap')) w') :
    if Region.wanted o (yielded ops a.tmps) = true then Oper.wp P o a w K Q else E := by
  have hw : Region.wanted o (yielded ops a.tmps) = true := by simp [Region.wanted, hgd]
  rw [if_pos hw]
  obtain ⟨g', cap', w', hr, h1, h2, h3⟩ := append_M w B t o.type i ht hi hz hsize hby g n cap l h ad m c news hl hnews h63 hbase
  unfold Oper.wp execOp
  simp only [ho, resolve, invoke, builtin, Sem.run_bind, Sem.run_pure, Result.andThen_ok, List.map_toArray, List.map_cons, List.map_nil, hs, hx, hr]
  refine k g' cap' w' h1 h2 h3 ?_
  simp only [World.cell?, h2.block b hbl (by simp [hbg])]
def enc4 (o : Bool) (l : List Nat) : List UInt8 := l.flatMap (if o then be4 else le4)
set_option maxHeartbeats 8000000 in
set_option maxRecDepth 100000 in
theorem hexO_any (o : Bool) (l : List Nat) (b N cap : Nat) (hl : l.length = N) (hN0 : 0 < N) (hN : N ≤ 8) (hlt : ∀ x ∈ l, x < 4294967296) (w : World) (HC : Hid (∀ j, j < N → w.cell? ⟨b, j, none⟩ = some (.int .u32 ((l.getD j 0 : Nat) : Int)))) (hb : b < w.heap.size) :
    Calls Tryf.prog 25 #[.bool o, .slice (some ⟨b, 0, none⟩) N cap] w fun e w' => e = .returned (.string (bs (hexL (enc4 o l)))) ∧ Below w.heap.size w w' := by
  obtain ⟨i0, hi0, hz0, hz1, hz2⟩ := info_parts info5
  go_enter Tryf.func25, Tryf.ntmps25
  go_wp2_with (at_make; refine wpList_make_own _ rfl _ _ 38 rfl w.heap.size 5 i0 (.int .u8 0) 1 Tryf.underlying38 hi0 hz0 hz1 .i64 .i64 _ (4 * N) rfl rfl (by omega) (by rw [hz2]; omega) (by unfold maxLen; omega) (Nat.le_refl _) ?_; intro w1 hown1 hgrow1)
  have hb1 : Below w.heap.size w w1 := (Below.refl _ _).grown hgrow1 (Nat.le_refl _) (by simp)
  obtain ⟨g0, cap0, hv0, hM0⟩ := own_M (l := []) hown1 rfl (by simp)
  simp only [Value.slice.injEq, Option.some.injEq, Addr.mk.injEq, and_true, true_and] at hv0
  obtain ⟨rfl, rfl⟩ := hv0
  have HM0 : Hid (OwnM w1 w.heap.size w.heap.size 0 (4 * N) []) := hM0
  clear hM0 hown1 hgrow1
  have HB1 : Hid (Below w.heap.size w w1) := hb1
  clear hb1
  go_loopw [5, 14] (fun v i wx => ∃ j g cap : Nat, j ≤ 4 * N ∧ i = .int .i64 j ∧ v = .slice (some ⟨g, 0, none⟩) j cap ∧ Hid (OwnM wx w.heap.size g j cap (bytesO o l j)) ∧ Hid (Below w.heap.size w wx)) (fun _ i _ => 4 * N - (intOf i).toNat)
  case atStart => exact ⟨0, _, _, by omega, rfl, rfl, HM0, HB1⟩
  case round =>
    obtain ⟨i, g, cap1, hi, rfl, rfl, HO, HB⟩ := hrel
    clear HM0 HB1
    have hwr : w.heap.size ≤ wr.heap.size := HB.out.size
    by_cases hlt2 : i < 4 * N
    · obtain ⟨q, hq⟩ : ∃ q : Nat, (i : Int) / 4 = (q : Int) := ⟨i / 4, by omega⟩
      obtain ⟨r, hr⟩ : ∃ q : Nat, (i : Int) % 4 = (q : Int) := ⟨i % 4, by omega⟩
      have hqN : q < N := by omega
      have hr4 : r < 4 := by omega
      have HQ : Hid (q = i / 4 ∧ r = i % 4) := ⟨by omega, by omega⟩
      obtain ⟨x, hx⟩ : ∃ x : Nat, l.getD q 0 = x := ⟨_, rfl⟩
      have hx1 : x < 4294967296 := by
        rw [← hx, List.getD_eq_getElem?_getD, List.getElem?_eq_getElem (by omega)]
        exact hlt _ (List.getElem_mem _)
      have hcell : wr.cell? ⟨b, q, none⟩ = some (.int .u32 (x : Int)) := by
        rw [← hx, ← HC.out q hqN]
        simp only [World.cell?, HB.out.block b hb]
      obtain ⟨sh, hsh⟩ : ∃ sh : Nat, shiftN o r 4 = sh := ⟨_, rfl⟩
      have hsh2 : sh ≤ 24 := by rw [← hsh, shiftN]; split <;> omega
      have HX : Hid ((x : Int) / 2 ^ sh % 256 = ((byteO o l i).toNat : Int)) := by
        show _ = _
        rw [byteO, UInt8.toNat_ofNat', ← HQ.out.1, ← HQ.out.2, hx, hsh]
        push_cast
        rfl
      have hi2 : i ≤ 32 := by omega
      have hqt : (i : Int).tdiv 4 = q := by rw [Int.tdiv_eq_ediv_of_nonneg (by omega)]; exact hq
      have hrt : (i : Int).tmod 4 = r := by rw [Int.tmod_eq_emod_of_nonneg (by omega)]; exact hr
      have hqw : IntKind.i64.wrap (q : Int) = q := wrap64 q (by omega)
      have hrw : IntKind.i64.wrap (r : Int) = r := wrap64 r (by omega)
      have hqb : (q : Int) < N := by omega
      have HX2 : Hid (IntKind.u8.wrap ((x : Int) / 2 ^ sh) = ((byteO o l i).toNat : Int)) := by
        show _ = _
        rw [← HX.out]
        simp [IntKind.wrap, IntKind.bits, IntKind.signed]
      have hbg : b ≠ g := by have := HO.out.1; omega
      have hbw : b < wr.heap.size := by omega
      clear hq hr HX HC
      go_wp2
      go_region_held3 (fun w' => w'.cell? ⟨b, q, none⟩ = some (.int .u32 (x : Int))) (go_keep)
        ((first
          | (go_at_call 39; refine (shift_any o r 4 hr4 (by omega) _).mono ?_; rintro e w2 ⟨rfl, hw2⟩; rw [hw2, hsh]; clear hw2 w2)
          | (refine step_append_M _ (by rfl) _ _ 38 (by rfl) w.heap.size i0 Tryf.underlying38 hi0 hz0 hz1 hz2 g i cap1 _ (by rfl) ((HO.out.alloc _).kept (by rfl)) ⟨_, 0, none⟩ 1 1 [byteO o l i] (by rfl) (by rfl) (fun j u hj => cell_oneB wr _ _ HX2.out j u hj) (by omega) (by simp; omega) b q hbg (by simp; omega) ?_; intro g5 cap5 w5 hM5 hg5 hat5 hsame5)))
      go_wp2
      go_roundw
      case rel =>
        refine ⟨i + 1, g5, cap5, by omega, by go_num, rfl, ?_, ((HB.out.alloc hwr _).drew).grown hg5 (by simp; omega) ?_⟩
        · show OwnM _ _ _ _ _ _
          rw [bytesO_succ]
          exact hM5
        · intro x hx
          have := HO.out.1
          simp only [Option.some.injEq] at hx
          omega
      case measure => simp [intOf]; omega
    · obtain rfl : i = 4 * N := by omega
      have hL : bytesO o l (4 * N) = enc4 o l := by
        rw [bytesO_four o l N (by omega), List.take_of_length_le (by omega)]; rfl
      have hback : (convert 38 9 (.slice (some ⟨g, 0, none⟩) (4 * N) cap1)).run Tryf.prog wr = .ok (.string (bs (enc4 o l))) wr := by
        have := run_convert_bytes_back (P := Tryf.prog) wr 38 9 5 ⟨g, 0, none⟩ cap1 (bytesO o l (4 * N)) Tryf.underlying38 Tryf.underlying5 Tryf.underlying9 (fun j hj => by
          rw [WideShapes.add_plain, Nat.zero_add]
          exact HO.out.cells j hj)
        rw [bytesO_length, hL] at this
        exact this
      obtain ⟨S, hS⟩ : ∃ S, bs (enc4 o l) = S := ⟨_, rfl⟩
      have hSz : S.size = 4 * N := by rw [← hS, bs_size, ← hL, bytesO_length]
      rw [hS] at hback
      go_wp2_with (go_at_call 41; refine (hex_any S _ (by omega)).mono ?_; rintro e w2 ⟨rfl, hb2⟩)
      go_ret
      refine ⟨ret_str ?_, HB.out.trans (hb2.mono hwr)⟩
      rw [← hS, bs_data]
end Go.Proofs.YtooaiamfbmjmnaaFmt
