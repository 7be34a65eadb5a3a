/- Challenges as a header, by the program. -/
import Derived.Test.YteldgpkkgnfiaaaGreatDoorWrt
namespace Go.Proofs.YteldgpkkgnfiaaaGreatDoor
open Go.RowKit

/-- A bound on how much is written. -/
def prtW : List Chal → Nat
  | [] => 0
  | x :: r => 2 * chW x + 5 * x.params.length + 3 + prtW r
theorem prtW_app (a b : List Chal) : prtW (a ++ b) = prtW a + prtW b := by
  induction a with
  | nil => simp [prtW]
  | cons p r ih => rw [List.cons_append, prtW, prtW, ih]; omega
theorem prtW_snoc (xs : List Chal) (k : Nat) (x : Chal) (h : xs[k]? = some x) : prtW (xs.take (k + 1)) = prtW (xs.take k) + (2 * chW x + 5 * x.params.length + 3) := by
  obtain ⟨hk, e⟩ := List.getElem?_eq_some_iff.1 h
  rw [List.take_succ_eq_append_getElem hk, prtW_app, e]
  simp [prtW]
theorem prtW_take (xs : List Chal) (k : Nat) : prtW (xs.take k) ≤ prtW xs := by
  conv => rhs; rw [← List.take_append_drop k xs, prtW_app]
  omega
/-- Challenges that are not too long. -/
def Slim (cs : List ChV) : Prop := cs.length ≤ 1000 ∧ (∀ c ∈ cs, (c.x.params.length ≤ 1000 ∧ ∀ p ∈ c.x.params, p.1.size ≤ 3000 ∧ p.2.size ≤ 3000) ∧ c.x.scheme.size ≤ 3000 ∧ c.x.token.size ≤ 3000) ∧ prtW (xsOf cs) ≤ 8000000
/-- What Print answers. -/
def PrtAns (xs : List Chal) (B : Nat) (e : Ending) (w' : World) : Prop :=
  (∃ t, printL 0 xs = .ok t ∧ t.length ≤ prtW xs ∧ e = .returned (.tuple #[.string (bs t), .nilIface])) ∨
  (∃ k g : Nat, printL 0 xs = .error k ∧ e = .returned (.tuple #[.string ⟨#[]⟩, .iface 96 (.pointer (some ⟨g, 0, none⟩))]) ∧ w'.cell? ⟨g, 0, none⟩ = some (.int .i64 3) ∧ w'.cell? ⟨g, 1, none⟩ = some (.int .i64 (k : Int)) ∧ B ≤ g ∧ g < w'.heap.size)
theorem cells_new (W : World) (cs : Array Value) (t : TypeId) (j : Nat) : (W.alloc (.cells cs t)).cell? ⟨W.heap.size, j, none⟩ = cs[j]? := World.cell?_alloc_mark _ _ _ _ _
theorem Chals.belowB {w w' : World} {a0 : Option Addr} {len b off B : Nat} {cs : List ChV} (h : Chals w a0 len b off cs) (hB : w.heap.size ≤ B) {w1 : World} (h1 : Below w.heap.size w w1) (hb : Below B w1 w') : Chals w' a0 len b off cs :=
  h.below (h1.trans (hb.mono hB))
set_option maxRecDepth 100000 in
set_option maxHeartbeats 4000000 in
theorem print_any (cs : List ChV) (hs : Slim cs) (a0 : Option Addr) (len cap b off : Nat) (w : World) (hx : Chals w a0 len b off cs) :
    Calls Tryz.prog 20 #[.slice a0 len cap] w fun e w' => PrtAns (xsOf cs) w.heap.size e w' ∧ Below w.heap.size w w' := by
  have HX : Hid (Chals w a0 len b off cs) := hx
  have HS : Hid (Slim cs) := hs
  have hl := hx.len_eq
  have hlen : len ≤ 1000 := by have := hs.1; omega
  have hB0 : Below w.heap.size w (w.alloc (.cells #[.pointer none, .slice none 0 0] 92)) := (Below.refl _ _).alloc (Nat.le_refl _) _
  have HB0 : Hid (Built (w.alloc (.cells #[.pointer none, .slice none 0 0] 92)) w.heap.size w.heap.size [] ∧ Below w.heap.size w (w.alloc (.cells #[.pointer none, .slice none 0 0] 92))) := ⟨Lib.IsBuilderF.of (Lib.fresh_isBuilder _ _ _), hB0⟩
  clear hx hs hB0
  go_enter Tryz.func20, Tryz.ntmps20
  go_wp2
  go_loopw [9] (fun i wr => ∃ (k : Nat) (o : List UInt8), k ≤ len ∧ i = .int .i64 k ∧ Hid (PrintAt (xsOf cs) o k ∧ o.length ≤ prtW ((xsOf cs).take k) ∧ Built wr w.heap.size w.heap.size o ∧ Below w.heap.size w wr)) (fun i _ => len - (intOf i).toNat)
  case atStart => exact ⟨0, [], Nat.zero_le _, rfl, ⟨printAt_start _, by simp, HB0.out.1, HB0.out.2⟩⟩
  case round =>
    obtain ⟨k, o, hk, rfl, HI⟩ := hrel
    have hwz : w.heap.size < wr.heap.size := HI.out.2.2.1.lt.2
    by_cases hlt : k < len
    · obtain ⟨c, hck⟩ : ∃ c, cs[k]? = some c := ⟨cs[k]'(by omega), List.getElem?_eq_getElem (by omega)⟩
      have HC : Hid (cs[k]? = some c) := hck
      have hX := HX.out.below HI.out.2.2.2
      obtain ⟨ha0, hbl⟩ := hX.lies (by omega)
      have hc1 := hX.one k c hck
      have hc2 := hX.two k c hck
      have hc3 := hX.three k c hck
      obtain ⟨hcs1, hcs2⟩ := HS.out.2.1 c (List.mem_of_getElem? hck)
      have HSC : Hid ((c.x.params.length ≤ 1000 ∧ ∀ p ∈ c.x.params, p.1.size ≤ 3000 ∧ p.2.size ≤ 3000) ∧ c.x.scheme.size ≤ 3000 ∧ c.x.token.size ≤ 3000) := ⟨hcs1, hcs2⟩
      have HXC : Hid (ChOk w c ∧ (0 < c.len → c.b < w.heap.size)) := ⟨HX.out.pars c (List.mem_of_getElem? hck), fun h => ((HX.out.pars c (List.mem_of_getElem? hck)).lies h).2⟩
      have HW : Hid (o.length + (2 * chW c.x + 5 * c.x.params.length + 3) ≤ 8000000) := by
        have h1 := HI.out.2.1
        have h2 := prtW_snoc _ _ _ (xsOf_at hck)
        have h3 := prtW_take (xsOf cs) (k + 1)
        have h4 := HS.out.2.2
        show _ ≤ _
        omega
      subst ha0
      clear hck hX hcs1 hcs2
      have hb1 : Below wr.heap.size wr (wr.alloc (.cells #[.string c.x.scheme, .string c.x.token, .slice c.a c.len c.cap] 35)) := (Below.refl _ _).alloc (Nat.le_refl _) _
      have HBOX1 : Hid ((wr.alloc (.cells #[.string c.x.scheme, .string c.x.token, .slice c.a c.len c.cap] 35)).heap[wr.heap.size]? = some (.cells #[.string c.x.scheme, .string c.x.token, .slice c.a c.len c.cap] 35 (0, 0))) := heap_alloc_new wr _
      have HI1 : Hid (Built (wr.alloc (.cells #[.string c.x.scheme, .string c.x.token, .slice c.a c.len c.cap] 35)) w.heap.size w.heap.size o ∧ Below w.heap.size w (wr.alloc (.cells #[.string c.x.scheme, .string c.x.token, .slice c.a c.len c.cap] 35))) := ⟨HI.out.2.2.1.below hb1, HI.out.2.2.2.trans (hb1.mono (Nat.le_of_lt hwz))⟩
      have HZ1 : Hid (w.heap.size ≤ (wr.alloc (.cells #[.string c.x.scheme, .string c.x.token, .slice c.a c.len c.cap] 35)).heap.size) := by show _ ≤ _; simp; omega
      clear hb1
      go_upto_if 15 with fail
      go_cut [] (fun wc => Hid (Built wc w.heap.size w.heap.size (o ++ sepC k) ∧ Below w.heap.size w wc) ∧ wc.heap[wr.heap.size]? = some (.cells #[.string c.x.scheme, .string c.x.token, .slice c.a c.len c.cap] 35 (0, 0)) ∧ w.heap.size ≤ wc.heap.size)
      case first =>
        by_cases h0 : k = 0
        · have HSP : Hid (sepC k = []) := by show _ = _; rw [h0]; rfl
          have hk0 : decide (0 < k) = false := by simp; omega
          rw [hk0]
          go_wp2
          go_meet
          exact ⟨⟨by rw [HSP.out, List.append_nil]; exact HI1.out.1, HI1.out.2⟩, HBOX1.out, HZ1.out⟩
        · have HSP : Hid (sepC k = [44, 32]) := by show _ = _; unfold sepC; rw [if_neg h0]
          have hk0 : decide (0 < k) = true := by simp; omega
          rw [hk0]
          go_wp2_with fail
          refine (bdk_write _ _ _ ⟨#[44, 32]⟩ _ HI1.out.1 (by have := HW.out; have : (⟨#[44, 32]⟩ : ByteArray).size = 2 := rfl; omega) HZ1.out).mono ?_
          rintro e w2 ⟨rfl, hw2, hb2, ho2⟩
          have HI2 : Hid (Built w2 w.heap.size w.heap.size (o ++ sepC k) ∧ Below w.heap.size w w2) := ⟨by rw [HSP.out]; exact hw2, HI1.out.2.trans hb2⟩
          have HBX2 : Hid (w2.heap[wr.heap.size]? = some (.cells #[.string c.x.scheme, .string c.x.token, .slice c.a c.len c.cap] 35 (0, 0))) := kept_cells ho2 HBOX1.out (by decide) (by omega)
          have HZ2 : Hid (w.heap.size ≤ w2.heap.size) := Nat.le_trans HZ1.out hb2.size
          clear hw2 hb2 ho2
          go_wp2
          go_meet
          exact ⟨HI2, HBX2.out, HZ2.out⟩
      case rest =>
        obtain ⟨HI3, hbox3, hz3⟩ := hcut
        have hd0 := cells_of hbox3 0 _ rfl
        have hd1 := cells_of hbox3 1 _ rfl
        have hd2 := cells_of hbox3 2 _ rfl
        clear hbox3
        have hwr : Calls Tryz.prog 57 #[.pointer (some ⟨w.heap.size, 0, none⟩), .agg #[.string c.x.scheme, .string c.x.token, .slice c.a c.len c.cap]] wc fun e w' => WrtAns c w.heap.size w.heap.size (o ++ sepC k) e w' ∧ Below w.heap.size wc w' :=
          write_any c HSC.out.1 HSC.out.2 _ _ _ (by
            have h1 := HW.out
            have h2 : (sepC k).length ≤ 2 := by unfold sepC; split <;> simp
            rw [List.length_append]
            omega) _ HI3.out.1 hz3 (HXC.out.1.below HI3.out.2) HXC.out.2
        go_wp2_with fail
        refine hwr.mono ?_
        rintro e w4 ⟨⟨t, ht, rfl, hw4⟩ | ⟨ht, rfl⟩, hb4⟩
        · have HN : Hid (PrintAt (xsOf cs) (o ++ (sepC k ++ t)) (k + 1)) := printAt_next HI.out.1 (xsOf_at HC.out) ht
          have HNL : Hid ((o ++ (sepC k ++ t)).length ≤ prtW ((xsOf cs).take (k + 1))) := by
            show _ ≤ _
            have h1 := HI.out.2.1
            have h2 := prtW_snoc _ _ _ (xsOf_at HC.out)
            have h3 := chalT_len _ _ ht
            have h4 : (sepC k).length ≤ 2 := by unfold sepC; split <;> simp
            rw [List.length_append, List.length_append]
            omega
          have HI4 : Hid (Built w4 w.heap.size w.heap.size (o ++ (sepC k ++ t)) ∧ Below w.heap.size w w4) := ⟨by rw [← List.append_assoc]; exact hw4, HI3.out.2.trans hb4⟩
          clear ht hw4 hb4 hwr
          go_wp2
          go_roundw
          case rel => exact ⟨k + 1, _, by omega, by go_num, ⟨HN.out, HNL.out, HI4.out.1, HI4.out.2⟩⟩
          case measure => simp [intOf]; omega
        · have HA : Hid (printL 0 (xsOf cs) = .error k) := printAt_bad HI.out.1 (xsOf_at HC.out) ht
          have HB4 : Hid (Below w.heap.size w w4) := HI3.out.2.trans hb4
          clear ht hb4 hwr
          go_wp2
          go_ret2
          exact ⟨.inr ⟨k, _, HA, rfl, cells_new _ _ _ 0, cells_new _ _ _ 1, HB4.out.size, by simp⟩, HB4.out.alloc HB4.out.size _⟩
    · have HA : Hid (printL 0 (xsOf cs) = .ok o) := printAt_end HI.out.1 (by unfold xsOf; simp; omega)
      have HAL : Hid (o.length ≤ prtW (xsOf cs)) := Nat.le_trans HI.out.2.1 (prtW_take _ _)
      go_wp2_with fail
      refine (bdk_string _ _ _ _ HI.out.2.2.1 (Nat.le_of_lt hwz)).mono ?_
      rintro e w2 ⟨rfl, hb2⟩
      have HB2 : Hid (Below w.heap.size w w2) := HI.out.2.2.2.trans hb2
      obtain ⟨so, HSO⟩ : ∃ so, Hid (bs o = so) := ⟨_, rfl⟩
      rw [HSO.out]
      go_wp2
      go_ret2
      exact ⟨.inl ⟨o, HA, HAL, by rw [HSO.out]; rfl⟩, HB2⟩
end Go.Proofs.YteldgpkkgnfiaaaGreatDoor
