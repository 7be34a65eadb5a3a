/- What a challenge asks for, by the program. -/
import Derived.Test.YtooaiamfbmjmnaaGreatDoorKdig
namespace Go.Proofs.YtooaiamfbmjmnaaGreatDoor
open Go.RowKit

/-- Challenges whose texts are not too long. -/
def Mild (c : Chal) : Prop := Few c.params ∧ c.scheme.size ≤ 3000
set_option maxRecDepth 100000 in
set_option maxHeartbeats 4000000 in
theorem known_any (c : ChV) (hm : Mild c.x) (w : World) (hx : ChOk w c) :
    Calls Tryz.prog 12 #[.agg #[.string c.x.scheme, .string c.x.token, .slice c.a c.len c.cap]] w fun e w' => KnAns (knownL c.x) w.heap.size e w' ∧ Below w.heap.size w w' := by
  have HF : Hid (Few c.x.params) := hm.1
  have hz3 : c.x.scheme.size ≤ 3000 := hm.2
  have HK0 := knF_start hx
  generalize hW0 : ((w.alloc (.cells #[.string c.x.scheme, .string c.x.token, .slice c.a c.len c.cap] 24)).alloc (.cells zeroCells 34)) = W0 at HK0
  have HK : Hid (KnF w W0 c) := HK0
  obtain ⟨x0, x1, x2, _, _, _⟩ := HK0
  unfold zeroCells at hW0
  clear hx hm
  obtain ⟨r, HR⟩ : ∃ n, Hid ((getL c.x.params kRealm).getD ⟨#[]⟩ = n) := ⟨_, rfl⟩
  obtain ⟨ri, HRI⟩ : ∃ n, Hid ((getL c.x.params kRealm).isSome = n) := ⟨_, rfl⟩
  go_enter Tryz.func12, Tryz.ntmps12
  go_upto_region 1 with fail
  clear hW0
  go_wp2_with fail
  refine (getC c ⟨#[114, 101, 97, 108, 109]⟩ kRealm rfl HF.out (by decide) r ri HR.out HRI.out _ HK.out.ok).mono ?_
  rintro e w1 ⟨rfl, hb1⟩
  have HK1 : Hid (KnF w w1 c) := HK.out.below hb1
  clear hb1 x0 x1 x2
  cases ri
  · have HO : Hid (knownL c.x = none) := by show _ = _; unfold knownL; rw [none_of HRI.out]
    have hres := HK1.out.res
    unfold zeroCells at hres
    obtain ⟨⟨r0, r1, r2, r3, r4, r5, r6, r7⟩, fr⟩ := eight hres
    have HRES : Hid (w1.heap[w.heap.size + 1]? = some (.cells #[.int .i64 0, .string ⟨#[]⟩, .string ⟨#[]⟩, .string ⟨#[]⟩, .bool false, .string ⟨#[]⟩, .bool false, .slice none 0 0] 34 (0, 0))) := hres
    clear hres
    go_wp2
    have z1 := setEight_at HRES.out (.int .i64 0) (.string ⟨#[]⟩) (.string ⟨#[]⟩) (.string ⟨#[]⟩) (.bool false) (.string ⟨#[]⟩) (.bool false) (.slice none 0 0)
    have z2 := setEight_grown w1 (w.heap.size + 1) (.int .i64 0) (.string ⟨#[]⟩) (.string ⟨#[]⟩) (.string ⟨#[]⟩) (.bool false) (.string ⟨#[]⟩) (.bool false) (.slice none 0 0)
    unfold setEight at z1 z2
    obtain ⟨⟨e0, e1, e2, e3, e4, e5, e6, e7⟩, _⟩ := eight z1
    exact bodyPost_ret (v := .tuple #[.agg #[.int .i64 0, .string ⟨#[]⟩, .string ⟨#[]⟩, .string ⟨#[]⟩, .bool false, .string ⟨#[]⟩, .bool false, .slice none 0 0], .bool false]) (by simp [results, Tryz.f12, go_sem, e0, e1, e2, e3, e4, e5, e6, e7]) rfl ⟨⟨.slice none 0 0, by rw [HO.out]; rfl, by rw [HO.out]; exact ownS_nil _ _⟩, HK1.out.bel.grown z2 HK1.out.bel.size (fun i hi => by injection hi with hi; omega)⟩
  · have HRS : Hid (getL c.x.params kRealm = some r) := some_of HRI.out HR.out
    obtain ⟨x0, x1, x2, _, _, _⟩ := HK1.out
    have hsb := same_any c.x.scheme ⟨#[98, 97, 115, 105, 99]⟩ (by omega) (by decide) w1
    go_wp2_with fail
    refine hsb.mono ?_
    rintro e w2 ⟨rfl, hb2⟩
    have HK2 : Hid (KnF w w2 c) := HK1.out.below hb2
    clear hb2 x0 x1 x2 hsb
    cases hba : sameL c.x.scheme.data.toList (⟨#[98, 97, 115, 105, 99]⟩ : ByteArray).data.toList
    · obtain ⟨x0, x1, x2, _, _, _⟩ := HK2.out
      have hsd := same_any c.x.scheme ⟨#[100, 105, 103, 101, 115, 116]⟩ (by omega) (by decide) w2
      go_wp2_with fail
      refine hsd.mono ?_
      rintro e w3 ⟨rfl, hb3⟩
      have HK3 : Hid (KnF w w3 c) := HK2.out.below hb3
      clear hb3 x0 x1 x2 hsd
      cases hdi : sameL c.x.scheme.data.toList (⟨#[100, 105, 103, 101, 115, 116]⟩ : ByteArray).data.toList
      · have HO : Hid (knownL c.x = none) := by
          show _ = _
          unfold knownL
          rw [HRS.out]
          simp only []
          rw [if_neg (by rw [show sameL c.x.scheme.data.toList kBasic = false from hba]; simp), if_neg (by rw [show sameL c.x.scheme.data.toList kDigest = false from hdi]; simp)]
        have hres := HK3.out.res
        unfold zeroCells at hres
        obtain ⟨⟨r0, r1, r2, r3, r4, r5, r6, r7⟩, fr⟩ := eight hres
        have HRES : Hid (w3.heap[w.heap.size + 1]? = some (.cells #[.int .i64 0, .string ⟨#[]⟩, .string ⟨#[]⟩, .string ⟨#[]⟩, .bool false, .string ⟨#[]⟩, .bool false, .slice none 0 0] 34 (0, 0))) := hres
        clear hres
        go_wp2
        have z1 := setEight_at HRES.out (.int .i64 0) (.string ⟨#[]⟩) (.string ⟨#[]⟩) (.string ⟨#[]⟩) (.bool false) (.string ⟨#[]⟩) (.bool false) (.slice none 0 0)
        have z2 := setEight_grown w3 (w.heap.size + 1) (.int .i64 0) (.string ⟨#[]⟩) (.string ⟨#[]⟩) (.string ⟨#[]⟩) (.bool false) (.string ⟨#[]⟩) (.bool false) (.slice none 0 0)
        unfold setEight at z1 z2
        obtain ⟨⟨e0, e1, e2, e3, e4, e5, e6, e7⟩, _⟩ := eight z1
        exact bodyPost_ret (v := .tuple #[.agg #[.int .i64 0, .string ⟨#[]⟩, .string ⟨#[]⟩, .string ⟨#[]⟩, .bool false, .string ⟨#[]⟩, .bool false, .slice none 0 0], .bool false]) (by simp [results, Tryz.f12, go_sem, e0, e1, e2, e3, e4, e5, e6, e7]) rfl ⟨⟨.slice none 0 0, by rw [HO.out]; rfl, by rw [HO.out]; exact ownS_nil _ _⟩, HK3.out.bel.grown z2 HK3.out.bel.size (fun i hi => by injection hi with hi; omega)⟩
      · have HO : Hid (knownL c.x = digestL c.x.params r) := by
          show _ = _
          unfold knownL
          rw [HRS.out]
          simp only []
          rw [if_neg (by rw [show sameL c.x.scheme.data.toList kBasic = false from hba]; simp), if_pos (show sameL c.x.scheme.data.toList kDigest = true from hdi)]
        obtain ⟨x0, x1, x2, _, _, _⟩ := HK3.out
        go_wp2_with fail
        refine (digest_any c HF.out r _ HK3.out.ok).mono ?_
        rintro e w4 ⟨⟨dv, rfl, hown⟩, hb4⟩
        have HK4 : Hid (KnF w w4 c) := HK3.out.below hb4
        have hl3 := HK3.out.lt
        obtain ⟨da, dc, dg, rfl, _⟩ := hown.strs
        have HOW : Hid (OwnS w4 w3.heap.size (.slice da ((digestL c.x.params r).getD zeroA).domain.length dc) ((digestL c.x.params r).getD zeroA).domain ∧ w.heap.size + 1 < w3.heap.size) := ⟨hown, hl3⟩
        obtain ⟨q, HQ⟩ : ∃ q, Hid ((digestL c.x.params r).getD zeroA = q) := ⟨_, rfl⟩
        obtain ⟨qi, HQI⟩ : ∃ q, Hid ((digestL c.x.params r).isSome = q) := ⟨_, rfl⟩
        rw [HQ.out] at HOW ⊢
        rw [HQI.out]
        clear hb4 x0 x1 x2 hown
        unfold askVal
        have hres := HK4.out.res
        unfold zeroCells at hres
        obtain ⟨⟨r0, r1, r2, r3, r4, r5, r6, r7⟩, fr⟩ := eight hres
        have HRES : Hid (w4.heap[w.heap.size + 1]? = some (.cells #[.int .i64 0, .string ⟨#[]⟩, .string ⟨#[]⟩, .string ⟨#[]⟩, .bool false, .string ⟨#[]⟩, .bool false, .slice none 0 0] 34 (0, 0))) := hres
        clear hres
        go_wp2
        have z1 := setEight_at HRES.out (.int .i64 (q.scheme : Int)) (.string q.realm) (.string q.nonce) (.string q.opq) (.bool q.sess) (.string q.qop) (.bool q.stale) (.slice da q.domain.length dc)
        have z2 := setEight_grown w4 (w.heap.size + 1) (.int .i64 (q.scheme : Int)) (.string q.realm) (.string q.nonce) (.string q.opq) (.bool q.sess) (.string q.qop) (.bool q.stale) (.slice da q.domain.length dc)
        unfold setEight at z1 z2
        obtain ⟨⟨e0, e1, e2, e3, e4, e5, e6, e7⟩, _⟩ := eight z1
        exact bodyPost_ret (v := .tuple #[.agg #[.int .i64 (q.scheme : Int), .string q.realm, .string q.nonce, .string q.opq, .bool q.sess, .string q.qop, .bool q.stale, .slice da q.domain.length dc], .bool qi]) (by simp [results, Tryz.f12, go_sem, e0, e1, e2, e3, e4, e5, e6, e7]) rfl ⟨⟨.slice da q.domain.length dc, by rw [HO.out, HQ.out, HQI.out]; rfl, by rw [HO.out, HQ.out]; exact World.ownsRow.mono (HOW.out.1.grown z2 HOW.out.2) (by have := HOW.out.2; omega)⟩, HK4.out.bel.grown z2 HK4.out.bel.size (fun i hi => by injection hi with hi; omega)⟩
    · have HO : Hid (knownL c.x = some ⟨1, r, ⟨#[]⟩, ⟨#[]⟩, false, ⟨#[]⟩, false, []⟩) := by
        show _ = _
        unfold knownL
        rw [HRS.out]
        simp only []
        rw [if_pos (show sameL c.x.scheme.data.toList kBasic = true from hba)]
      have hres := HK2.out.res
      unfold zeroCells at hres
      obtain ⟨⟨r0, r1, r2, r3, r4, r5, r6, r7⟩, fr⟩ := eight hres
      have HRES : Hid (w2.heap[w.heap.size + 1]? = some (.cells #[.int .i64 0, .string ⟨#[]⟩, .string ⟨#[]⟩, .string ⟨#[]⟩, .bool false, .string ⟨#[]⟩, .bool false, .slice none 0 0] 34 (0, 0))) := hres
      clear hres
      go_wp2
      have z1 := setEight_at HRES.out (.int .i64 1) (.string r) (.string ⟨#[]⟩) (.string ⟨#[]⟩) (.bool false) (.string ⟨#[]⟩) (.bool false) (.slice none 0 0)
      have z2 := setEight_grown w2 (w.heap.size + 1) (.int .i64 1) (.string r) (.string ⟨#[]⟩) (.string ⟨#[]⟩) (.bool false) (.string ⟨#[]⟩) (.bool false) (.slice none 0 0)
      unfold setEight at z1 z2
      obtain ⟨⟨e0, e1, e2, e3, e4, e5, e6, e7⟩, _⟩ := eight z1
      exact bodyPost_ret (v := .tuple #[.agg #[.int .i64 1, .string r, .string ⟨#[]⟩, .string ⟨#[]⟩, .bool false, .string ⟨#[]⟩, .bool false, .slice none 0 0], .bool true]) (by simp [results, Tryz.f12, go_sem, e0, e1, e2, e3, e4, e5, e6, e7]) rfl ⟨⟨.slice none 0 0, by rw [HO.out]; rfl, by rw [HO.out]; exact ownS_nil _ _⟩, HK2.out.bel.grown z2 HK2.out.bel.size (fun i hi => by injection hi with hi; omega)⟩
end Go.Proofs.YtooaiamfbmjmnaaGreatDoor
