/- Small letters for great ones in a scheme and in names: the same is asked for. -/
import Derived.Test.YtooaiamfbmjmnaaGreatDoorKnD
namespace Go.Proofs.YtooaiamfbmjmnaaGreatDoor

def lowP (p : Par) : Par := (bs (p.1.data.toList.map low), p.2)
def lowC (x : Chal) : Chal := ⟨bs (x.scheme.data.toList.map low), x.token, x.params.map lowP⟩
theorem low_again (c : UInt8) : low (low c) = low c := by
  have : ∀ c : Fin 256, low (low (UInt8.ofNat c.val)) = low (UInt8.ofNat c.val) := by decide +kernel
  have h := this ⟨c.toNat, c.toNat_lt⟩
  rwa [UInt8.ofNat_toNat] at h
theorem same_low (a b : List UInt8) : sameL (a.map low) b = sameL a b := by
  unfold sameL
  rw [List.map_map]
  congr 2
  funext c
  exact low_again c
theorem get_low (ps : List Par) (k : List UInt8) : getL (ps.map lowP) k = getL ps k := by
  unfold getL
  rw [List.find?_map]
  have e : ((fun p : Par => sameL p.1.data.toList k) ∘ lowP) = fun p => sameL p.1.data.toList k := by
    funext p
    show sameL (bs (p.1.data.toList.map low)).data.toList k = _
    rw [bs_data, same_low]
  rw [e, Option.map_map]
  rfl
theorem known_low (x : Chal) : knownL (lowC x) = knownL x := by
  unfold knownL digestL lowC
  simp only [get_low, bs_data, same_low]
theorem lowC_mild_len (x : Chal) : (lowC x).params.length = x.params.length := by unfold lowC; simp
end Go.Proofs.YtooaiamfbmjmnaaGreatDoor
