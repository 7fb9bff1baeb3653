/- Sliding there and back: bits come back behind the delay (plain). -/
import Derived.Test.YtkgfmpkpeipddaaDoorIlP
namespace Go.Proofs.YtkgfmpkpeipddaaDoor

theorem slL_at (B T : Nat) (up : Bool) (l : List UInt8) (j : Nat) (h : j < l.length) : (slL B T up l)[j]? = some (if dlN B T up j ≤ j then l.getD (j - dlN B T up j) 0 else 48) := by
  unfold slL slT
  rw [List.getElem?_map, List.getElem?_range h]; rfl
theorem slL_len (B T : Nat) (up : Bool) (l : List UInt8) : (slL B T up l).length = l.length := slT_len ..
theorem slid_back (B T d : Nat) (L : List UInt8) (hB : 1 ≤ B) (hd : d = (B - 1) * T * B) : slL B T false (slL B T true (L ++ List.replicate d 48)) = List.replicate d 48 ++ L := by
  have hlen : (L ++ List.replicate d (48 : UInt8)).length = L.length + d := by simp
  apply List.ext_getElem?
  intro j
  by_cases hj : j < L.length + d
  · rw [slL_at _ _ _ _ _ (by rw [slL_len, hlen]; exact hj)]
    have hr := Nat.mod_lt j (show 0 < B by omega)
    obtain ⟨r, hre⟩ : ∃ r, r = j % B := ⟨_, rfl⟩
    rw [← hre] at hr
    have hF : dlN B T false j = B * ((B - 1 - r) * T) := by unfold dlN; rw [hre, Nat.mul_comm B]; rfl
    have hsum : B * ((B - 1 - r) * T) + r * T * B = d := by
      rw [hd, Nat.mul_comm B, ← Nat.add_mul, ← Nat.add_mul]
      congr 2
      omega
    rw [hF]
    obtain ⟨F, hFe⟩ : ∃ F, F = B * ((B - 1 - r) * T) := ⟨_, rfl⟩
    have hmod : F ≤ j → (j - F) % B = r := fun h => by
      rw [hFe, Nat.sub_mul_mod (by rw [← hFe]; exact h)]; exact hre.symm
    have hU : F ≤ j → dlN B T true (j - F) = r * T * B := fun h => by unfold dlN; rw [if_pos rfl, hmod h]
    rw [← hFe] at hsum ⊢
    generalize r * T * B = U at *
    clear hF hmod hFe
    by_cases h1 : F ≤ j
    · rw [if_pos h1, List.getD_eq_getElem?_getD, slL_at _ _ _ _ _ (by rw [hlen]; omega), Option.getD_some, hU h1]
      by_cases h2 : U ≤ j - F
      · rw [if_pos h2, List.getElem?_append_right (by simp; omega), List.length_replicate, show j - F - U = j - d by omega, List.getD_eq_getElem?_getD, List.getElem?_append_left (by omega), List.getElem?_eq_getElem (by omega)]
        rfl
      · rw [if_neg h2, List.getElem?_append_left (by simp; omega), List.getElem?_replicate, if_pos (by omega)]
    · rw [if_neg h1, List.getElem?_append_left (by simp; omega), List.getElem?_replicate, if_pos (by omega)]
  · rw [List.getElem?_eq_none (by rw [slL_len, slL_len, hlen]; omega), List.getElem?_eq_none (by simp; omega)]
end Go.Proofs.YtkgfmpkpeipddaaDoor
