/- The model's IsPrefixCode; both IsCompleteCode. -/
import Derived.Test.YtijmfienaoeboaaBgl
import Derived.Test.YtijmfienaoeboaaAt0
import Derived.Test.YtijmfienaoeboaaKrs
namespace Go.Proofs.Ytijmfienaoeboaa
open Go Go.RowKit Go.Maps
set_option linter.unusedVariables false

def PreI (l : List ByteArray) (I : Nat) : Prop := ∀ i k (hi : i < l.length) (hk : k < l.length), i < I → i ≠ k → Lib.occAt l[k].data.toList l[i].data.toList 0 = false
def PreK (l : List ByteArray) (i K : Nat) : Prop := ∀ k (hi : i < l.length) (hk : k < l.length), k < K → i ≠ k → Lib.occAt l[k].data.toList l[i].data.toList 0 = false
theorem preI_next {l : List ByteArray} {i : Nat} (h : PreI l i) (h2 : PreK l i l.length) : PreI l (i + 1) := by
  intro j k hj hk hlt hne
  by_cases e : j = i
  · subst e; exact h2 k hj hk hk hne
  · exact h j k hj hk (by omega) hne
theorem preK_next {l : List ByteArray} {i K : Nat} (h : PreK l i K) (hi : i < l.length) (hK : K < l.length) (h2 : i = K ∨ Lib.occAt l[K].data.toList l[i].data.toList 0 = false) : PreK l i (K + 1) := by
  intro k hj hk hlt hne
  by_cases e : k = K
  · subst e
    rcases h2 with h2 | h2
    · exact absurd h2 hne
    · exact h2
  · exact h k hj hk (by omega) hne
theorem preI_all {l : List ByteArray} (h : PreI l l.length) : preB (pth l) = true := by
  refine preB_mk ?_
  intro x hx y hy hp
  obtain ⟨a, ha, rfl⟩ := List.mem_map.1 hx
  obtain ⟨b, hb, rfl⟩ := List.mem_map.1 hy
  obtain ⟨i, hi, rfl⟩ := List.getElem_of_mem ha
  obtain ⟨k, hk, rfl⟩ := List.getElem_of_mem hb
  by_cases e : i = k
  · subst e; rfl
  · have := h i k hi hk hi e
    rw [(occ0 _ _).2 hp] at this; cases this
theorem preK_bad {l : List ByteArray} (hn : l.Nodup) {i k : Nat} (hi : i < l.length) (hk : k < l.length) (hne : i ≠ k) (h : Lib.occAt l[k].data.toList l[i].data.toList 0 = true) : preB (pth l) = false := by
  refine preB_no (pth_in (List.getElem_mem hi)) (pth_in (List.getElem_mem hk)) ((occ0 _ _).1 h) (fun e => hne ?_)
  exact nodup_inj hn hi hk (toList_inj e)

set_option maxHeartbeats 1600000 in
set_option maxRecDepth 100000 in
theorem l05Prefix_any (w : World) (v : Value) (l : List ByteArray) (h : RdS w v l) (hc : cdOk l = true) :
    Calls Try.prog 68 #[v] w fun e w' => e = .returned (.bool (preB (pth l))) ∧ ∃ q, w' = w.drewN q := by
  obtain ⟨-, h16, hnd, hcw⟩ := cdOk_parts hc
  have hlen := h.len
  unfold maxLen at hlen
  obtain ⟨A, n, c, rfl, hn, hnc, -, r⟩ := h
  rw [hn] at hlen h16
  have HN := Lib.hid hn
  have HR := Lib.hid r
  have HM := Lib.hid hcw
  have HND := Lib.hid hnd
  clear hn r hcw hc hnd
  go_enter Try.func68, Try.ntmps68
  go_wp2_with fail
  go_loopw [3] (fun i wr => ∃ k q : Nat, k ≤ n ∧ i = .int .i64 k ∧ wr = w.drewN q ∧ PreI l k) (fun i _ => n - (intOf i).toNat)
  case atStart => exact ⟨0, 0, Nat.zero_le _, rfl, rfl, fun i k hi hk h => by omega⟩
  case round =>
    obtain ⟨i, q, hi, rfl, rfl, hI⟩ := hrel
    have HI := Lib.hid hI
    clear hI
    by_cases hlt : i < n
    · obtain ⟨b, o, rfl, hlt0, hcc⟩ := HR.out (by omega)
      have hil : i < l.length := by have := HN.out; omega
      have hci := hcc i hil
      have hcwi := cwOk_parts (HM.out l[i] (List.getElem_mem hil))
      obtain ⟨x, hx⟩ : ∃ x, l[i] = x := ⟨_, rfl⟩
      rw [hx] at hci hcwi
      obtain ⟨x1, x2, -⟩ := hcwi
      have HX := Lib.hid hx
      have HCC := Lib.hid hcc
      have hi0 : (0 : Int) ≤ (i : Int) := by omega
      have hi1 : (i : Int) < (n : Int) := by omega
      have HXN : Hid (x.data.toList ≠ []) := by
        show _ ≠ _
        intro e
        have this : x.size = x.data.toList.length := by simp
        rw [e, List.length_nil] at this
        omega
      clear hx hcc x1
      go_wp2_with fail
      obtain ⟨wo, hwo⟩ : ∃ wo, wo = w.drewN q := ⟨_, rfl⟩
      have HWO := Lib.hid hwo
      rw [← hwo]
      have hciq : wo.cell? ⟨b, o + i, none⟩ = some (.string x) := by rw [hwo]; simpa using hci
      have HCI := Lib.hid hciq
      have HCK : Hid (∀ k (hk : k < l.length), wo.cell? ⟨b, o + k, none⟩ = some (.string l[k])) := by
        show ∀ k hk, _
        intro k hk
        rw [hwo]
        simpa using HCC.out k hk
      clear hwo hci hciq
      go_loopw [4] (fun kk wr => ∃ k q : Nat, k ≤ n ∧ kk = .int .i64 k ∧ wr = wo.drewN q ∧ PreK l i k) (fun kk _ => n - (intOf kk).toNat)
      case atStart => exact ⟨0, 0, Nat.zero_le _, rfl, rfl, fun k hi hk h => by omega⟩
      case round =>
        obtain ⟨k, q2, hk, rfl, rfl, hK⟩ := hrel
        have HK := Lib.hid hK
        clear hK
        by_cases hlt2 : k < n
        · have hkl : k < l.length := by have := HN.out; omega
          have ci := HCI.out
          have ck := HCK.out k hkl
          have hcwk := cwOk_parts (HM.out l[k] (List.getElem_mem hkl))
          have HB := Lib.hid (fun (hne : i ≠ k) (h : Lib.occAt l[k].data.toList l[i].data.toList 0 = true) => preK_bad HND.out hil hkl hne h)
          have HP := Lib.hid (fun (h2 : i = k ∨ Lib.occAt l[k].data.toList l[i].data.toList 0 = false) => preK_next HK.out hil hkl h2)
          rw [HX.out] at HB HP
          obtain ⟨y1, y2, -⟩ := hcwk
          have hk0 : (0 : Int) ≤ (k : Int) := by omega
          have hk1 : (k : Int) < (n : Int) := by omega
          generalize l[k] = y at *
          have HA : Hid (∀ W, Calls Try.prog 120 #[.string y, .string x, .int .i64 0] W fun e w' => e = .returned (.bool (Lib.occAt y.data.toList x.data.toList 0)) ∧ W = w') := by
            show ∀ W, _
            exact fun W => l01AtX_any y x 0 W (by omega) (by omega) (by omega) HXN.out
          clear y1 y2
          by_cases hik : i = k
          · have s1 : ((i : Int) != (k : Int)) = false := bne_f (by omega)
            have HZ := Lib.hid (HP.out (.inl hik))
            clear hik HA
            go_wp2_with fail
            go_quiet (fail)
            go_wp2_with fail
            go_roundw
            case rel => exact ⟨k + 1, _, by omega, by go_num, rfl, HZ.out⟩
            case measure => simp [intOf]; omega
          · have s1 : ((i : Int) != (k : Int)) = true := bne_t (by omega)
            have s2 : (i != k) = true := by simpa using hik
            have s3 : (i == k) = false := by simpa using hik
            have s4 : decide (i = k) = false := decide_eq_false hik
            have s5 : ((i : Int) == (k : Int)) = false := beq_f (by omega)
            have s6 : decide ((i : Int) = (k : Int)) = false := decide_eq_false (by omega)
            have s7 := hik
            cases hr : Lib.occAt y.data.toList x.data.toList 0
            · rw [hr] at HA
              have HZ := Lib.hid (HP.out (.inr hr))
              clear hik hr
              go_wp2_with fail
              go_quiet ((go_at_call 120; exact quietX_leftq (HA.out _)))
              go_wp2_with fail
              go_roundw
              case rel => exact ⟨k + 1, _, by omega, by go_num, rfl, HZ.out⟩
              case measure => simp [intOf]; omega
            · rw [hr] at HA
              have HZ := Lib.hid (HB.out hik hr)
              clear hik hr
              go_wp2_with fail
              go_quiet ((go_at_call 120; exact quietX_leftq (HA.out _)))
              go_wp2_with fail
              go_ret
              exact ⟨ret_bool HZ.out.symm, _, by rw [HWO.out, World.drewN_drewN, World.drewN_drewN]⟩
        · obtain rfl : k = n := by omega
          have HZ := Lib.hid (preI_next HI.out (by rw [HN.out]; exact HK.out))
          go_wp2_with fail
          rw [HWO.out]
          go_roundw
          case rel => exact ⟨i + 1, _, by omega, by go_num, World.drewN_drewN _ _ _, HZ.out⟩
          case measure => simp [intOf]; omega
    · obtain rfl : i = n := by omega
      have HZ : Hid (preB (pth l) = true) := by show _ = _; exact preI_all (by rw [HN.out]; exact HI.out)
      go_wp2_with fail
      go_ret
      exact ⟨ret_bool HZ.out.symm, _, rfl⟩

theorem isPrefixCode_spec (w : World) (v : Value) (l : List ByteArray) (h : RdS w v l) (hm : ∀ s ∈ l, s.size ≤ 4000000) :
    Calls Try.prog 20 #[v] w fun e w' => e = .returned (.bool (pcOk l)) ∧ Below w.heap.size w w' := by
  have HC := Lib.hid (l05Is_any w v l h hm)
  have HH := Lib.hid h
  cases hc : cdOk l
  · have HE : Hid (pcOk l = false) := by show _ = _; unfold pcOk; rw [hc]; rfl
    rw [hc] at HC
    clear h hm hc
    go_enter Try.func20, Try.ntmps20
    go_wp2_with fail
    refine HC.out.mono ?_; rintro e w' ⟨rfl, q, rfl⟩
    go_wp2_with fail
    go_ret
    exact ⟨ret_bool HE.out.symm, below_drewN (Below.refl _ _) q⟩
  · have HE : Hid (pcOk l = preB (pth l)) := by show _ = _; unfold pcOk; rw [hc]; rfl
    have HP := Lib.hid (fun W h => l05Prefix_any W v l h hc)
    rw [hc] at HC
    clear h hm hc
    generalize preB (pth l) = R at *
    go_enter Try.func20, Try.ntmps20
    go_wp2_with fail
    refine HC.out.mono ?_; rintro e w' ⟨rfl, q, rfl⟩
    go_wp2_with fail
    refine (HP.out _ (HH.out.drewN q)).mono ?_; rintro e w' ⟨rfl, q2, rfl⟩
    go_wp2_with fail
    go_ret
    exact ⟨ret_bool HE.out.symm, below_drewN (Below.refl _ _) _⟩

/-- Complete codes. -/
def cmOk (l : List ByteArray) : Bool := cdOk l && (preB (pth l) && decide (kr l = 4096))
theorem mk_one (k : Nat) : (mkN (k : Int) 4096 = 1 ∧ mkD (k : Int) 4096 = 1) ↔ k = 4096 := by
  unfold mkN mkD
  rw [if_neg (by decide), Int.natAbs_natCast, show (4096 : Int).natAbs = 4096 from rfl]
  have h1 : ((Int.tdiv (k : Int) ((Nat.gcd k 4096 : Nat) : Int)) = ((k / Nat.gcd k 4096 : Nat) : Int)) := (Int.ofNat_tdiv _ _).symm
  have h2 : ((Int.tdiv ((4096 : Nat) : Int) ((Nat.gcd k 4096 : Nat) : Int)) = ((4096 / Nat.gcd k 4096 : Nat) : Int)) := (Int.ofNat_tdiv _ _).symm
  rw [h1, h2]
  constructor
  · rintro ⟨a, b⟩
    have a' : k / Nat.gcd k 4096 = 1 := by omega
    have b' : 4096 / Nat.gcd k 4096 = 1 := by omega
    have c := Nat.div_mul_cancel (Nat.gcd_dvd_left k 4096)
    have d := Nat.div_mul_cancel (Nat.gcd_dvd_right k 4096)
    rw [a'] at c
    rw [b'] at d
    omega
  · intro e
    subst e
    decide
end Go.Proofs.Ytijmfienaoeboaa
