/- The program's remainderOfMask and bytesOfText. -/
import Derived.Test.YtnpigefbdadjfaaDoorDvi
import Derived.Test.YtnpigefbdadjfaaDoorByP
import Derived.Test.YtnpigefbdadjfaaDoorBits
import Derived.Test.YtnpigefbdadjfaaDoorOwn
namespace Go.Proofs.YtnpigefbdadjfaaDoor
open Go Go.RowKit
set_option linter.unusedVariables false

theorem mask_bytes (m : Nat) (hm : m < 4294967296) : vb [m / 16777216 % 256, m / 65536 % 256, m / 256 % 256, m % 256] 0 = m := by
  show (((0 * 256 + m / 16777216 % 256) * 256 + m / 65536 % 256) * 256 + m / 256 % 256) * 256 + m % 256 = m
  omega
theorem u8_w (x : Nat) : IntKind.u8.wrap (x : Int) = ((x % 256 : Nat) : Int) := by
  rw [show IntKind.u8.wrap (x : Int) = (x : Int) % 256 by simp [IntKind.wrap, IntKind.bits, IntKind.signed]]; omega
/-- The bits of a text. -/
def btN (l : List UInt8) : List Nat := l.map (fun c => c.toNat - 48)
theorem btN_len (l : List UInt8) : (btN l).length = l.length := by simp [btN]
def u8V (B : List Nat) : List Value := B.map (fun (x : Nat) => Value.int .u8 (x : Int))
theorem u8V_len (B : List Nat) : (u8V B).length = B.length := by simp [u8V]
theorem u8V_set (B : List Nat) (j x : Nat) : (u8V B).set j (.int .u8 (x : Int)) = u8V (B.set j x) := by unfold u8V; rw [List.map_set]
theorem u8V_at (B : List Nat) (j : Nat) (h : j < B.length) : (u8V B)[j]? = some (.int .u8 ((B.getD j 0 : Nat) : Int)) := by
  unfold u8V; rw [List.getElem?_map, List.getElem?_eq_getElem h, List.getD_eq_getElem?_getD, List.getElem?_eq_getElem h]; rfl
theorem inR_btN {l : List UInt8} (h : inR 48 49 l = true) : ∀ x ∈ btN l, x < 2 := by
  intro x hx
  obtain ⟨c, hc, rfl⟩ := List.mem_map.1 hx
  have := of_decide_eq_true (List.all_eq_true.1 h c hc)
  omega
theorem isB_two {l : List UInt8} (h : isB l = true) : l.length ≤ 400 ∧ inR 48 49 l = true := by
  unfold isB at h
  have hp := Bool.and_eq_true_iff.1 h
  exact ⟨of_decide_eq_true hp.1, hp.2⟩
theorem own_keepB {w w2 : World} {base : Nat} {e : TypeId} {v : Value} {n : Nat} {xs : List Value} (h : w.ownsRow base e 1 v n xs) (hb : Below w.heap.size w w2) : w2.ownsRow base e 1 v n xs :=
  h.kept (row := none) ⟨hb.os, hb.tape, hb.output, hb.size, fun j hj _ => hb.block j hj⟩ (by cases v.ownBlock <;> simp)
set_option maxRecDepth 100000 in
set_option maxHeartbeats 2000000 in
theorem bot_any (s : ByteArray) (w : World) (hs : isB s.data.toList = true) :
    Calls Tryd.prog 109 #[.string s] w fun e w' => ∃ v, e = .returned v ∧ (∀ b, b < w.heap.size → RdU b w' v (dby (nbits (btN s.data.toList) 0) ((s.size + 7) / 8))) ∧ Below w.heap.size w w' := by
  obtain ⟨i0, hi, hz0, hz1, hz2⟩ := info_parts Tryd.infoByte
  obtain ⟨h400, hin⟩ := isB_two hs
  have hsz : s.size ≤ 400 := h400
  obtain ⟨N, hN⟩ : ∃ N, N = (s.size + 7) / 8 := ⟨_, rfl⟩
  have hN1 : N ≤ 50 := by omega
  have hN2 : s.size ≤ 8 * N := by omega
  have eN : ((s.size : Int) + 8 - 1) / 8 = (N : Int) := by omega
  rw [← hN]
  have hlen : (btN s.data.toList).length = s.size := btN_len _
  have HLEN := Lib.hid hlen
  have HB2 := Lib.hid (inR_btN hin)
  have HIN := Lib.hid (fun k hk => inR_at 48 49 s k hk hin)
  have HZ : Hid (dby (fst (btN s.data.toList) 0) N = List.replicate N 0) := by show _ = _; rw [fst_zero, dby_zero]
  have HALL : Hid (fst (btN s.data.toList) s.size = nbits (btN s.data.toList) 0) := by show _ = _; rw [← hlen, fst_all]
  have HST : Hid (∀ k (hk : k < s.size), dby (fst (btN s.data.toList) (k + 1)) N = (dby (fst (btN s.data.toList) k) N).set (N - 1 - (s.size - 1 - k) / 8) ((dby (fst (btN s.data.toList) k) N).getD (N - 1 - (s.size - 1 - k) / 8) 0 ||| (s[k].toNat - 48) * 2 ^ ((s.size - 1 - k) % 8))) := by
    show ∀ k (hk : k < s.size), _
    intro k hk
    have hkl : k < (btN s.data.toList).length := by rw [hlen]; exact hk
    have e : (btN s.data.toList)[k] = s[k].toNat - 48 := by simp [btN]; rfl
    have hb := inR_btN hin _ (List.getElem_mem hkl)
    rw [fst_succ _ k hkl hb, dby_set _ N _ _ hb (by rw [hlen]; omega), hlen, e]
  have HDL := Lib.hid (fun M => dby_len M N)
  clear hN h400 hin hs hlen
  go_enter Tryd.func109, Tryd.ntmps109
  go_wp2_with (at_make; refine wpList_make_full _ rfl _ _ 22 rfl w.heap.size 5 i0 (.int .u8 0) 1 Tryd.underlying22 hi hz0 hz1 _ _ _ _ N rfl rfl eN eN ?b2 ?b3 (Nat.le_refl _) ?_)
  case b2 => rw [hz2]; omega
  case b3 => unfold maxLen; omega
  intro w1 hown hgrow
  have hb1 : Below w.heap.size w w1 := (Below.refl _ _).grown hgrow (Nat.le_refl _) (by simp)
  rw [toList_madeCells_one] at hown
  have HOZ : Hid (w1.ownsRow w.heap.size 5 1 (.slice (some ⟨w.heap.size, 0, none⟩) N N) N (u8V (dby (fst (btN s.data.toList) 0) N))) := by
    show World.ownsRow _ _ _ _ _ _ _
    rw [HZ.out, show u8V (List.replicate N 0) = List.replicate N (.int .u8 0) by simp [u8V]]
    exact hown
  have HB1 := Lib.hid hb1
  clear hgrow hown hb1
  go_wp2_with fail
  go_loopw [4, 14] (fun _ i wr => ∃ k : Nat, k ≤ s.size ∧ i = .int .i64 k ∧ wr.ownsRow w.heap.size 5 1 (.slice (some ⟨w.heap.size, 0, none⟩) N N) N (u8V (dby (fst (btN s.data.toList) k) N)) ∧ Below w.heap.size w wr) (fun _ i _ => s.size - (intOf i).toNat)
  case atStart => exact ⟨0, Nat.zero_le _, rfl, HOZ.out, HB1.out⟩
  case round =>
    obtain ⟨k, hk, rfl, hown, hb⟩ := hrel
    have HO := Lib.hid hown
    have HB := Lib.hid hb
    clear hown hb HOZ
    by_cases hlt : k < s.size
    · have hk1 : (k : Int) < (s.size : Int) := by omega
      have hk0 : (0 : Int) ≤ (k : Int) := by omega
      have hbd := HIN.out k hlt
      have hst := HST.out k hlt
      have hL := HDL.out (fst (btN s.data.toList) k)
      obtain ⟨K, hK⟩ : ∃ K, K = s.size - 1 - k := ⟨_, rfl⟩
      have eK : (s.size : Int) - 1 - (k : Int) = (K : Int) := by omega
      rw [← hK] at hst
      obtain ⟨D, hD⟩ : ∃ D, D = K / 8 := ⟨_, rfl⟩
      obtain ⟨M, hM⟩ : ∃ M, M = K % 8 := ⟨_, rfl⟩
      have eD : (K : Int) / 8 = (D : Int) := by omega
      have eM : (K : Int) % 8 = (M : Int) := by omega
      rw [← hD, ← hM] at hst
      obtain ⟨J, hJ⟩ : ∃ J, J = N - 1 - D := ⟨_, rfl⟩
      have hJN : J < N := by omega
      have eJ : (N : Int) - 1 - (D : Int) = (J : Int) := by omega
      rw [← hJ] at hst
      obtain ⟨x, hx⟩ : ∃ x, x = s[k].toNat - 48 := ⟨_, rfl⟩
      have hx2 : x < 2 := by omega
      have eX : ((s[k]).toNat : Int) = (x : Int) + 48 := by omega
      rw [← hx] at hst
      obtain ⟨y, hy⟩ : ∃ y, y = (dby (fst (btN s.data.toList) k) N).getD J 0 := ⟨_, rfl⟩
      have hyl : y < 256 := by
        rw [hy, List.getD_eq_getElem?_getD, List.getElem?_eq_getElem (by rw [hL]; exact hJN)]
        exact dby_lt _ _ _ (List.getElem_mem _)
      rw [← hy] at hst
      have hM8 : M < 8 := by omega
      have h2M : x * 2 ^ M < 256 := by
        have h1 : 2 ^ M ≤ 2 ^ 7 := Nat.pow_le_pow_right (by omega) (by omega)
        have h2 := Nat.mul_le_mul (show x ≤ 1 by omega) h1
        omega
      obtain ⟨z, hz⟩ : ∃ z, z = x * 2 ^ M := ⟨_, rfl⟩
      have eZ : IntKind.u8.wrap ((x : Int) * 2 ^ M) = (z : Int) := by
        have := u8_w z
        rw [show z % 256 = z by omega] at this
        rw [← this]
        congr 1
        rw [hz, Int.natCast_mul]; rfl
      rw [← hz] at hst h2M
      have eO : bits .or .u8 (y : Int) (z : Int) = ((y ||| z : Nat) : Int) := u8_or_nat _ _ hyl (by omega)
      have eW : IntKind.u8.wrap ((x : Int) + 48 - 48) = (x : Int) := by have := u8_w x; rw [show x % 256 = x by omega] at this; rw [← this]; congr 1; omega
      have eW2 : IntKind.u8.wrap (x : Int) = (x : Int) := by have := u8_w x; rwa [show x % 256 = x by omega] at this
      have hm : min M 64 = M := by omega
      have hm2 : min M 8 = M := by omega
      have hcl := (HO.out.cellAt J (by omega)).trans ((u8V_at _ J (by rw [hL]; exact hJN)).trans (by rw [← hy]))
      have hfr := HO.out.frozenAt J
      have HS2 : Hid (u8V (dby (fst (btN s.data.toList) (k + 1)) N) = (u8V (dby (fst (btN s.data.toList) k) N)).set J (.int .u8 ((y ||| z : Nat) : Int))) := by
        show _ = _
        rw [u8V_set, ← hst]
      have HW := Lib.hid (HO.out.stored J (.int .u8 ((y ||| z : Nat) : Int))).1
      rw [← HS2.out] at HW
      generalize y ||| z = Z at *
      have hJ0 : (0 : Int) ≤ (J : Int) := by omega
      have hJ1 : (J : Int) < (N : Int) := by omega
      have hM0 : (0 : Int) ≤ (M : Int) := by omega
      have hK0 : (0 : Int) ≤ (K : Int) := by omega
      have hKb : (K : Int) ≤ 400 := by omega
      have hDb : (D : Int) ≤ 50 := by omega
      have hD0 : (0 : Int) ≤ (D : Int) := by omega
      have hx0 : (0 : Int) ≤ (x : Int) := by omega
      have hx1 : (x : Int) ≤ 1 := by omega
      clear hL hst hK hD hM hJ hx hy hz hbd HZ HST HDL HIN HB2 HS2 hyl h2M
      go_wp2_with fail
      go_region
      all_goals
        go_wp2_with fail
        go_roundw
        case rel => exact ⟨k + 1, by omega, by go_num, HW.out.drew, (HB.out.setCell (Nat.le_refl _) _).drew⟩
        case measure => simp [intOf]; omega
    · obtain rfl : k = s.size := by omega
      rw [HALL.out] at HO
      have HU : Hid (∀ b, b < w.heap.size → RdU b wr (.slice (some ⟨w.heap.size, 0, none⟩) N N) (dby (nbits (btN s.data.toList) 0) N)) := by
        show ∀ b, _
        intro b hb
        have hl := HDL.out (nbits (btN s.data.toList) 0)
        refine ⟨_, N, N, rfl, hl, by unfold maxLen; omega, fun h0 => ⟨w.heap.size, 0, rfl, by omega, ?_, fun i x hx => ?_⟩⟩
        · exact (HO.out.lt w.heap.size rfl).2
        · have hi' : i < N := by
            rcases Nat.lt_or_ge i N with h | h
            · exact h
            · rw [List.getElem?_eq_none (by rw [hl]; exact h)] at hx; cases hx
          rw [Nat.zero_add, HO.out.cellAt i (by omega)]
          unfold u8V
          rw [List.getElem?_map, hx]; rfl
      clear HDL HALL HST HIN HB2 HZ HO
      go_wp2_with fail
      go_ret
      exact ⟨_, rfl, HU.out, HB.out⟩
end Go.Proofs.YtnpigefbdadjfaaDoor
