/- The divider leaves its block as it was: take, remainderOfBytes, remainderOfMask. -/
import Derived.Test.YtnpigefbdadjfaaDoorDvm
namespace Go.Proofs.YtnpigefbdadjfaaDoor
open Go Go.RowKit
set_option linter.unusedVariables false

/-- Of what was there, only the cell 258 of the block b has turned. -/
structure OnlyX (b : Nat) (w w' : World) : Prop where
  only : Only b w w'
  blk : ∀ c e fr, w.heap[b]? = some (.cells c e fr) → ∃ x, w'.heap[b]? = some (.cells (c.setIfInBounds 258 x) e fr)
theorem OnlyX.trans {b : Nat} {w w1 w2 : World} (h : OnlyX b w w1) (k : OnlyX b w1 w2) : OnlyX b w w2 :=
  ⟨h.only.trans k.only, fun c e fr hc => by
    obtain ⟨x, hx⟩ := h.blk c e fr hc
    obtain ⟨y, hy⟩ := k.blk _ e fr hx
    exact ⟨y, by rw [hy, Array.setIfInBounds_setIfInBounds]⟩⟩
theorem set_own (c : Array Value) (i : Nat) : ∃ x, c.setIfInBounds i x = c := by
  by_cases h : i < c.size
  · refine ⟨c[i], ?_⟩
    apply Array.ext_getElem?
    intro j
    by_cases e : i = j
    · subst e; rw [Array.getElem?_setIfInBounds_self_of_lt h, Array.getElem?_eq_getElem h]
    · rw [Array.getElem?_setIfInBounds_ne e]
  · exact ⟨.bool true, Array.setIfInBounds_eq_of_size_le (by omega)⟩
theorem OnlyX.of_below {b : Nat} {w w' : World} (hb : Below w.heap.size w w') : OnlyX b w w' :=
  ⟨Only.of_below hb, fun c e fr hc => by
    obtain ⟨x, hx⟩ := set_own c 258
    exact ⟨x, by rw [hx, ← hc]; exact hb.block b (Array.getElem?_eq_some_iff.1 hc).1⟩⟩
theorem OnlyX.of_set (b : Nat) (w : World) (x : Value) : OnlyX b w (w.setCell ⟨b, 258, none⟩ x) :=
  ⟨Only.of_set b w 258 x, fun c e fr hc => ⟨x, by
    show (w.heap.modify b _)[b]? = _
    rw [Array.getElem?_modify, if_pos rfl, hc]; rfl⟩⟩
/-- A block whose cell 258 is as it was is as it was. -/
theorem OnlyX.whole {b p d r : Nat} {T : List Nat} {w w' : World} (h : OnlyX b w w') (hd : Dv w b p d T r) (hd' : Dv w' b p d T r) : Below w.heap.size w w' := by
  have e : w'.heap[b]? = w.heap[b]? := by
    have h1 := hd.cr
    have h2 := hd'.cr
    unfold World.cell? at h1 h2
    dsimp only at h1 h2
    cases ho : w.heap[b]? with
    | none => rw [ho] at h1; cases h1
    | some o =>
      cases o <;> rw [ho] at h1 <;> try (cases h1; done)
      rename_i c e fr
      obtain ⟨x, hx⟩ := h.blk c e fr ho
      rw [hx] at h2 ⊢
      simp only [Option.isSome_none, Bool.false_eq_true, if_false] at h1 h2
      have hlt : 258 < c.size := (Array.getElem?_eq_some_iff.1 h1).1
      rw [Array.getElem?_setIfInBounds_self_of_lt hlt] at h2
      injection h2 with h2
      subst h2
      congr 2
      apply Array.ext_getElem?
      intro j
      by_cases ej : 258 = j
      · subst ej; rw [Array.getElem?_setIfInBounds_self_of_lt hlt, h1]
      · rw [Array.getElem?_setIfInBounds_ne ej]
  exact ⟨h.only.os, h.only.tape, h.only.output, h.only.size, fun k hk => by
    by_cases ek : k = b
    · rw [ek]; exact e
    · exact h.only.block k hk ek⟩
set_option maxHeartbeats 1000000 in
theorem take_x (b p d : Nat) (r e : Nat) (W : World) (hd : Dv W b p d (tlA p d) r) (hg : Deg p d) (h16 : d ≤ 16) (hr : r < 2 ^ d) (he : e < 256) :
    Calls Tryd.prog 144 #[.pointer (some ⟨b, 0, none⟩), .int .u8 (e : Int)] W fun o W' => o = .returned (.tuple #[]) ∧ Dv W' b p d (tlA p d) (rd p d (r * 256 + e)) ∧ OnlyX b W W' := by
  have hcd := hd.cd
  have hcr := hd.cr
  have hf := hd.f 258 (by omega)
  have hab := above_lt (d := d) r e hr he
  have hca := hd.ca (tlA_at p d _ hab)
  have htk := take_byte hg r e hr he
  have h2 : 2 ^ d ≤ 65536 := Nat.pow_le_pow_right (by omega) h16
  have hp2 : p < 131072 := by have := hg.hi; rw [Nat.pow_succ] at this; omega
  have htl := tbl_lt hg ((r * 256 + e) / 2 ^ d)
  have hsh : (r * 256 + e) / 2 ^ d * 2 ^ d ≤ r * 256 + e := Nat.div_mul_le_self _ _
  have e1 : IntKind.u64.wrap ((r : Int) * 256) = ((r * 256 : Nat) : Int) := by have := u64_w (r * 256) (by omega); rw [← this]; congr 1
  have e2 : bits .or .u64 ((r * 256 : Nat) : Int) (e : Int) = ((r * 256 + e : Nat) : Int) := by
    rw [u64_or_nat _ _ (by omega) (by omega)]
    congr 1
    have := Nat.two_pow_add_eq_or_of_lt (show e < 2 ^ 8 by omega) r
    rw [Nat.mul_comm r 256, ← this]
  have e0 : IntKind.u64.wrap (e : Int) = (e : Int) := u64_w e (by omega)
  obtain ⟨L, hL⟩ : ∃ L, L = r * 256 + e := ⟨_, rfl⟩
  obtain ⟨R, hR⟩ : ∃ R, R = r * 256 := ⟨_, rfl⟩
  have hLb : L < 33554432 := by omega
  rw [← hL] at e2 hab hca htk htl hsh
  rw [← hR] at e1 e2
  obtain ⟨A, hA⟩ : ∃ A, A = L / 2 ^ d := ⟨_, rfl⟩
  rw [← hA] at hab hca htk htl hsh
  have e3 : (L : Int) / 2 ^ d = (A : Int) := by rw [hA, Int.natCast_ediv]; congr 1
  obtain ⟨S, hS⟩ : ∃ S, S = A * 2 ^ d := ⟨_, rfl⟩
  rw [← hS] at htk hsh
  have e4 : IntKind.u64.wrap ((A : Int) * 2 ^ d) = (S : Int) := by
    have := u64_w S (by omega)
    rw [← this]
    congr 1
    rw [hS, Int.natCast_mul]; rfl
  have e5 : bits .xor .u64 (L : Int) (S : Int) = ((L ^^^ S : Nat) : Int) := u64_xor_nat _ _ (by omega) (by omega)
  have hls : L ^^^ S < 2 ^ 25 := Nat.xor_lt_two_pow (by omega) (by omega)
  obtain ⟨Z, hZ⟩ : ∃ Z, Z = L ^^^ S := ⟨_, rfl⟩
  rw [← hZ] at e5 hls htk
  have e6 : bits .xor .u64 (Z : Int) ((tbl p d A : Nat) : Int) = ((rd p d L : Nat) : Int) := by rw [u64_xor_nat _ _ (by omega) (by omega), htk]
  have hA0 : (0 : Int) ≤ (A : Int) := by omega
  have hA1 : (A : Int) < 256 := by omega
  have hd0 : (0 : Int) ≤ (d : Int) := by omega
  have hm : min d 64 = d := by omega
  rw [← hL]
  have HD := Lib.hid (hd.setr (rd p d L))
  have HD2 := Lib.hid (fun x => OnlyX.of_set b W x)
  generalize rd p d L = X at *
  generalize tbl p d A = Y at *
  clear hg h16 hr he h2 hp2 htl hsh hL hR hA hS hZ hls htk hLb hd
  go_enter Tryd.func144, Tryd.ntmps144
  go_wp2_with fail
  go_region
  all_goals
    go_wp2_with fail
    go_end0
    exact ⟨rfl, HD.out.keep (Below.refl _ _).drew, (HD2.out _).trans (OnlyX.of_below (Below.refl _ _).drew)⟩
set_option maxHeartbeats 1000000 in
theorem rob_x (b p d : Nat) (v : Value) (B : List Nat) (W : World) (hd : Dv W b p d (tlA p d) 0) (hr : RdU b W v B) (hB : ∀ x ∈ B, x < 256) (hg : Deg p d) (h16 : d ≤ 16) :
    Calls Tryd.prog 108 #[.pointer (some ⟨b, 0, none⟩), v] W fun o W' => o = .returned (.int .u64 ((rd p d (vb B 0) : Nat) : Int)) ∧ Dv W' b p d (tlA p d) 0 ∧ OnlyX b W W' := by
  obtain ⟨A, n, c, rfl, hn, hm, hrd⟩ := hr
  have HR0 : Hid (RdU b W (.slice A n c) B) := ⟨A, n, c, rfl, hn, hm, hrd⟩
  have HN := Lib.hid hn
  have HB := Lib.hid hB
  have HG := Lib.hid hg
  have HD0 : Hid (Dv W b p d (tlA p d) (rd p d (vb (B.take 0) 0))) := by show Dv _ _ _ _ _ _; rw [List.take_zero, show vb [] 0 = 0 from rfl, rd_zero]; exact hd
  have HT := Lib.hid (fun r e W hd hr he => take_x b p d r e W hd hg h16 hr he)
  have hn2 : n ≤ 9223372036854775807 := by unfold maxLen at hm; omega
  clear hrd hn hm hB hg hd h16
  go_enter_defers Tryd.func108, Tryd.ntmps108
  go_wp2_with fail
  go_loopw [6, 10] (fun _ i wr => ∃ k : Nat, k ≤ n ∧ i = .int .i64 k ∧ Dv wr b p d (tlA p d) (rd p d (vb (B.take k) 0)) ∧ RdU b wr (.slice A n c) B ∧ OnlyX b W wr) (fun _ i _ => n - (intOf i).toNat)
  case atStart => exact ⟨0, Nat.zero_le _, rfl, HD0.out, HR0.out, OnlyX.of_below (Below.refl _ _)⟩
  case round =>
    obtain ⟨k, hk, rfl, hd, hr, ho⟩ := hrel
    have HD := Lib.hid hd
    have HRD := Lib.hid hr
    have HO := Lib.hid ho
    clear hd ho HD0 HR0
    by_cases hlt : k < n
    · have hk0 : (0 : Int) ≤ (k : Int) := by omega
      have hk1 : (k : Int) < (n : Int) := by omega
      obtain ⟨A', n', c', e', h1, h2, h3⟩ := hr
      injection e' with e1 e2 e3
      subst e1; subst e2; subst e3
      have hkB : k < B.length := by omega
      obtain ⟨g, o, rfl, -, -, hc⟩ := h3 (by omega)
      have hck := hc k B[k] (List.getElem?_eq_getElem hkB)
      have hbk := HB.out B[k] (List.getElem_mem hkB)
      have HRT := Lib.hid (rd_take HG.out B k hkB hbk)
      have HTK := Lib.hid (HT.out _ _ _ HD.out (rd_lt HG.out _) hbk)
      rw [HRT.out] at HTK
      clear h1 h2 h3 hc HRT
      generalize B[k] = x at *
      go_wp2_with fail
      refine HTK.out.mono ?_; rintro e w2 ⟨rfl, hd2, ho2⟩
      have HD2 := Lib.hid hd2
      have HR2 := Lib.hid (HRD.out.only ho2.only)
      have HO2 := Lib.hid (HO.out.trans ho2)
      clear hd2 ho2
      go_wp2_with fail
      go_roundw
      case rel => exact ⟨k + 1, by omega, by go_num, HD2.out, HR2.out, HO2.out⟩
      case measure => simp [intOf]; omega
    · obtain rfl : k = n := by omega
      have hall : B.take k = B := by rw [← HN.out]; exact List.take_length ..
      have hd2 := HD.out
      rw [hall] at hd2
      have HD2 := Lib.hid hd2
      have hcr := hd2.cr
      clear hall hd2 HD hr
      go_wp2_with fail
      refine leaves_cons (f := 143) (args := #[.pointer (some ⟨b, 0, none⟩)]) (by simp) (by simp [go_sem]) ?_
      refine (reset_d b p d _ _ .returning _ HD2.out).mono ?_
      rintro e u' w'' ⟨rfl, rfl, rfl⟩
      exact ⟨_, results_tmp rfl _ _ _, rfl, HD2.out.setr 0, HO.out.trans (OnlyX.of_set _ _ _)⟩
end Go.Proofs.YtnpigefbdadjfaaDoor
