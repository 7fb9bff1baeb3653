/- The program's divider: its block of cells; timesX, take, reset, remainderOfBytes. -/
import Derived.Test.YtnpigefbdadjfaaDoorDvP
import Derived.Test.YtnpigefbdadjfaaDoorBk
import Derived.Test.YtnpigefbdadjfaaDoorErv
import Derived.Test.YtnpigefbdadjfaaDoorPl
import Derived.Laws.BitsAllLaws
import Derived.RegionTactic
import Derived.BigRegion
import Derived.Defers
namespace Go.Proofs.YtnpigefbdadjfaaDoor
open Go Go.RowKit
set_option linter.unusedVariables false

/-- A divider's cells. -/
def dvC (p d : Nat) (T : List Nat) (r : Nat) : List Value := Value.int .u64 (p : Int) :: Value.int .i64 (d : Int) :: (T.map (fun (x : Nat) => Value.int .u64 (x : Int)) ++ [.int .u64 (r : Int)])
theorem dvC_p (p d : Nat) (T : List Nat) (r : Nat) : (dvC p d T r)[0]? = some (.int .u64 (p : Int)) := rfl
theorem dvC_d (p d : Nat) (T : List Nat) (r : Nat) : (dvC p d T r)[1]? = some (.int .i64 (d : Int)) := rfl
theorem dvC_at (p d : Nat) (T : List Nat) (r a x : Nat) (h : T[a]? = some x) : (dvC p d T r)[2 + a]? = some (.int .u64 (x : Int)) := by
  have ha : a < T.length := by
    rcases Nat.lt_or_ge a T.length with h' | h'
    · exact h'
    · rw [List.getElem?_eq_none h'] at h; cases h
  show (Value.int .u64 (p : Int) :: Value.int .i64 (d : Int) :: (T.map (fun (x : Nat) => Value.int .u64 (x : Int)) ++ [.int .u64 (r : Int)]))[2 + a]? = _
  rw [show 2 + a = a + 1 + 1 by omega, List.getElem?_cons_succ, List.getElem?_cons_succ, List.getElem?_append_left (by simpa using ha), List.getElem?_map, h]; rfl
theorem dvC_r (p d : Nat) (T : List Nat) (r : Nat) (h : T.length = 256) : (dvC p d T r)[258]? = some (.int .u64 (r : Int)) := by
  show (Value.int .u64 (p : Int) :: Value.int .i64 (d : Int) :: (T.map (fun (x : Nat) => Value.int .u64 (x : Int)) ++ [.int .u64 (r : Int)]))[256 + 1 + 1]? = _
  rw [List.getElem?_cons_succ, List.getElem?_cons_succ, List.getElem?_append_right (by simp [h])]
  simp [h]
theorem dvC_len (p d : Nat) (T : List Nat) (r : Nat) (h : T.length = 256) : (dvC p d T r).length = 259 := by simp [dvC, h]
theorem dvC_setr (p d : Nat) (T : List Nat) (r x : Nat) (h : T.length = 256) : (dvC p d T r).set 258 (.int .u64 (x : Int)) = dvC p d T x := by
  show (Value.int .u64 (p : Int) :: Value.int .i64 (d : Int) :: (T.map (fun (x : Nat) => Value.int .u64 (x : Int)) ++ [.int .u64 (r : Int)])).set (256 + 1 + 1) _ = _
  rw [List.set_cons_succ, List.set_cons_succ, List.set_append_right _ _ (by simp [h])]
  simp [h, dvC]
theorem dvC_seta (p d : Nat) (T : List Nat) (r a x : Nat) (h : a < T.length) : (dvC p d T r).set (2 + a) (.int .u64 (x : Int)) = dvC p d (T.set a x) r := by
  show (Value.int .u64 (p : Int) :: Value.int .i64 (d : Int) :: (T.map (fun (x : Nat) => Value.int .u64 (x : Int)) ++ [.int .u64 (r : Int)])).set (2 + a) _ = _
  rw [show 2 + a = a + 1 + 1 by omega, List.set_cons_succ, List.set_cons_succ, List.set_append_left _ _ (by simpa using h)]
  unfold dvC
  rw [List.map_set]
/-- A divider in the block b. -/
def Dv (W : World) (b p d : Nat) (T : List Nat) (r : Nat) : Prop := Bk W b (dvC p d T r) ∧ T.length = 256
/-- Of what was there, only the block b has turned. -/
structure Only (b : Nat) (w w' : World) : Prop where
  os : w'.os = w.os
  tape : w'.tape = w.tape
  output : w'.output = w.output
  size : w.heap.size ≤ w'.heap.size
  block : ∀ k, k < w.heap.size → k ≠ b → w'.heap[k]? = w.heap[k]?
theorem Only.trans {b : Nat} {w w1 w2 : World} (h : Only b w w1) (k : Only b w1 w2) : Only b w w2 :=
  ⟨k.os.trans h.os, k.tape.trans h.tape, k.output.trans h.output, Nat.le_trans h.size k.size, fun j hj hn => (k.block j (Nat.lt_of_lt_of_le hj h.size) hn).trans (h.block j hj hn)⟩
theorem Only.of_below {b : Nat} {w w' : World} (hb : Below w.heap.size w w') : Only b w w' := ⟨hb.os, hb.tape, hb.output, hb.size, fun j hj _ => hb.block j hj⟩
theorem Only.of_set (b : Nat) (w : World) (j : Nat) (x : Value) : Only b w (w.setCell ⟨b, j, none⟩ x) :=
  ⟨rfl, rfl, rfl, by simp [World.setCell], fun k _ hn => Below.heap_setCell _ _ _ _ (fun h => hn h)⟩
theorem Only.below {b B : Nat} {w0 w w' : World} (h : Only b w w') (h0 : Below B w0 w) (hB : B ≤ b) (hs : B ≤ w.heap.size) : Below B w0 w' :=
  h0.trans ⟨h.os, h.tape, h.output, h.size, fun k hk => h.block k (by omega) (by omega)⟩
theorem Dv.keep {W W' : World} {b p d r : Nat} {T : List Nat} (h : Dv W b p d T r) (hb : Below W.heap.size W W') : Dv W' b p d T r := ⟨h.1.keep hb, h.2⟩
theorem Dv.lt {W : World} {b p d r : Nat} {T : List Nat} (h : Dv W b p d T r) : b < W.heap.size := h.1.2.2
theorem Dv.cp {W : World} {b p d r : Nat} {T : List Nat} (h : Dv W b p d T r) : W.cell? ⟨b, 0, none⟩ = some (.int .u64 (p : Int)) := h.1.c 0 _ (dvC_p ..)
theorem Dv.cd {W : World} {b p d r : Nat} {T : List Nat} (h : Dv W b p d T r) : W.cell? ⟨b, 1, none⟩ = some (.int .i64 (d : Int)) := h.1.c 1 _ (dvC_d ..)
theorem Dv.ca {W : World} {b p d r a x : Nat} {T : List Nat} (h : Dv W b p d T r) (hx : T[a]? = some x) : W.cell? ⟨b, 2 + a, none⟩ = some (.int .u64 (x : Int)) := h.1.c _ _ (dvC_at _ _ _ _ _ _ hx)
theorem Dv.cr {W : World} {b p d r : Nat} {T : List Nat} (h : Dv W b p d T r) : W.cell? ⟨b, 258, none⟩ = some (.int .u64 (r : Int)) := h.1.c _ _ (dvC_r _ _ _ _ h.2)
theorem Dv.f {W : World} {b p d r : Nat} {T : List Nat} (h : Dv W b p d T r) (i : Nat) (hi : i < 259) : W.frozen? ⟨b, i, none⟩ = false := h.1.f i (by rw [dvC_len _ _ _ _ h.2]; exact hi)
theorem Dv.setr {W : World} {b p d r : Nat} {T : List Nat} (h : Dv W b p d T r) (x : Nat) : Dv (W.setCell ⟨b, 258, none⟩ (.int .u64 (x : Int))) b p d T x := by
  have := h.1.set 258 (by rw [dvC_len _ _ _ _ h.2]; omega) (.int .u64 (x : Int))
  rw [dvC_setr _ _ _ _ _ h.2] at this
  exact ⟨this, h.2⟩
theorem Dv.seta {W : World} {b p d r : Nat} {T : List Nat} (h : Dv W b p d T r) (a x : Nat) (ha : a < 256) : Dv (W.setCell ⟨b, 2 + a, none⟩ (.int .u64 (x : Int))) b p d (T.set a x) r := by
  have := h.1.set (2 + a) (by rw [dvC_len _ _ _ _ h.2]; omega) (.int .u64 (x : Int))
  rw [dvC_seta _ _ _ _ _ _ (by rw [h.2]; exact ha)] at this
  exact ⟨this, by rw [List.length_set]; exact h.2⟩

theorem u64_w (x : Nat) (h : x < 18446744073709551616) : IntKind.u64.wrap (x : Int) = (x : Int) := by
  rw [show IntKind.u64.wrap (x : Int) = (x : Int) % 18446744073709551616 by simp [IntKind.wrap, IntKind.bits, IntKind.signed]]
  omega
set_option maxHeartbeats 400000 in
theorem timesX_any (b p d : Nat) (T : List Nat) (r x : Nat) (W : World) (hd : Dv W b p d T r) (hg : Deg p d) (h16 : d ≤ 16) (hx : x < 2 ^ d) :
    Calls Tryd.prog 107 #[.pointer (some ⟨b, 0, none⟩), .int .u64 (x : Int)] W fun e W' => e = .returned (.int .u64 ((nxR p d x 0 : Nat) : Int)) ∧ W = W' := by
  have hcp := hd.cp
  have hcd := hd.cd
  rw [nxR_shift hx]
  have h2 : 2 ^ d ≤ 65536 := Nat.pow_le_pow_right (by omega) h16
  have hp2 : p < 131072 := by have := hg.hi; rw [Nat.pow_succ] at this; omega
  have hx2 : 2 * x < 131072 := by omega
  obtain ⟨Y, hY⟩ : ∃ Y, Y = 2 * x := ⟨_, rfl⟩
  rw [← hY] at hx2 ⊢
  have hw : IntKind.u64.wrap ((x : Int) * 2) = (Y : Int) := by rw [hY]; have := u64_w (2 * x) (by omega); rw [← this]; congr 1; omega
  have hxor : bits .xor .u64 (Y : Int) (p : Int) = ((Y ^^^ p : Nat) : Int) := u64_xor_nat _ _ (by omega) (by omega)
  have hd0 : (0 : Int) ≤ (d : Int) := by omega
  obtain ⟨q, hq1⟩ : ∃ q, q = Y / 2 ^ d := ⟨_, rfl⟩
  have hq : (Y : Int) / 2 ^ d = (q : Int) := by rw [hq1, Int.natCast_ediv]; congr 1
  have hm : min d 64 = d := by omega
  rw [← hq1]
  clear hd hg h2 hx hY hp2 hx2 hq1 h16
  by_cases h : q = 1
  · subst h
    rw [if_pos rfl]
    rw [show ((1 : Nat) : Int) = 1 from rfl] at hq
    go_enter Tryd.func107, Tryd.ntmps107
    go_wp2_with fail
    go_ret
    exact ⟨rfl, rfl⟩
  · rw [if_neg h]
    have hn : ((q : Int) == 1) = false := by simpa using (show ¬ (q : Int) = 1 by omega)
    clear hxor h
    go_enter Tryd.func107, Tryd.ntmps107
    go_wp2_with fail
    go_ret
    exact ⟨rfl, rfl⟩
set_option maxHeartbeats 1000000 in
theorem take_any (b p d : Nat) (r e : Nat) (W : World) (hd : Dv W b p d (tlA p d) r) (hg : Deg p d) (h16 : d ≤ 16) (hr : r < 2 ^ d) (he : e < 256) :
    Calls Tryd.prog 144 #[.pointer (some ⟨b, 0, none⟩), .int .u8 (e : Int)] W fun o W' => o = .returned (.tuple #[]) ∧ Dv W' b p d (tlA p d) (rd p d (r * 256 + e)) ∧ Only b W W' := by
  have hcd := hd.cd
  have hcr := hd.cr
  have hf := hd.f 258 (by omega)
  have hab := above_lt (d := d) r e hr he
  have hca := hd.ca (tlA_at p d _ hab)
  have htk := take_byte hg r e hr he
  have h2 : 2 ^ d ≤ 65536 := Nat.pow_le_pow_right (by omega) h16
  have hp2 : p < 131072 := by have := hg.hi; rw [Nat.pow_succ] at this; omega
  have htl := tbl_lt hg ((r * 256 + e) / 2 ^ d)
  have hsh : (r * 256 + e) / 2 ^ d * 2 ^ d ≤ r * 256 + e := Nat.div_mul_le_self _ _
  have e1 : IntKind.u64.wrap ((r : Int) * 256) = ((r * 256 : Nat) : Int) := by have := u64_w (r * 256) (by omega); rw [← this]; congr 1
  have e2 : bits .or .u64 ((r * 256 : Nat) : Int) (e : Int) = ((r * 256 + e : Nat) : Int) := by
    rw [u64_or_nat _ _ (by omega) (by omega)]
    congr 1
    have := Nat.two_pow_add_eq_or_of_lt (show e < 2 ^ 8 by omega) r
    rw [Nat.mul_comm r 256, ← this]
  have e0 : IntKind.u64.wrap (e : Int) = (e : Int) := u64_w e (by omega)
  obtain ⟨L, hL⟩ : ∃ L, L = r * 256 + e := ⟨_, rfl⟩
  obtain ⟨R, hR⟩ : ∃ R, R = r * 256 := ⟨_, rfl⟩
  have hLb : L < 33554432 := by omega
  rw [← hL] at e2 hab hca htk htl hsh
  rw [← hR] at e1 e2
  obtain ⟨A, hA⟩ : ∃ A, A = L / 2 ^ d := ⟨_, rfl⟩
  rw [← hA] at hab hca htk htl hsh
  have e3 : (L : Int) / 2 ^ d = (A : Int) := by rw [hA, Int.natCast_ediv]; congr 1
  obtain ⟨S, hS⟩ : ∃ S, S = A * 2 ^ d := ⟨_, rfl⟩
  rw [← hS] at htk hsh
  have e4 : IntKind.u64.wrap ((A : Int) * 2 ^ d) = (S : Int) := by
    have := u64_w S (by omega)
    rw [← this]
    congr 1
    rw [hS, Int.natCast_mul]; rfl
  have e5 : bits .xor .u64 (L : Int) (S : Int) = ((L ^^^ S : Nat) : Int) := u64_xor_nat _ _ (by omega) (by omega)
  have hls : L ^^^ S < 2 ^ 25 := Nat.xor_lt_two_pow (by omega) (by omega)
  obtain ⟨Z, hZ⟩ : ∃ Z, Z = L ^^^ S := ⟨_, rfl⟩
  rw [← hZ] at e5 hls htk
  have e6 : bits .xor .u64 (Z : Int) ((tbl p d A : Nat) : Int) = ((rd p d L : Nat) : Int) := by rw [u64_xor_nat _ _ (by omega) (by omega), htk]
  have hA0 : (0 : Int) ≤ (A : Int) := by omega
  have hA1 : (A : Int) < 256 := by omega
  have hd0 : (0 : Int) ≤ (d : Int) := by omega
  have hm : min d 64 = d := by omega
  rw [← hL]
  have HD := Lib.hid (hd.setr (rd p d L))
  have HD2 := Lib.hid (fun x => Only.of_set b W 258 x)
  generalize rd p d L = X at *
  generalize tbl p d A = Y at *
  clear hg h16 hr he h2 hp2 htl hsh hL hR hA hS hZ hls htk hLb hd
  go_enter Tryd.func144, Tryd.ntmps144
  go_wp2_with fail
  go_region
  all_goals
    go_wp2_with fail
    go_end0
    exact ⟨rfl, HD.out.keep (Below.refl _ _).drew, (HD2.out _).trans (Only.of_below (Below.refl _ _).drew)⟩
set_option maxHeartbeats 400000 in
theorem reset_d (b p d : Nat) (T : List Nat) (r : Nat) (u : FrameMode) (W : World) (hd : Dv W b p d T r) :
    CallsD Tryd.prog 143 #[.pointer (some ⟨b, 0, none⟩)] u W fun e u' W' => u' = u ∧ (e = .returned (.tuple #[]) ∧ W' = W.setCell ⟨b, 258, none⟩ (.int .u64 0)) := by
  have hcr := hd.cr
  have hf := hd.f 258 (by omega)
  clear hd
  go_enter_d Tryd.func143, Tryd.ntmps143
  go_wp2
  go_end0
  first | exact ⟨rfl, rfl, rfl⟩ | exact ⟨rfl, rfl⟩ | rfl
/-- A row of bytes that is read, not in the block b. -/
def RdU (b : Nat) (W : World) (v : Value) (B : List Nat) : Prop :=
  ∃ (A : Option Addr) (n c : Nat), v = .slice A n c ∧ B.length = n ∧ n ≤ maxLen ∧
    (0 < n → ∃ g o, A = some ⟨g, o, none⟩ ∧ g ≠ b ∧ g < W.heap.size ∧ ∀ (i x : Nat), B[i]? = some x → W.cell? ⟨g, o + i, none⟩ = some (.int .u8 (x : Int)))
theorem RdU.only {b : Nat} {W W' : World} {v : Value} {B : List Nat} (h : RdU b W v B) (ho : Only b W W') : RdU b W' v B := by
  obtain ⟨A, n, c, e, h1, h2, h3⟩ := h
  refine ⟨A, n, c, e, h1, h2, fun h0 => ?_⟩
  obtain ⟨g, o, ea, hn, hl, hc⟩ := h3 h0
  exact ⟨g, o, ea, hn, Nat.lt_of_lt_of_le hl ho.size, fun i x hx => (World.cell?_of_block (w := W) (ho.block g hl hn)).trans (hc i x hx)⟩
theorem vb_snoc (B : List Nat) (x a : Nat) : vb (B ++ [x]) a = vb B a * 256 + x := by unfold vb; rw [List.foldl_append]; rfl
theorem rd_take {p d : Nat} (hg : Deg p d) (B : List Nat) (k : Nat) (hk : k < B.length) (hB : B[k] < 256) : rd p d (rd p d (vb (B.take k) 0) * 256 + B[k]) = rd p d (vb (B.take (k + 1)) 0) := by
  have e : B.take (k + 1) = B.take k ++ [B[k]] := by rw [List.take_add_one]; simp [hk]
  rw [e, vb_snoc]
  exact rd_shift hg _ 8 _ hB
set_option maxHeartbeats 1000000 in
theorem rob_any (b p d : Nat) (v : Value) (B : List Nat) (W : World) (hd : Dv W b p d (tlA p d) 0) (hr : RdU b W v B) (hB : ∀ x ∈ B, x < 256) (hg : Deg p d) (h16 : d ≤ 16) :
    Calls Tryd.prog 108 #[.pointer (some ⟨b, 0, none⟩), v] W fun o W' => o = .returned (.int .u64 ((rd p d (vb B 0) : Nat) : Int)) ∧ Dv W' b p d (tlA p d) 0 ∧ Only b W W' := by
  obtain ⟨A, n, c, rfl, hn, hm, hrd⟩ := hr
  have HR0 : Hid (RdU b W (.slice A n c) B) := ⟨A, n, c, rfl, hn, hm, hrd⟩
  have HN := Lib.hid hn
  have HB := Lib.hid hB
  have HG := Lib.hid hg
  have HD0 : Hid (Dv W b p d (tlA p d) (rd p d (vb (B.take 0) 0))) := by show Dv _ _ _ _ _ _; rw [List.take_zero, show vb [] 0 = 0 from rfl, rd_zero]; exact hd
  have HT := Lib.hid (fun r e W hd hr he => take_any b p d r e W hd hg h16 hr he)
  have hn2 : n ≤ 9223372036854775807 := by unfold maxLen at hm; omega
  clear hrd hn hm hB hg hd h16
  go_enter_defers Tryd.func108, Tryd.ntmps108
  go_wp2_with fail
  go_loopw [6, 10] (fun _ i wr => ∃ k : Nat, k ≤ n ∧ i = .int .i64 k ∧ Dv wr b p d (tlA p d) (rd p d (vb (B.take k) 0)) ∧ RdU b wr (.slice A n c) B ∧ Only b W wr) (fun _ i _ => n - (intOf i).toNat)
  case atStart => exact ⟨0, Nat.zero_le _, rfl, HD0.out, HR0.out, Only.of_below (Below.refl _ _)⟩
  case round =>
    obtain ⟨k, hk, rfl, hd, hr, ho⟩ := hrel
    have HD := Lib.hid hd
    have HRD := Lib.hid hr
    have HO := Lib.hid ho
    clear hd ho HD0 HR0
    by_cases hlt : k < n
    · have hk0 : (0 : Int) ≤ (k : Int) := by omega
      have hk1 : (k : Int) < (n : Int) := by omega
      obtain ⟨A', n', c', e', h1, h2, h3⟩ := hr
      injection e' with e1 e2 e3
      subst e1; subst e2; subst e3
      have hkB : k < B.length := by omega
      obtain ⟨g, o, rfl, -, -, hc⟩ := h3 (by omega)
      have hck := hc k B[k] (List.getElem?_eq_getElem hkB)
      have hbk := HB.out B[k] (List.getElem_mem hkB)
      have HRT := Lib.hid (rd_take HG.out B k hkB hbk)
      have HTK := Lib.hid (HT.out _ _ _ HD.out (rd_lt HG.out _) hbk)
      rw [HRT.out] at HTK
      clear h1 h2 h3 hc HRT
      generalize B[k] = x at *
      go_wp2_with fail
      refine HTK.out.mono ?_; rintro e w2 ⟨rfl, hd2, ho2⟩
      have HD2 := Lib.hid hd2
      have HR2 := Lib.hid (HRD.out.only ho2)
      have HO2 := Lib.hid (HO.out.trans ho2)
      clear hd2 ho2
      go_wp2_with fail
      go_roundw
      case rel => exact ⟨k + 1, by omega, by go_num, HD2.out, HR2.out, HO2.out⟩
      case measure => simp [intOf]; omega
    · obtain rfl : k = n := by omega
      have hall : B.take k = B := by rw [← HN.out]; exact List.take_length ..
      have hd2 := HD.out
      rw [hall] at hd2
      have HD2 := Lib.hid hd2
      have hcr := hd2.cr
      clear hall hd2 HD hr
      go_wp2_with fail
      refine leaves_cons (f := 143) (args := #[.pointer (some ⟨b, 0, none⟩)]) (by simp) (by simp [go_sem]) ?_
      refine (reset_d b p d _ _ .returning _ HD2.out).mono ?_
      rintro e u' w'' ⟨rfl, rfl, rfl⟩
      exact ⟨_, results_tmp rfl _ _ _, rfl, HD2.out.setr 0, HO.out.trans (Only.of_set _ _ _ _)⟩
end Go.Proofs.YtnpigefbdadjfaaDoor
