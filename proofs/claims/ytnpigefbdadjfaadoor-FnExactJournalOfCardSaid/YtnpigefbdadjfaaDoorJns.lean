/- The model's JournalOf. -/
import Derived.Test.YtnpigefbdadjfaaDoorJrP
import Derived.Test.YtnpigefbdadjfaaDoorRs
import Derived.Test.YtnpigefbdadjfaaDoorDecS
import Derived.Deep.RegionHeld3
import Derived.Laws.Concat
namespace Go.Proofs.YtnpigefbdadjfaaDoor
open Go Go.RowKit
set_option linter.unusedVariables false

/-- Texts as lists of bytes. -/
def tl (fs : List ByteArray) : List (List UInt8) := fs.map fun s => s.data.toList
theorem tl_len (fs : List ByteArray) : (tl fs).length = fs.length := by simp [tl]
theorem tl_take (fs : List ByteArray) (k : Nat) (h : k < fs.length) : (tl fs).take (k + 1) = (tl fs).take k ++ [fs[k].data.toList] := by
  rw [List.take_succ_eq_append_getElem (by rw [tl_len]; exact h)]; simp [tl]
theorem add_listsJ (W : World) (A B : List UInt8) (h : A.length + B.length ≤ 9223372036854775807) : (Op.stringOp .add ⟨A.toArray⟩ ⟨B.toArray⟩).run Tryd.prog W = .ok (.string ⟨(A ++ B).toArray⟩) W := by
  have := run_string_add_sum (P := Tryd.prog) W ⟨A.toArray⟩ ⟨B.toArray⟩ (by simp only [ByteArray.size, List.size_toArray]; omega)
  rwa [show (⟨A.toArray⟩ ++ ⟨B.toArray⟩ : ByteArray) = ⟨(A ++ B).toArray⟩ from by apply ByteArray.ext; simp] at this
theorem ba_etaJ (G : ByteArray) : (⟨G.data.toList.toArray⟩ : ByteArray) = G := by cases G; rfl
theorem jnl_le : ∀ (ls : List (List UInt8)) (n : Int), 0 ≤ n → n ≤ 65002 → (jnl n ls).length ≤ (ls.map fun l => l.length + 21).sum
  | [], n, _, _ => Nat.le_refl _
  | l :: ls, n, h0, h1 => by
    have hb := chk_bd n l h0 h1
    have h2 := jnl_le ls (chk n l) hb.1 hb.2
    have h3 := (ent_len h0 h1 l).2
    show (ent n l ++ 10 :: jnl (chk n l) ls).length ≤ l.length + 21 + (ls.map fun l => l.length + 21).sum
    rw [List.length_append, List.length_cons]; omega
def tot3 (ls : List (List UInt8)) : Nat := (ls.map fun l => l.length + 3).sum
theorem tot3_len (ls : List (List UInt8)) : 3 * ls.length ≤ tot3 ls := by
  unfold tot3
  induction ls with
  | nil => exact Nat.le_refl _
  | cons l ls ih => rw [List.map_cons, List.sum_cons, List.length_cons]; omega
theorem tot3_21 (ls : List (List UInt8)) : (ls.map fun l => l.length + 21).sum = tot3 ls + 18 * ls.length := by
  unfold tot3
  induction ls with
  | nil => rfl
  | cons l ls ih => rw [List.map_cons, List.sum_cons, List.map_cons, List.sum_cons, List.length_cons, ih]; omega
theorem tot3_take (ls : List (List UInt8)) (k : Nat) : tot3 (ls.take k) ≤ tot3 ls := by
  unfold tot3
  conv => rhs; rw [← List.take_append_drop k ls]
  rw [List.map_append, List.sum_append]; omega
theorem jnl_small {ls : List (List UInt8)} (h : tot3 ls ≤ 4000) (k : Nat) : (jnl 0 (ls.take k)).length ≤ 28100 := by
  have h1 := jnl_le (ls.take k) 0 (by decide) (by decide)
  have h2 := tot3_take ls k
  have h3 := tot3_len (ls.take k)
  rw [tot3_21] at h1; omega
theorem tot3_snoc (ls : List (List UInt8)) (l : List UInt8) : tot3 (ls ++ [l]) = tot3 ls + (l.length + 3) := by
  unfold tot3; rw [List.map_append, List.sum_append]; rfl
set_option maxRecDepth 100000 in
set_option maxHeartbeats 2000000 in
theorem l11Journal_any (w : World) (v : Value) (fs : List ByteArray) (h : RdS w v fs) (hs : tot3 (tl fs) ≤ 4000) :
    Calls Tryd.prog 84 #[v] w fun e w' => e = .returned (.string ⟨(jnl 0 (tl fs)).toArray⟩) ∧ Below w.heap.size w w' := by
  have hlen := h.len
  obtain ⟨A, n, c, rfl, hn, -, -, hr⟩ := h
  have HR := Lib.hid hr
  have HN := Lib.hid hn
  have hn4 : n ≤ 1400 := by have := tot3_len (tl fs); rw [tl_len] at this; omega
  have HSM := Lib.hid (fun k => jnl_small hs k)
  have HSZ : Hid (∀ k (hk : k < fs.length), fs[k].size ≤ 4000) := by
    show ∀ k (hk : k < fs.length), _
    intro k hk
    have h1 := tot3_take (tl fs) (k + 1)
    rw [tl_take fs k hk, tot3_snoc] at h1
    have : fs[k].data.toList.length = fs[k].size := rfl
    omega
  have HT : Hid ((tl fs).take n = tl fs) := by show _ = _; rw [List.take_of_length_le (by rw [tl_len]; omega)]
  have HTK := Lib.hid (fun k (hk : k < fs.length) => tl_take fs k hk)
  clear hr hn hs hlen
  go_enter Tryd.func84, Tryd.ntmps84
  go_wp2_with fail
  go_loopw [3, 4, 5] (fun t x i wr => ∃ k : Nat, k ≤ n ∧ i = .int .i64 k ∧ x = .int .i64 (chs 0 ((tl fs).take k)) ∧ t = .string ⟨(jnl 0 ((tl fs).take k)).toArray⟩ ∧ Below w.heap.size w wr) (fun _ _ i _ => n - (intOf i).toNat)
  case atStart => exact ⟨0, Nat.zero_le _, rfl, rfl, rfl, Below.refl _ _⟩
  case round =>
    obtain ⟨k, hk, rfl, rfl, rfl, hb⟩ := hrel
    by_cases hlt : k < n
    · obtain ⟨b, o, rfl, hb0, hcA⟩ := HR.out (by omega)
      have hkl : k < fs.length := by have := HN.out; omega
      have HSL0 := Lib.hid (fun W (hW : Below w.heap.size w W) => (hW.cell (p := ⟨b, o + k, none⟩) hb0).trans (hcA k hkl))
      have hc := (hb.cell (p := ⟨b, o + k, none⟩) hb0).trans (hcA k hkl)
      clear hcA
      have htk := HTK.out k hkl
      have hsz := HSZ.out k hkl
      have hsm := HSM.out k
      have hbd := chs_bd ((tl fs).take k) 0 (by decide) (by decide)
      have hj : jnl 0 ((tl fs).take (k + 1)) = jnl 0 ((tl fs).take k) ++ (ent (chs 0 ((tl fs).take k)) fs[k].data.toList ++ [10]) := by rw [htk, jnl_snoc]
      have hch : chs 0 ((tl fs).take (k + 1)) = chk (chs 0 ((tl fs).take k)) fs[k].data.toList := by rw [htk, chs_snoc]
      have HJ := Lib.hid hj
      have HC := Lib.hid hch
      obtain ⟨s, hs⟩ : ∃ s, s = fs[k] := ⟨_, rfl⟩
      rw [← hs] at hc hsz HJ HC HSL0
      have HSL : Hid (∀ W, Below w.heap.size w W → W.cell? ⟨b, o + k, none⟩ = some (.string s)) := HSL0.out
      clear HSL0
      have HB := Lib.hid hb
      clear htk hj hch hs hb
      generalize jnl 0 ((tl fs).take k) = J at *
      generalize chs 0 ((tl fs).take k) = x at *
      have hm := chk_bd x s.data.toList hbd.1 hbd.2
      have hil := itoa_len1 (chk x s.data.toList) hm.1 hm.2
      have HCK := Lib.hid (fun W => l01Check_any x s W hbd.1 hbd.2 (by unfold maxLen; omega))
      have hsl : s.data.toList.length = s.size := rfl
      have HEN : Hid (ent x s.data.toList = Lib.itoa (chk x s.data.toList) ++ [32] ++ s.data.toList) := by
        show _ = _
        unfold ent; simp
      obtain ⟨m, hm0⟩ : ∃ m, m = chk x s.data.toList := ⟨_, rfl⟩
      rw [← hm0] at hm hil HCK HC HEN
      have HDC := Lib.hid (fun W => dec_any m (by omega) (by omega) W)
      obtain ⟨D, hD⟩ : ∃ D, D = Lib.itoa m := ⟨_, rfl⟩
      rw [← hD] at hil HDC HEN
      obtain ⟨sl, hsl2⟩ : ∃ sl, sl = s.data.toList := ⟨_, rfl⟩
      have hse : s = ⟨sl.toArray⟩ := by rw [hsl2]
      rw [← hsl2] at hsl HJ HEN
      obtain ⟨T0, hT0⟩ : ∃ T : ByteArray, T = ⟨D.toArray⟩ := ⟨_, rfl⟩
      obtain ⟨T1, hT1⟩ : ∃ T : ByteArray, T = ⟨(D ++ [32]).toArray⟩ := ⟨_, rfl⟩
      obtain ⟨T2, hT2⟩ : ∃ T : ByteArray, T = ⟨(D ++ [32] ++ sl).toArray⟩ := ⟨_, rfl⟩
      obtain ⟨T3, hT3⟩ : ∃ T : ByteArray, T = ⟨(D ++ [32] ++ sl ++ [10]).toArray⟩ := ⟨_, rfl⟩
      obtain ⟨T4, hT4⟩ : ∃ T : ByteArray, T = ⟨(J ++ (D ++ [32] ++ sl ++ [10])).toArray⟩ := ⟨_, rfl⟩
      obtain ⟨TJ, hTJ⟩ : ∃ T : ByteArray, T = ⟨J.toArray⟩ := ⟨_, rfl⟩
      have r1 : ∀ W : World, (Op.stringOp .add T0 ⟨#[32]⟩).run Tryd.prog W = .ok (.string T1) W := fun W => by rw [hT0, hT1]; exact add_listsJ W D [32] (by simp; omega)
      have r2 : ∀ W : World, (Op.stringOp .add T1 s).run Tryd.prog W = .ok (.string T2) W := fun W => by rw [hT1, hT2, hse]; exact add_listsJ W _ sl (by simp; omega)
      have r3 : ∀ W : World, (Op.stringOp .add T2 ⟨#[10]⟩).run Tryd.prog W = .ok (.string T3) W := fun W => by rw [hT2, hT3]; exact add_listsJ W _ [10] (by simp; omega)
      have r4 : ∀ W : World, (Op.stringOp .add TJ T3).run Tryd.prog W = .ok (.string T4) W := fun W => by rw [hTJ, hT3, hT4]; exact add_listsJ W _ _ (by simp; omega)
      have HR4 : Hid (T4 = ⟨(jnl 0 ((tl fs).take (k + 1))).toArray⟩) := by
        show _ = _
        rw [hT4, HJ.out, HEN.out]
      rw [← hT0] at HDC
      rw [← hTJ]
      have i0 : (0 : Int) ≤ (k : Int) := by omega
      have i1 : (k : Int) < (n : Int) := by omega
      have wk : IntKind.i64.wrap ((k : Int) + 1) = (k : Int) + 1 := IntWalk.i64_in _ (by omega)
      have B6 := Lib.hid HB.out.drew
      have HCL : Hid (∀ W, Below w.heap.size w W → W.cell? ⟨b, o + k, none⟩ = some (.string s)) := by
        show ∀ W, _
        intro W hW
        exact HSL.out W hW
      clear hT0 hT1 hT2 hT3 hT4 hTJ hse hsl2 hD hm0 hm hil hsl hsm hsz hbd HJ HEN
      go_wp2_with fail
      refine (HCK.out _).mono ?_; rintro e w' ⟨rfl, rfl⟩
      go_wp2_with fail
      go_region_held3 (fun w' => w'.cell? ⟨b, o + k, none⟩ = some (.string s)) ((first | with_reducible assumption | with_reducible exact Hid.out HCL _ B7.out | with_reducible exact Hid.out HCL _ B6.out | fail))
        (first
          | (go_at_call 91; refine (HDC.out _).mono ?_; rintro e u7 ⟨rfl, hb7⟩; have B7 := Lib.hid (B6.out.trans (hb7.mono B6.out.size)); clear hb7)
          | fail)
      all_goals go_wp2_with fail
      all_goals go_roundw
      all_goals first
        | (case rel => exact ⟨k + 1, by omega, by go_num, by rw [HC.out], by rw [HR4.out], B7.out⟩)
        | (case measure => simp [intOf]; omega)
    · obtain rfl : n = k := by omega
      have hnl : ¬ (n : Int) < (n : Int) := by omega
      rw [HT.out]
      have HB := Lib.hid hb
      clear hb
      go_wp2_with fail
      go_ret
      exact ⟨rfl, HB.out⟩
theorem ret_sbJ {a c : ByteArray} {b d : Bool} (h : b = d ∧ a = c) : Ending.returned (.tuple #[.string c, .bool d]) = .returned (.tuple #[.string a, .bool b]) := by rw [h.1, h.2]
def jnB (fs : List ByteArray) : ByteArray := ⟨(jnV (tl fs)).toArray⟩
theorem jn_ret {fs : List ByteArray} (h : jnOk (tl fs) = false) : jnOk (tl fs) = false ∧ jnB fs = ⟨#[]⟩ := ⟨h, by unfold jnB; rw [jn_none h]⟩
theorem jn_ret_ok {fs : List ByteArray} (h : jnOk (tl fs) = true) : jnOk (tl fs) = true ∧ jnB fs = ⟨(jnl 0 (tl fs)).toArray⟩ := ⟨h, by unfold jnB; rw [jn_some h]⟩
theorem tl_mem {fs : List ByteArray} {k : Nat} (h : k < fs.length) : fs[k].data.toList ∈ tl fs := by
  unfold tl; rw [List.mem_map]; exact ⟨fs[k], List.getElem_mem h, rfl⟩
theorem tl_all {fs : List ByteArray} (h : ∀ j (hj : j < fs.length), ∀ c ∈ fs[j].data.toList, c ≠ 10) : ∀ l ∈ tl fs, ∀ c ∈ l, c ≠ 10 := by
  intro l hl
  unfold tl at hl
  rw [List.mem_map] at hl
  obtain ⟨s, hs, rfl⟩ := hl
  obtain ⟨j, hj, rfl⟩ := List.getElem_of_mem hs
  exact h j hj
theorem no10_all (s : ByteArray) (h : ∀ i (hi : i < s.size), s[i] ≠ 10) : ∀ c ∈ s.data.toList, c ≠ 10 := by
  intro c hc
  obtain ⟨i, hi, rfl⟩ := List.getElem_of_mem hc
  have := h i hi
  rw [Array.getElem_toList]; exact this
theorem byte10 {c : UInt8} (h : (c.toNat : Int) = 10) : c = 10 := UInt8.toNat_inj.1 (by simpa using (by omega : c.toNat = 10))
set_option maxRecDepth 100000 in
set_option maxHeartbeats 2000000 in
theorem journal_spec (w : World) (v : Value) (fs : List ByteArray) (h : RdS w v fs) (hm : ∀ s ∈ fs, s.size ≤ 4000000) (hl : fs.length ≤ 4000000) :
    Calls Tryd.prog 35 #[v] w fun e w' => e = .returned (.tuple #[.string (jnB fs), .bool (jnOk (tl fs))]) ∧ Below w.heap.size w w' := by
  have h' := h
  obtain ⟨A, n, c, rfl, hn, -, -, hr⟩ := h
  have HRD := Lib.hid h'
  have HR := Lib.hid hr
  have HN := Lib.hid hn
  have HM := Lib.hid (fun k (hk : k < fs.length) => hm _ (List.getElem_mem hk))
  have HTK := Lib.hid (fun k (hk : k < fs.length) => tl_take fs k hk)
  have hn4 : n ≤ 4000000 := by omega
  clear hr hn hm h'
  obtain ⟨V, hV⟩ : ∃ V, V = jnB fs := ⟨_, rfl⟩
  obtain ⟨OK, hOK⟩ : ∃ OK, OK = jnOk (tl fs) := ⟨_, rfl⟩
  rw [← hV, ← hOK]
  have HNO : Hid (jnOk (tl fs) = false → OK = false ∧ V = ⟨#[]⟩) := by
    show _ → _
    intro h; rw [hV, hOK]; exact jn_ret h
  have HYES : Hid (jnOk (tl fs) = true → OK = true ∧ V = ⟨(jnl 0 (tl fs)).toArray⟩) := by
    show _ → _
    intro h; rw [hV, hOK]; exact jn_ret_ok h
  clear hV hOK
  go_enter Tryd.func35, Tryd.ntmps35
  go_wp2_with fail
  go_loopw [4, 5] (fun x i wr => ∃ k : Nat, k ≤ n ∧ i = .int .i64 k ∧ x = .int .i64 ((tot3 ((tl fs).take k) : Nat) : Int) ∧ (tot3 ((tl fs).take k) ≤ 4000 ∧ ∀ j (hj : j < fs.length), j < k → ∀ c ∈ fs[j].data.toList, c ≠ 10) ∧ w = wr) (fun _ i _ => n - (intOf i).toNat)
  case atStart => exact ⟨0, Nat.zero_le _, rfl, rfl, ⟨Nat.zero_le _, fun j _ h => by omega⟩, rfl⟩
  case round =>
    obtain ⟨k, hk, rfl, rfl, ⟨htot, hall⟩, rfl⟩ := hrel
    have HA := Lib.hid hall
    clear hall
    by_cases hlt : k < n
    · obtain ⟨b, o, rfl, hb0, hcA⟩ := HR.out (by omega)
      have hkl : k < fs.length := by have := HN.out; omega
      have hc := hcA k hkl
      clear hcA
      have htk := HTK.out k hkl
      have hsz := HM.out k hkl
      have ht2 : tot3 ((tl fs).take (k + 1)) = tot3 ((tl fs).take k) + (fs[k].size + 3) := by rw [htk, tot3_snoc]; rfl
      have HT2 := Lib.hid ht2
      have hbig : 4000 < tot3 ((tl fs).take k) + (fs[k].size + 3) → jnOk (tl fs) = false := by
        intro hb
        rw [← ht2] at hb
        have h1 := tot3_take (tl fs) (k + 1)
        have h2 := jnl_ge (tl fs) 0 (by decide) (by decide)
        exact jn_long (by unfold tot3 at h1 hb; omega)
      have HBIG := Lib.hid hbig
      have HNL : Hid (10 ∈ fs[k].data.toList → jnOk (tl fs) = false) := by
        show _ → _
        intro h; exact jn_nl ⟨_, tl_mem hkl, h⟩
      have HNX : Hid ((∀ i (hi : i < fs[k].size), fs[k][i] ≠ 10) → ∀ j (hj : j < fs.length), j < k + 1 → ∀ c ∈ fs[j].data.toList, c ≠ 10) := by
        show _ → _
        intro h j hj hjk
        rcases Nat.lt_or_ge j k with h1 | h1
        · exact HA.out j hj h1
        · obtain rfl : j = k := by omega
          exact no10_all _ h
      clear htk ht2 hbig
      obtain ⟨s, hs⟩ : ∃ s, s = fs[k] := ⟨_, rfl⟩
      rw [← hs] at hc hsz HT2 HBIG HNL HNX
      clear hs
      obtain ⟨x, hx⟩ : ∃ x, x = tot3 ((tl fs).take k) := ⟨_, rfl⟩
      rw [← hx] at htot HT2 HBIG ⊢
      clear hx
      have i0 : (0 : Int) ≤ (k : Int) := by omega
      have i1 : (k : Int) < (n : Int) := by omega
      obtain ⟨y, hy⟩ : ∃ y : Nat, y = s.size + 3 := ⟨_, rfl⟩
      obtain ⟨z, hz⟩ : ∃ z : Nat, z = x + y := ⟨_, rfl⟩
      rw [← hy, ← hz] at HT2 HBIG
      have w3 : IntKind.i64.wrap ((s.size : Int) + 3) = (y : Int) := by rw [IntWalk.i64_in _ (by omega)]; omega
      have w4 : IntKind.i64.wrap ((x : Int) + (y : Int)) = (z : Int) := by rw [IntWalk.i64_in _ (by omega)]; omega
      have w5 : (x : Int) + (y : Int) = (z : Int) := by omega
      have w6 : (s.size : Int) + 3 = (y : Int) := by omega
      have wk : IntKind.i64.wrap ((k : Int) + 1) = (k : Int) + 1 := IntWalk.i64_in _ (by omega)
      have hz9 : z ≤ 4004010 := by omega
      clear hy hz
      by_cases hb : 4000 < z
      · obtain ⟨e1, e2⟩ := HNO.out (HBIG.out hb)
        have hbI : (4000 : Int) < (z : Int) := by omega
        subst e1; subst e2
        go_wp2_with fail
        go_ret2
        exact ⟨rfl, Below.refl _ _⟩
      · have hbI : ¬ (4000 : Int) < (z : Int) := by omega
        go_wp2_with fail
        go_loopw [6] (fun i wr => ∃ j : Nat, j ≤ s.size ∧ i = .int .i64 j ∧ (∀ t (ht : t < s.size), t < j → s[t] ≠ 10) ∧ w = wr) (fun i _ => s.size - (intOf i).toNat)
        case atStart => exact ⟨0, Nat.zero_le _, rfl, fun t _ h => by omega, rfl⟩
        case round =>
          obtain ⟨j, hj, rfl, hno, rfl⟩ := hrel
          have HNO2 := Lib.hid hno
          clear hno
          by_cases hjl : j < s.size
          · have j0 : (0 : Int) ≤ (j : Int) := by omega
            have j1 : (j : Int) < (s.size : Int) := by omega
            have wj : IntKind.i64.wrap ((j : Int) + 1) = (j : Int) + 1 := IntWalk.i64_in _ (by omega)
            by_cases he : (s[j].toNat : Int) = 10
            · have h10 : 10 ∈ s.data.toList := by
                have h2 := byte10 he
                rw [← h2]
                exact List.mem_iff_getElem.2 ⟨j, hjl, by rw [Array.getElem_toList]; rfl⟩
              obtain ⟨e1, e2⟩ := HNO.out (HNL.out h10)
              have heB : ((s[j].toNat : Int) == 10) = true := by rw [he]; rfl
              clear h10 he
              subst e1; subst e2
              go_wp2_with fail
              go_ret2
              exact ⟨rfl, Below.refl _ _⟩
            · have heB : ((s[j].toNat : Int) == 10) = false := by simpa using he
              have HN10 : Hid (s[j] ≠ 10) := by
                show _ ≠ _
                intro e; apply he; rw [e]; rfl
              clear he
              go_wp2_with fail
              go_roundw
              case rel =>
                exact ⟨j + 1, by omega, by go_num, fun t ht h => by
                  rcases Nat.lt_or_ge t j with h1 | h1
                  · exact HNO2.out t ht h1
                  · obtain rfl : t = j := by omega
                    exact HN10.out, by first | trivial | rfl⟩
              case measure => simp [intOf]; omega
          · have HFIN := Lib.hid (HNX.out (fun i hi => HNO2.out i hi (by omega)))
            go_wp2_with fail
            go_roundw
            case rel => exact ⟨k + 1, by omega, by go_num, by rw [HT2.out], ⟨by rw [HT2.out]; omega, HFIN.out⟩, by first | trivial | rfl⟩
            case measure => simp [intOf]; omega
    · obtain rfl : n = k := by omega
      have htf : (tl fs).take n = tl fs := List.take_of_length_le (by rw [tl_len]; have := HN.out; omega)
      rw [htf] at htot
      have HJ := Lib.hid (fun W h => l11Journal_any W (.slice A n c) fs h htot)
      have hall := tl_all (fun j hj => HA.out j hj (by have := HN.out; omega))
      have hjs := jnl_small htot (tl fs).length
      rw [List.take_length] at hjs
      by_cases hj4 : (jnl 0 (tl fs)).length ≤ 4000
      · obtain ⟨e1, e2⟩ := HYES.out (jn_ok hall hj4)
        obtain ⟨T, hT⟩ : ∃ T : ByteArray, T = ⟨(jnl 0 (tl fs)).toArray⟩ := ⟨_, rfl⟩
        rw [← hT] at HJ e2
        have hTs : T.size ≤ 4000 := by rw [hT]; show (jnl 0 (tl fs)).toArray.size ≤ _; rw [List.size_toArray]; exact hj4
        have hTI : ¬ (4000 : Int) < (T.size : Int) := by omega
        subst e1; subst e2
        clear htf htot hall hj4 hT hjs
        go_wp2_with fail
        refine (HJ.out _ HRD.out).mono ?_; rintro e w1 ⟨rfl, hb1⟩
        have HB1 := Lib.hid hb1
        clear hb1
        go_wp2_with fail
        go_ret2
        exact ⟨rfl, HB1.out⟩
      · obtain ⟨e1, e2⟩ := HNO.out (jn_long (by omega))
        obtain ⟨T, hT⟩ : ∃ T : ByteArray, T = ⟨(jnl 0 (tl fs)).toArray⟩ := ⟨_, rfl⟩
        rw [← hT] at HJ
        have hTs : ¬ T.size ≤ 4000 := by rw [hT]; show ¬ (jnl 0 (tl fs)).toArray.size ≤ _; rw [List.size_toArray]; exact hj4
        have hTI : (4000 : Int) < (T.size : Int) := by omega
        subst e1; subst e2
        clear htf htot hall hj4 hT hjs
        go_wp2_with fail
        refine (HJ.out _ HRD.out).mono ?_; rintro e w1 ⟨rfl, hb1⟩
        have HB1 := Lib.hid hb1
        clear hb1
        go_wp2_with fail
        go_ret2
        exact ⟨rfl, HB1.out⟩
end Go.Proofs.YtnpigefbdadjfaaDoor
