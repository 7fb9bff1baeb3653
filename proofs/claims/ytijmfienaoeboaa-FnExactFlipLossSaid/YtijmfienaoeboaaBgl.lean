/- The program's beginsLonger, and its search through a trie: IsPrefixCode. -/
import Derived.Test.YtijmfienaoeboaaTri
import Derived.Test.YtijmfienaoeboaaBk
import Derived.Laws.StructEq
namespace Go.Proofs.Ytijmfienaoeboaa
open Go Go.RowKit Go.Maps
set_option linter.unusedVariables false

def lngB (a b s : Int) : Bool := decide (s ≠ -1) && (decide (a ≠ -1) || decide (b ≠ -1))
def ndV (a b s : Int) : List Value := [.int .i64 a, .int .i64 b, .int .i64 s]
theorem bk_three {W : World} {k : Nat} {a b s : Int} (h : Bk W k (ndV a b s)) : W.cell? ⟨k, 0, none⟩ = some (.int .i64 a) ∧ W.cell? ⟨k, 1, none⟩ = some (.int .i64 b) ∧ W.cell? ⟨k, 2, none⟩ = some (.int .i64 s) := ⟨h.c 0 _ rfl, h.c 1 _ rfl, h.c 2 _ rfl⟩

theorem fld_edges (W : World) : (Instr.field 86 (.agg #[.int .i64 (-1), .int .i64 (-1), .int .i64 (-1)]) 0).run Try.prog W = .ok (.agg #[.int .i64 (-1), .int .i64 (-1)]) W := by kernel_rfl
theorem eq_edges (a b c d : Int) (w : World) : (Op.equalIn 10000 84 (.agg #[.int .i64 a, .int .i64 b]) (.agg #[.int .i64 c, .int .i64 d])).run Try.prog w = .ok (a == c && b == d) w := by
  have u3 := Try.underlying2
  have a3 := Try.isAgg2
  have z3 := Try.sizeOf2
  rw [show (10000 : Nat) = 9999 + 1 from rfl, Op.equalIn]
  simp only [Sem.run_bind, run_underlying Try.underlying84, Result.andThen_ok]
  simp only [Std.Legacy.Range.forIn_eq_forIn_range', Std.Legacy.Range.size, Nat.sub_zero, Nat.add_sub_cancel, Nat.div_one, List.range'_succ, List.range'_zero, List.forIn_cons, List.forIn_nil]
  go_simp
  by_cases h1 : a = c <;> by_cases h2 : b = d <;> simp [h1, h2]
theorem neq_edges (a b : Int) (w : World) : (binOp .neq 84 (.agg #[.int .i64 a, .int .i64 b]) (.agg #[.int .i64 (-1), .int .i64 (-1)])).run Try.prog w = .ok (.bool (decide (a ≠ -1) || decide (b ≠ -1))) w := by
  rw [run_neq_struct, eq_edges]
  by_cases h1 : a = -1 <;> by_cases h2 : b = -1 <;> simp [h1, h2]
set_option maxHeartbeats 1600000 in
theorem beginsLonger_any (w : World) (a b s : Int) :
    Calls Try.prog 71 #[.agg #[.int .i64 a, .int .i64 b, .int .i64 s]] w fun e w' => e = .returned (.bool (lngB a b s)) ∧ Below w.heap.size w w' := by
  obtain ⟨W1, hW1⟩ : ∃ W1, W1 = w.alloc (.cells #[.int .i64 a, .int .i64 b, .int .i64 s] 86) := ⟨_, rfl⟩
  have HB0 : Hid (Below w.heap.size w W1) := by show Below _ _ _; rw [hW1]; exact (Below.refl _ _).alloc (Nat.le_refl _) _
  have BK0 : Hid (Bk W1 w.heap.size (ndV a b s)) := by show Bk _ _ _; rw [hW1]; exact Bk.new w (ndV a b s) _ _ rfl
  have HW := Lib.hid hW1
  clear hW1
  by_cases hs : s = -1
  · have HE : Hid (lngB a b s = false) := by show _ = _; unfold lngB; rw [hs]; rfl
    have s1 : (s != -1) = false := bne_f hs
    obtain ⟨q0, q1, q2⟩ := bk_three BK0.out
    clear hs
    go_enter Try.func71, Try.ntmps71
    go_wp2_with fail
    rw [← HW.out]
    go_quiet (fail)
    go_wp2_with fail
    go_ret
    exact ⟨ret_bool HE.out.symm, below_drewN HB0.out _⟩
  · have HE : Hid (lngB a b s = (decide (a ≠ -1) || decide (b ≠ -1))) := by show _ = _; unfold lngB; rw [decide_eq_true hs]; rfl
    have s1 : (s != -1) = true := bne_t hs
    have fe := fld_edges
    have fn := neq_edges a b
    have HN : Hid (lngB a b s = (decide (a ≠ -1) || decide (b ≠ -1))) := HE
    obtain ⟨X, hX⟩ : ∃ X, (decide (a ≠ -1) || decide (b ≠ -1)) = X := ⟨_, rfl⟩
    rw [hX] at fn HE
    clear hs hX HN
    go_enter Try.func71, Try.ntmps71
    go_wp2_with fail
    rw [← HW.out]
    have t0 := BK0.out.drew
    have B6 := Lib.hid (HB0.out.drew)
    obtain ⟨q0, q1, q2⟩ := bk_three t0
    go_region_held3 (fun w' => w'.cell? ⟨w.heap.size, 0, none⟩ = some (.int .i64 a) ∧ w'.cell? ⟨w.heap.size, 1, none⟩ = some (.int .i64 b) ∧ w'.cell? ⟨w.heap.size, 2, none⟩ = some (.int .i64 s)) ((first | with_reducible exact bk_three t7 | with_reducible exact bk_three t0 | fail))
      (first
        | (go_at_call 121; refine (emptyNode_any _).mono ?_; rintro e u7 ⟨rfl, hb7⟩; have t7 := Bk.keep t0 hb7; have B7 := Lib.hid (B6.out.trans (hb7.mono B6.out.size)); obtain ⟨q0, q1, q2⟩ := bk_three t7; clear hb7)
        | fail)
    all_goals go_wp2_with fail
    all_goals go_ret
    all_goals exact ⟨ret_bool HE.out.symm, B7.out⟩
theorem lngB_lng (ps ws : List Bs) (p : Bs) : lngB (ix ps (p ++ [48])) (ix ps (p ++ [49])) (ix ws p) = lng ps ws p := rfl
theorem any_take_succ (f : Bs → Bool) (ps : List Bs) (k : Nat) (h : k < ps.length) : (ps.take (k + 1)).any f = ((ps.take k).any f || f ps[k]) := by
  rw [List.take_succ_eq_append_getElem h, List.any_append]; simp
theorem any_yes (f : Bs → Bool) (ps : List Bs) (k : Nat) (h : k < ps.length) (hf : f ps[k] = true) : ps.any f = true := by
  rw [List.any_eq_true]; exact ⟨_, List.getElem_mem h, hf⟩
def IdPost (w : World) (R : Bool) (e : Ending) (w' : World) : Prop := ∃ r : Int, e = .returned (.int .i64 r) ∧ decide (0 ≤ r) = R ∧ -1 ≤ r ∧ r ≤ 193 ∧ Below w.heap.size w w'

set_option maxHeartbeats 1600000 in
theorem indexFunc_any (w : World) (base g n cap : Nat) (ps ws : List Bs) (h : TrieV w base g n cap ps ws) :
    Calls Try.prog 122 #[.slice (some ⟨g, 0, none⟩) n cap, .func (.func 71) #[] #[]] w (IdPost w (ps.any (lng ps ws))) := by
  have HV := Lib.hid h
  have hsm := h.small
  clear h
  go_enter Try.func122, Try.ntmps122
  go_wp2_with fail
  go_loopw [8] (fun i wr => ∃ k : Nat, k ≤ n ∧ i = .int .i64 k ∧ Below w.heap.size w wr ∧ (ps.take k).any (lng ps ws) = false) (fun i _ => n - (intOf i).toNat)
  case atStart => exact ⟨0, Nat.zero_le _, rfl, Below.refl _ _, rfl⟩
  case round =>
    obtain ⟨k, hk, rfl, hb, hf⟩ := hrel
    have HB := Lib.hid hb
    have HK := Lib.hid (HV.out.keep hb)
    clear hb
    by_cases hlt : k < n
    · have hkl : k < ps.length := by have := HV.out.len; omega
      have q0 := HK.out.at k 0 hkl (by decide)
      have q1 := HK.out.at k 1 hkl (by decide)
      have q2 := HK.out.at k 2 hkl (by decide)
      rw [show 3 * k + 0 = k * 3 from by omega, show (nod ps ws ps[k])[0]? = some (.int .i64 (ix ps (ps[k] ++ [48]))) from rfl] at q0
      rw [show 3 * k + 1 = k * 3 + 1 from by omega, show (nod ps ws ps[k])[1]? = some (.int .i64 (ix ps (ps[k] ++ [49]))) from rfl] at q1
      rw [show 3 * k + 2 = k * 3 + 2 from by omega, show (nod ps ws ps[k])[2]? = some (.int .i64 (ix ws ps[k])) from rfl] at q2
      have hL := lngB_lng ps ws ps[k]
      have hs := any_take_succ (lng ps ws) ps k hkl
      rw [hf, Bool.false_or] at hs
      have hy := any_yes (lng ps ws) ps k hkl
      rw [← hL] at hs hy
      have hk0 : (0 : Int) ≤ (k : Int) := by omega
      have hk1 : (k : Int) < (n : Int) := by omega
      have HS := Lib.hid hs
      have HY := Lib.hid hy
      clear hL hs hy hf
      generalize ix ps (ps[k] ++ [48]) = a at *
      generalize ix ps (ps[k] ++ [49]) = b at *
      generalize ix ws ps[k] = s at *
      have HC := Lib.hid (fun W => beginsLonger_any W a b s)
      cases hr : lngB a b s
      · have HX : Hid ((ps.take (k + 1)).any (lng ps ws) = false) := by show _ = _; rw [HS.out, hr]
        rw [hr] at HC
        clear hr
        go_wp2_with fail
        refine (HC.out _).mono ?_; rintro e w1 ⟨rfl, hb1⟩
        have HB1 := Lib.hid (HB.out.trans (hb1.mono HB.out.size))
        clear hb1 HB q0 q1 q2
        go_wp2_with fail
        go_roundw
        case rel => exact ⟨k + 1, by omega, by go_num, HB1.out, HX.out⟩
        case measure => simp [intOf]; omega
      · have HX : Hid (ps.any (lng ps ws) = true) := by show _ = _; exact HY.out hr
        rw [hr] at HC
        clear hr
        go_wp2_with fail
        refine (HC.out _).mono ?_; rintro e w1 ⟨rfl, hb1⟩
        have HB1 := Lib.hid (HB.out.trans (hb1.mono HB.out.size))
        clear hb1 HB q0 q1 q2
        go_wp2_with fail
        go_ret
        exact ⟨k, rfl, by rw [HX.out]; exact decide_eq_true hk0, by omega, by omega, HB1.out⟩
    · obtain rfl : k = n := by omega
      have HX : Hid (ps.any (lng ps ws) = false) := by show _ = _; rwa [List.take_of_length_le (by have := HV.out.len; omega)] at hf
      clear hf
      go_wp2_with fail
      go_ret
      exact ⟨-1, rfl, by rw [HX.out]; rfl, by decide, by decide, HB.out⟩

theorem containsFunc_any (w : World) (base g n cap : Nat) (ps ws : List Bs) (h : TrieV w base g n cap ps ws) :
    Calls Try.prog 70 #[.slice (some ⟨g, 0, none⟩) n cap, .func (.func 71) #[] #[]] w fun e w' => e = .returned (.bool (ps.any (lng ps ws))) ∧ Below w.heap.size w w' := by
  have HC := Lib.hid (indexFunc_any w base g n cap ps ws h)
  clear h
  go_enter Try.func70, Try.ntmps70
  go_wp2_with fail
  refine HC.out.mono ?_; rintro e w1 ⟨r, rfl, hr, r1, r2, hb1⟩
  have HR := Lib.hid hr
  have HB := Lib.hid hb1
  clear hr hb1
  go_wp2_with fail
  go_ret
  exact ⟨ret_bool HR.out, HB.out⟩

/-- Prefix codes. -/
def pcOk (l : List ByteArray) : Bool := cdOk l && preB (pth l)
theorem pth_bits {l : List ByteArray} (h : cdOk l = true) : ∀ w ∈ pth l, bt w := by
  intro w hw c hc
  obtain ⟨x, hx, rfl⟩ := List.mem_map.1 hw
  have := cwOk_bits ((cdOk_parts h).2.2.2 x hx)
  unfold inR at this
  rw [List.all_eq_true] at this
  have := of_decide_eq_true (this c hc)
  rcases (show c.toNat = 48 ∨ c.toNat = 49 from by omega) with h | h
  · exact .inl (UInt8.toNat_inj.1 (by rw [h]; rfl))
  · exact .inr (UInt8.toNat_inj.1 (by rw [h]; rfl))

set_option maxHeartbeats 1600000 in
theorem isPrefixCode_impl (w : World) (v : Value) (l : List ByteArray) (h : RdS w v l) (hm : ∀ s ∈ l, s.size ≤ 4000000) :
    Calls Try.prog 21 #[v] w fun e w' => e = .returned (.bool (pcOk l)) ∧ Below w.heap.size w w' := by
  cases hc : cdOk l
  · have HC := Lib.hid (trieOf_no w v l h hm hc)
    have HE : Hid (pcOk l = false) := by show _ = _; unfold pcOk; rw [hc]; rfl
    clear h hm hc
    go_enter Try.func21, Try.ntmps21
    go_wp2_with fail
    refine HC.out.mono ?_; rintro e w1 ⟨rfl, hb1⟩
    have HB := Lib.hid hb1
    clear hb1
    go_wp2_with fail
    go_ret
    exact ⟨ret_bool HE.out.symm, HB.out⟩
  · have HC := Lib.hid (trieOf_yes w v l h hm hc)
    have HE : Hid (pcOk l = preB (pth l)) := by show _ = _; unfold pcOk; rw [hc]; rfl
    have HT := Lib.hid (pth_bits hc)
    clear h hm hc
    go_enter Try.func21, Try.ntmps21
    go_wp2_with fail
    refine HC.out.mono ?_; rintro e w1 ⟨g, n, cap, ps, rfl, ht, hb1⟩
    have HB := Lib.hid hb1
    have HV := Lib.hid ht
    have HA := Lib.hid (lng_any ht.tr ht.cov HT.out)
    clear hb1 ht
    go_wp2_with fail
    refine (containsFunc_any _ _ _ _ _ _ _ HV.out).mono ?_; rintro e w2 ⟨rfl, hb2⟩
    have HB2 := Lib.hid (HB.out.trans (hb2.mono HB.out.size))
    rw [HA.out]
    clear hb2
    go_wp2_with fail
    go_ret
    exact ⟨ret_bool (by rw [HE.out]), HB2.out⟩
end Go.Proofs.Ytijmfienaoeboaa
