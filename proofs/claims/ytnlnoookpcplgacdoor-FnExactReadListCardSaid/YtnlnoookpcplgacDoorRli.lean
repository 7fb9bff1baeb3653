/- The contract of the program's ReadList. -/
import Derived.Test.YtnlnoookpcplgacDoorRls
import Derived.Test.YtnlnoookpcplgacDoorLti
namespace Go.Proofs.YtnlnoookpcplgacDoor
open Go Go.RowKit
set_option linter.unusedVariables false

theorem readDec_impl (s : ByteArray) (hs : s.size ≤ 1048576) (w : World) (hv : Vars w) :
    Calls Tryd.prog 28 #[.string s] w fun e w' => e = .returned (.tuple #[.int .i64 (rdN MV s.data.toList), .bool (rdOk MV s.data.toList)]) ∧ Below w.heap.size w w' := by
  have H := Lib.hid (readNumber_any s hs MV (by unfold MV; omega) (by unfold MV; omega) w hv)
  clear hv
  generalize rdN MV s.data.toList = y at *
  generalize rdOk MV s.data.toList = z at *
  go_enter Tryd.func28, Tryd.ntmps28
  go_wp2_with fail
  refine H.out.mono ?_; rintro e w1 ⟨rfl, hb⟩
  have HB := Lib.hid hb
  clear hb
  go_wp2_with fail
  go_ret2
  exact ⟨rfl, HB.out⟩
theorem sp_len : ∀ (l p : List UInt8), p ∈ sp l → p.length ≤ l.length
  | [], p, h => by
    have : p = [] := by simpa [sp] using h
    rw [this]; exact Nat.le_refl _
  | c :: r, p, h => by
    have ih := sp_len r
    unfold sp at h
    split at h
    · rcases List.mem_cons.1 h with rfl | h
      · exact Nat.zero_le _
      · exact Nat.le_succ_of_le (ih p h)
    · split at h
      · rename_i h0
        exact absurd h0 (sp_ne r)
      · rename_i a t e
        rcases List.mem_cons.1 h with rfl | h
        · have := ih a (by rw [e]; exact List.mem_cons_self)
          rw [List.length_cons, List.length_cons]; omega
        · exact Nat.le_succ_of_le (ih p (by rw [e]; exact List.mem_cons_of_mem _ h))
def fP (P : ByteArray) : Value := .int .i64 (rdN MV P.data.toList)
def gP (P : ByteArray) : Bool := rdOk MV P.data.toList
def fz (L : List ByteArray) (n k : Nat) : List Value := (L.take k).map fP ++ List.replicate (n - k) (.int .i64 0)
theorem fz_len {L : List ByteArray} {n k : Nat} (hl : L.length = n) (hk : k ≤ n) : (fz L n k).length = n := by
  unfold fz
  rw [List.length_append, List.length_map, List.length_take, List.length_replicate]
  omega
theorem fz_set {L : List ByteArray} {n k : Nat} (hl : L.length = n) (hk : k < n) (h : k < L.length) : (fz L n k).set k (fP L[k]) = fz L n (k + 1) := by
  unfold fz
  have e : ((L.take k).map fP).length = k := by rw [List.length_map, List.length_take]; omega
  rw [List.set_append_right _ _ (by omega), e, Nat.sub_self, show n - k = (n - (k + 1)) + 1 from by omega, List.replicate_succ, List.set_cons_zero, List.take_succ_eq_append_getElem h, List.map_append]
  simp
theorem fz_end {L : List ByteArray} {n : Nat} (hl : L.length = n) : fz L n n = L.map fP := by
  unfold fz
  rw [List.take_of_length_le (by omega), Nat.sub_self]
  simp
theorem fz_at {L : List ByteArray} {n k : Nat} (hl : L.length = n) (hk : k < n) : (fz L n k)[k]? = some (.int .i64 0) := by
  unfold fz
  have e : ((L.take k).map fP).length = k := by rw [List.length_map, List.length_take]; omega
  rw [List.getElem?_append_right (by omega), e, Nat.sub_self, show n - k = (n - (k + 1)) + 1 from by omega, List.replicate_succ]
  rfl
theorem make_ints (n : Nat) (hn : n ≤ 64) (W : World) : (Instr.makeSlice 28 (.int .i64 (n : Int)) (.int .i64 (n : Int))).run Tryd.prog W = .ok (.slice (some ⟨W.heap.size, 0, none⟩) n n) (W.alloc (.cells (List.replicate n (Value.int .i64 0)).toArray 2)) := by
  obtain ⟨i0, hi, hz0, hz1, hz2⟩ := info_parts Tryd.infoInt
  have h := run_make (P := Tryd.prog) W 28 2 i0 (.int .i64 0) Tryd.underlying28 hi hz0 .i64 .i64 n n (by omega) (Int.le_refl _) (by rw [hz2]; omega) (by omega)
  rw [hz1, Int.toNat_natCast, made_rep _ rfl] at h
  exact h
theorem rl_long {l : List UInt8} (hn : l ≠ noneT) (h : ¬ (sp l).length ≤ 64) : rlOk l = false := by
  unfold rlOk
  rw [decide_eq_false hn, decide_eq_false h]; rfl

set_option maxHeartbeats 1600000 in
set_option maxRecDepth 100000 in
theorem readList_impl (s : ByteArray) (hs : s.size ≤ 1048576) (m : Int) (w : World) (hm : w.cell? ⟨0, 0, none⟩ = some (.int .i64 m)) (hv : Vars w) :
    Calls Tryd.prog 14 #[.string s] w fun e w' => ∃ v, e = .returned (.tuple #[v, .bool (rlOk s.data.toList)]) ∧ Own w' w.heap.size v (rlV s.data.toList) ∧ Below w.heap.size w w' := by
  by_cases hN : s.data.toList = noneT
  · have es : s = ⟨noneT.toArray⟩ := ByteArray.ext (Array.toList_inj.1 hN)
    have HE := Lib.hid rl_none
    rw [← hN] at HE
    have tn : (s.toList == (⟨#[110, 111, 110, 101]⟩ : ByteArray).toList) = true := by rw [es]; exact (beq_toListBytes _ _).symm.trans (bytes_beq _)
    rw [show (⟨#[110, 111, 110, 101]⟩ : ByteArray).toList = [110, 111, 110, 101] from by simp] at tn
    clear es hN hm hv hs
    go_enter Tryd.func14, Tryd.ntmps14
    go_wp2_with fail
    go_ret2
    exact ⟨_, ret_vb rfl HE.out.1.symm, by rw [HE.out.2]; exact World.ownsRow_nil _ _ _ _, Below.refl _ _⟩
  have tn : (s.toList == (⟨#[110, 111, 110, 101]⟩ : ByteArray).toList) = false := by
    rw [← beq_toListBytes]
    cases hh : (s == (⟨#[110, 111, 110, 101]⟩ : ByteArray))
    · rfl
    · exact absurd (by rw [bytes_eq hh]; rfl) hN
  rw [show (⟨#[110, 111, 110, 101]⟩ : ByteArray).toList = [110, 111, 110, 101] from by simp] at tn
  have hsp := sp_split s.size s (Nat.le_refl _)
  have hwl := Lib.splitB_all ⟨#[44]⟩ (by show 1 ≤ 1; omega) 0 _ s rfl
  have CU := Lib.hid (Tryd.strings_Split s ⟨#[44]⟩ m w (by omega) hm (by show 1 ≤ 1; omega))
  generalize Lib.splitB ⟨#[44]⟩ 0 (Lib.countB s ⟨#[44]⟩) s = WS at hsp hwl CU
  generalize Lib.countB s ⟨#[44]⟩ + 1 = N at hwl CU
  have hNl : (sp s.data.toList).length = N := by rw [← hsp, List.length_map, hwl]
  have HV := Lib.hid hv
  have HN := Lib.hid hN
  have HWL := Lib.hid hwl
  have hb0 : Below w.heap.size w (w.alloc (.cells (WS.map Value.string).toArray 9)) := (Below.refl _ _).alloc (Nat.le_refl _) _
  have HB0 := Lib.hid hb0
  by_cases h64 : N ≤ 64
  rotate_left
  · have hbad := rl_long hN (by omega)
    have HE := Lib.hid (And.intro (rl_no hbad) hbad)
    have t0 : decide ((64 : Int) < (N : Int)) = true := decide_eq_true (by omega)
    clear hbad hN hsp hwl hNl hm hv hb0
    go_enter Tryd.func14, Tryd.ntmps14
    go_wp2_with fail
    refine CU.out.mono ?_; rintro e w1 ⟨rfl, rfl⟩
    go_wp2_with fail
    go_ret2
    exact ⟨_, ret_vb rfl HE.out.2.symm, by rw [HE.out.1]; exact World.ownsRow_nil _ _ _ _, HB0.out⟩
  have t0 : decide ((64 : Int) < (N : Int)) = false := decide_eq_false (by omega)
  have hmk := make_ints N h64
  have HBAD : Hid (WS.all gP = false → rlV s.data.toList = [] ∧ rlOk s.data.toList = false) := Lib.hid fun h => by
    have hb : rlOk s.data.toList = false := by
      unfold rlOk
      rw [decide_eq_false hN, ← hsp, List.all_map, show ((rdOk MV) ∘ fun (x : ByteArray) => x.data.toList) = gP from rfl, h]
      simp
    exact ⟨rl_no hb, hb⟩
  have HGOOD : Hid (WS.all gP = true → rlOk s.data.toList = true ∧ intVals (rlV s.data.toList) = WS.map fP ∧ (rlV s.data.toList).length = N) := Lib.hid fun h => by
    obtain ⟨g1, g2⟩ := rl_good hN (by omega) (by rw [← hsp, List.all_map]; exact h)
    refine ⟨g1, ?_, ?_⟩
    · rw [g2, ← hsp]; unfold intVals; rw [List.map_map, List.map_map]; rfl
    · rw [g2, List.length_map, hNl]
  have HPZ : Hid (∀ k (h : k < WS.length), WS[k].size ≤ 1048576) := Lib.hid fun k h => by
    have := sp_len s.data.toList WS[k].data.toList (by rw [← hsp]; exact List.mem_map_of_mem (List.getElem_mem h))
    have h2 : WS[k].data.toList.length = WS[k].size := rfl
    have h3 : s.data.toList.length = s.size := rfl
    omega
  have HKW := Lib.hid ((Bk.new w (WS.map Value.string) 9 w.heap.size rfl).alloc (.cells (List.replicate N (Value.int .i64 0)).toArray 2))
  have hz0 : fz WS N 0 = List.replicate N (Value.int .i64 0) := by unfold fz; simp
  have HKL : Hid (Bk ((w.alloc (.cells (WS.map Value.string).toArray 9)).alloc (.cells (List.replicate N (Value.int .i64 0)).toArray 2)) (w.heap.size + 1) (fz WS N 0)) := by
    show Bk _ _ _
    rw [hz0]; exact Bk.new _ _ _ _ (by simp)
  have HOL : Hid (((w.alloc (.cells (WS.map Value.string).toArray 9)).alloc (.cells (List.replicate N (Value.int .i64 0)).toArray 2)).ownsRow w.heap.size 2 1 (.slice (some ⟨w.heap.size + 1, 0, none⟩) N N) N (fz WS N 0)) := by
    show World.ownsRow _ _ _ _ _ _ _
    have := World.ownsRow_lit (base := w.heap.size) (e := 2) (size := 1) (w.alloc (.cells (WS.map Value.string).toArray 9)) (List.replicate N (Value.int .i64 0)).toArray N (by simp) (by unfold maxLen; omega) (by simp)
    rw [hz0]
    simpa using this
  have HB1 := Lib.hid (hb0.alloc (hb0.size) (.cells (List.replicate N (Value.int .i64 0)).toArray 2))
  clear hN hsp hwl hNl hm hv hb0 hz0
  go_enter Tryd.func14, Tryd.ntmps14
  go_wp2_with fail
  refine CU.out.mono ?_; rintro e w1 ⟨rfl, rfl⟩
  go_wp2_with fail
  go_loopw [22] (fun i wr => ∃ k : Nat, k ≤ N ∧ i = .int .i64 k ∧ Bk wr w.heap.size (WS.map Value.string) ∧ Bk wr (w.heap.size + 1) (fz WS N k) ∧ wr.ownsRow w.heap.size 2 1 (.slice (some ⟨w.heap.size + 1, 0, none⟩) N N) N (fz WS N k) ∧ Below w.heap.size w wr ∧ (WS.take k).all gP = true) (fun i _ => N - (intOf i).toNat)
  case atStart => exact ⟨0, Nat.zero_le _, rfl, HKW.out, HKL.out, HOL.out, HB1.out, rfl⟩
  case round =>
    obtain ⟨k, hk, rfl, hkw, hkl, hol, hb, hf⟩ := hrel
    have KW := Lib.hid hkw
    have KL := Lib.hid hkl
    have OL := Lib.hid hol
    have B0 := Lib.hid hb
    have VW := Lib.hid (HV.out.keep hb)
    clear hkw hkl hol hb
    by_cases hlt : k < N
    · have hkl : k < WS.length := by have := HWL.out; omega
      have hx0 := KW.out.c k (.string WS[k]) (by rw [List.getElem?_map, List.getElem?_eq_getElem hkl]; rfl)
      have hs2 := all_take_succ2 gP WS k hkl
      rw [hf, Bool.true_and] at hs2
      have hbad := all_bad2 gP WS k hkl
      have RD := Lib.hid (fun W h => readDec_impl WS[k] (HPZ.out k hkl) W h)
      have HSET := Lib.hid (fz_set HWL.out hlt hkl)
      have hgp : gP WS[k] = rdOk MV WS[k].data.toList := rfl
      have HFP : Hid (fP WS[k] = .int .i64 (rdN MV WS[k].data.toList)) := rfl
      clear hf
      rw [← hgp] at RD
      generalize rdN MV WS[k].data.toList = x at RD HFP
      generalize fP WS[k] = y at HSET HFP
      have HFP2 := HFP.out
      subst HFP2
      cases hg : gP WS[k]
      · have HE := Lib.hid (HBAD.out (hbad hg))
        rw [hg] at RD
        clear hs2 hbad hgp hg HFP
        generalize WS[k] = P at *
        go_wp2_with fail
        refine (RD.out _ VW.out).mono ?_; rintro e w5 ⟨rfl, hb5⟩
        have B5 := Lib.hid (B0.out.trans (hb5.mono B0.out.size))
        clear hb5
        go_wp2_with fail
        go_ret2
        exact ⟨_, ret_vb rfl HE.out.2.symm, by rw [HE.out.1]; exact World.ownsRow_nil _ _ _ _, B5.out⟩
      · have HA : Hid ((WS.take (k + 1)).all gP = true) := by show _ = _; rw [hs2]; exact hg
        rw [hg] at RD
        clear hs2 hbad hgp hg HFP
        generalize WS[k] = P at *
        go_wp2_with fail
        refine (RD.out _ VW.out).mono ?_; rintro e w5 ⟨rfl, hb5⟩
        have B5 := Lib.hid (B0.out.trans (hb5.mono B0.out.size))
        have KW5 := Lib.hid (KW.out.keep hb5)
        have KL5 := Lib.hid (KL.out.keep hb5)
        have OL5 := Lib.hid (own_below OL.out hb5)
        clear hb5 hx0
        have q0 := KL5.out.c k _ (fz_at HWL.out hlt)
        have q1 := KL5.out.f k (by rw [fz_len HWL.out hk]; exact hlt)
        go_wp2_with fail
        go_roundw
        case rel => exact ⟨k + 1, by omega, by go_num, KW5.out.far _ (by simp) _, by rw [← HSET.out]; exact KL5.out.set k (by rw [fz_len HWL.out hk]; exact hlt) _, by rw [← HSET.out]; exact (World.ownsRow.stored OL5.out k _).1, B5.out.setCell (by simp) _, HA.out⟩
        case measure => simp [intOf] <;> omega
    · obtain rfl : k = N := by omega
      rw [List.take_of_length_le (by have := HWL.out; omega)] at hf
      have HE := Lib.hid (HGOOD.out hf)
      clear hf
      have OL6 : Hid (wr.ownsRow w.heap.size 2 1 (.slice (some ⟨w.heap.size + 1, 0, none⟩) k k) (rlV s.data.toList).length (intVals (rlV s.data.toList))) := by
        show World.ownsRow _ _ _ _ _ _ _
        rw [HE.out.2.2, HE.out.2.1, ← fz_end HWL.out]; exact OL.out
      go_wp2_with fail
      go_ret2
      exact ⟨_, ret_vb rfl HE.out.1.symm, OL6.out, B0.out⟩
end Go.Proofs.YtnlnoookpcplgacDoor
