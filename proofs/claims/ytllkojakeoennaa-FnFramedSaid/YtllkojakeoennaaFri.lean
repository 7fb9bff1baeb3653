/- Both FrameBits. -/
import Derived.Test.YtllkojakeoennaaSti
import Derived.Test.YtllkojakeoennaaFli
import Derived.Test.YtllkojakeoennaaBlr
import Derived.Test.YtllkojakeoennaaRs
namespace Go.Proofs.Ytllkojakeoennaa
open Go Go.RowKit
set_option linter.unusedVariables false

/-- One frame more behind what has been sent. -/
def frStep (a b : Int) (F : List UInt8) (o : Option (List UInt8)) (f : ByteArray) : Option (List UInt8) :=
  match o with
  | none => none
  | some L => if isB f.data.toList = true ∧ (L ++ (stL a b f.data.toList ++ F)).length ≤ 400 then some (L ++ (stL a b f.data.toList ++ F)) else none
def frF (a b : Int) (F : List UInt8) (fs : List ByteArray) : Option (List UInt8) := fs.foldl (frStep a b F) (some F)
theorem frF_none (a b : Int) (F : List UInt8) (fs : List ByteArray) : fs.foldl (frStep a b F) none = none := by
  induction fs with
  | nil => rfl
  | cons f fs ih => exact ih
theorem frF_take (a b : Int) (F : List UInt8) (fs : List ByteArray) (k : Nat) (h : k < fs.length) : frF a b F (fs.take (k + 1)) = frStep a b F (frF a b F (fs.take k)) fs[k] := by
  unfold frF
  rw [List.take_succ_eq_append_getElem h, List.foldl_append]; rfl
theorem frF_stop (a b : Int) (F : List UInt8) (fs : List ByteArray) (k : Nat) (h : frF a b F (fs.take k) = none) : frF a b F fs = none := by
  unfold frF at *
  rw [← List.take_append_drop k fs, List.foldl_append, h]
  exact frF_none _ _ _ _
theorem frF_len (a b : Int) (F : List UInt8) (hF : F.length ≤ 400) (fs : List ByteArray) (L : List UInt8) (h : frF a b F fs = some L) : L.length ≤ 400 := by
  induction fs using snocInd generalizing L with
  | nil => unfold frF at h; injection h with h; subst h; exact hF
  | snoc fs f ih =>
    unfold frF at h
    rw [List.foldl_append] at h
    cases e : fs.foldl (frStep a b F) (some F) with
    | none => rw [e] at h; cases h
    | some M =>
      rw [e] at h
      simp only [List.foldl_cons, List.foldl_nil, frStep] at h
      split at h
      · rename_i h'
        injection h with h; subst h; exact h'.2
      · cases h
theorem fr_yes {a b : Int} {F L : List UInt8} {f : ByteArray} (h1 : isB f.data.toList = true) (h2 : (L ++ (stL a b f.data.toList ++ F)).length ≤ 400) : frStep a b F (some L) f = some (L ++ (stL a b f.data.toList ++ F)) := by
  simp only [frStep]; rw [if_pos ⟨h1, h2⟩]
theorem fr_no {a b : Int} {F L : List UInt8} {f : ByteArray} (h : ¬ (isB f.data.toList = true ∧ (L ++ (stL a b f.data.toList ++ F)).length ≤ 400)) : frStep a b F (some L) f = none := by
  simp only [frStep]; rw [if_neg h]
def flL (n : Nat) (d o : UInt8) : List UInt8 := [o] ++ List.replicate (n + 1) d ++ [o]
def flG (a b : Int) : List UInt8 := flL a.toNat (dB b) (oB b)
theorem flG_len (a b : Int) : (flG a b).length = a.toNat + 3 := by simp [flG, flL]
def fbOk (a b : Int) (fs : List ByteArray) : Bool := sOk a b && (decide (0 < fs.length) && (frF a b (flG a b) fs).isSome)
def fbV (a b : Int) (fs : List ByteArray) : ByteArray := if fbOk a b fs then ⟨((frF a b (flG a b) fs).getD []).toArray⟩ else ⟨#[]⟩
theorem fbV_no {a b : Int} {fs : List ByteArray} (h : fbOk a b fs = false) : fbV a b fs = ⟨#[]⟩ := by unfold fbV; rw [h]; rfl
theorem fb_some {a b : Int} {fs : List ByteArray} {L : List UInt8} (h1 : sOk a b = true) (h2 : 0 < fs.length) (h3 : frF a b (flG a b) fs = some L) : fbOk a b fs = true ∧ fbV a b fs = ⟨L.toArray⟩ := by
  have e : fbOk a b fs = true := by unfold fbOk; rw [h1, decide_eq_true h2, h3]; rfl
  exact ⟨e, by unfold fbV; rw [e, h3]; rfl⟩
theorem fb_none {a b : Int} {fs : List ByteArray} (h3 : frF a b (flG a b) fs = none) : fbOk a b fs = false ∧ fbV a b fs = ⟨#[]⟩ := by
  have e : fbOk a b fs = false := by unfold fbOk; rw [h3]; simp
  exact ⟨e, fbV_no e⟩
theorem add_lists (W : World) (A B : List UInt8) (h : A.length + B.length ≤ 10000) : (Op.stringOp .add ⟨A.toArray⟩ ⟨B.toArray⟩).run Try.prog W = .ok (.string ⟨(A ++ B).toArray⟩) W := by
  have := run_string_add_sum (P := Try.prog) W ⟨A.toArray⟩ ⟨B.toArray⟩ (by simp only [ByteArray.size, List.size_toArray]; omega)
  rwa [show (⟨A.toArray⟩ ++ ⟨B.toArray⟩ : ByteArray) = ⟨(A ++ B).toArray⟩ from by apply ByteArray.ext; simp] at this
theorem sz_list (A : List UInt8) : (⟨A.toArray⟩ : ByteArray).size = A.length := by simp [ByteArray.size]
theorem ret_sbz {a c : ByteArray} {b d : Bool} (h : b = d ∧ a = c) : Ending.returned (.tuple #[.string c, .bool d]) = .returned (.tuple #[.string a, .bool b]) := by rw [h.1, h.2]

set_option maxRecDepth 100000 in
set_option maxHeartbeats 2000000 in
theorem frameBits_spec (w : World) (a b : Int) (v : Value) (fs : List ByteArray) (h : RdS w v fs) (hm : ∀ s ∈ fs, s.size ≤ maxLen) :
    Calls Try.prog 24 #[.agg #[.int .i64 a, .int .i64 b], v] w fun e w' => e = .returned (.tuple #[.string (fbV a b fs), .bool (fbOk a b fs)]) ∧ Below w.heap.size w w' := by
  have HB : Hid (Below w.heap.size w (w.alloc (.cells #[.int .i64 a, .int .i64 b] 25))) := (Below.refl _ _).alloc (Nat.le_refl _) _
  have HO := Lib.hid (blk_bk (sbl_new w a b))
  have HV := Lib.hid (h.keep HB.out)
  have hlen := h.len
  unfold maxLen at hlen
  obtain ⟨A, n, c, rfl, hn, -, -, -⟩ := h
  have HN := Lib.hid hn
  cases h1 : sOk a b
  · have e0 : fbOk a b fs = false := by unfold fbOk; rw [h1]; rfl
    rw [fbV_no e0, e0]
    have H1 := Lib.hid h1
    clear e0 h1 hm hn hlen
    go_enter Try.func24, Try.ntmps24
    go_wp2_with fail
    refine (l04Is_any _ _ _ _ HO.out).mono ?_; rintro e w' ⟨rfl, rfl⟩
    rw [H1.out]
    go_wp2_with fail
    go_ret2
    exact ⟨rfl, HB.out⟩
  · by_cases h0 : n = 0
    · have e0 : fbOk a b fs = false := by unfold fbOk; rw [decide_eq_false (by omega)]; simp
      rw [fbV_no e0, e0]
      have H1 := Lib.hid h1
      have hz : ((n : Int) == 0) = true := beq_t (by omega)
      clear e0 h1 hm hn hlen
      go_enter Try.func24, Try.ntmps24
      go_wp2_with fail
      refine (l04Is_any _ _ _ _ HO.out).mono ?_; rintro e w' ⟨rfl, rfl⟩
      rw [H1.out]
      go_wp2_with fail
      go_ret2
      exact ⟨rfl, HB.out⟩
    · have hz : ((n : Int) == 0) = false := beq_f (by omega)
      obtain ⟨ha, hb⟩ := sOk_p h1
      have HFL := Lib.hid (frF_len a b (flG a b) (by rw [flG_len]; omega))
      have HFT := Lib.hid (frF_take a b (flG a b) fs)
      have HST := Lib.hid (frF_stop a b (flG a b) fs)
      have HSM := Lib.hid (@fb_some a b fs · h1 (by omega : 0 < fs.length) ·)
      have HNO := Lib.hid (@fb_none a b fs)
      have HBI := Lib.hid (fun W (f : ByteArray) (hf : f ∈ fs) => l01Bits_any f W (hm f hf))
      have HMM := Lib.hid (fun f hf => hm f hf)
      obtain ⟨m, rfl⟩ : ∃ m : Nat, a = (m : Int) := ⟨a.toNat, by omega⟩
      have HG : Hid (∀ W (q : Nat) (f : ByteArray) (hk : Bk W q (sV m b)) (hf : isB f.data.toList = true), Calls Try.prog 50 #[.pointer (some ⟨q, 0, none⟩), .string f] W fun e w' => e = .returned (.string ⟨(stL m b f.data.toList).toArray⟩) ∧ Below W.heap.size W w') := by
        show ∀ W (q : Nat) (f : ByteArray) (hk : Bk W q (sV m b)) (hf : isB f.data.toList = true), _
        intro W q f hk hf
        obtain ⟨p1, p2⟩ := isBt hf
        have := l04Stuff_any W q m b _ _ f (dg_of hb) (by omega) (by simpa using p1) p2 hk
        rwa [show (stF m (dB b) (oB b) f.data.toList).1 = stL m b f.data.toList from by unfold stL; rw [Int.toNat_natCast]] at this
      have HSL := Lib.hid (fun (f : ByteArray) => (stF_len (m : Int).toNat (dB b) (oB b) f.data.toList).2)
      have HF : Hid (∀ W (q : Nat) (hk : Bk W q (sV m b)), Calls Try.prog 59 #[.pointer (some ⟨q, 0, none⟩)] W fun e w' => e = .returned (.string ⟨(flG m b).toArray⟩) ∧ Below W.heap.size W w') := by
        show ∀ W (q : Nat) (hk : Bk W q (sV m b)), _
        intro W q hk
        have := l04Flag_any W q m b _ _ (dg_of hb) (by omega) hk
        rwa [show fl m (dB b) (oB b) = ⟨(flG m b).toArray⟩ from by unfold fl flG flL; rw [Int.toNat_natCast]] at this
      have hfl : (flG m b).length ≤ 13 := by rw [flG_len]; omega
      have HQ : Hid (frF m b (flG m b) (fs.take 0) = some (flG m b)) := rfl
      have H1 := Lib.hid h1
      have HAL := Lib.hid (fun k (hk : ¬ k < fs.length) => List.take_of_length_le (l := fs) (i := k) (by omega))
      clear h1 hm hn ha hb h0
      generalize fbV m b fs = VV at *
      generalize fbOk m b fs = OK at *
      generalize flG m b = F at *
      go_enter Try.func24, Try.ntmps24
      go_wp2_with fail
      refine (l04Is_any _ _ _ _ HO.out).mono ?_; rintro e w' ⟨rfl, rfl⟩
      rw [H1.out]
      go_wp2_with fail
      refine (HF.out _ _ HO.out).mono ?_; rintro e w1 ⟨rfl, hb1⟩
      have B1 := Lib.hid (HB.out.trans (hb1.mono HB.out.size))
      have O1 := Lib.hid (HO.out.keep hb1)
      have V1 := Lib.hid (HV.out.keep hb1)
      clear hb1
      go_wp2_with fail
      go_loopw [6, 7] (fun u i wr => ∃ (k : Nat) (L : List UInt8), k ≤ n ∧ i = .int .i64 k ∧ u = .string ⟨L.toArray⟩ ∧ frF m b F (fs.take k) = some L ∧ Below w1.heap.size w1 wr) (fun _ i _ => n - (intOf i).toNat)
      case atStart => exact ⟨0, F, Nat.zero_le _, rfl, rfl, HQ.out, Below.refl _ _⟩
      case round =>
        obtain ⟨k, L, hk, rfl, rfl, hfr, hbw⟩ := hrel
        have hL := HFL.out _ _ hfr
        have HFR := Lib.hid hfr
        have HBW := Lib.hid hbw
        have BB := Lib.hid (B1.out.trans (hbw.mono B1.out.size))
        clear hfr hbw
        by_cases hlt : k < n
        · have hkl : k < fs.length := by rw [HN.out]; exact hlt
          obtain ⟨f, hfk⟩ : ∃ f, fs[k] = f := ⟨_, rfl⟩
          have hmem : f ∈ fs := by rw [← hfk]; exact List.getElem_mem hkl
          have hmx := HMM.out f hmem
          unfold maxLen at hmx
          obtain ⟨A', n', c', e', hn', -, -, r⟩ := (V1.out.keep HBW.out)
          injection e' with e1 e2 e3
          subst e1; subst e2; subst e3
          obtain ⟨g, o, rfl, hlt0, hc⟩ := r (by omega)
          have hc0 := hc k hkl
          rw [hfk] at hc0
          have HT := Lib.hid (HFT.out k hkl)
          have HM := Lib.hid hmem
          have HFK := Lib.hid hfk
          clear hc r hn' hfk hmem
          have hbi := HBI.out
          cases h2 : isB f.data.toList
          · have e0 : frF m b F fs = none := HST.out (k + 1) (by rw [HT.out, HFR.out, HFK.out]; exact fr_no (by rw [h2]; simp))
            have HZ := Lib.hid (HNO.out e0)
            have HBF := Lib.hid (fun W => by have := hbi W f HM.out; rw [h2] at this; exact this)
            clear e0 h2 hbi
            go_wp2_with fail
            refine (HBF.out _).mono ?_; rintro e w' ⟨rfl, rfl⟩
            go_wp2_with fail
            go_ret2
            exact ⟨ret_sbz HZ.out, BB.out⟩
          · have HBF := Lib.hid (fun W => by have := hbi W f HM.out; rw [h2] at this; exact this)
            have H2 := Lib.hid h2
            have hsl : (stL m b f.data.toList).length ≤ 800 := by
              have h1 := HSL.out f
              have h2 := (isBt h2).1
              unfold stL; omega
            have r1 := fun W => add_lists W (stL m b f.data.toList) F (by omega)
            have r2 := fun W => add_lists W L (stL m b f.data.toList ++ F) (by rw [List.length_append]; omega)
            have hz1 := sz_list (L ++ (stL m b f.data.toList ++ F))
            clear h2 hbi
            by_cases h3 : (L ++ (stL m b f.data.toList ++ F)).length ≤ 400
            · have HT2 : Hid (frF m b F (fs.take (k + 1)) = some (L ++ (stL m b f.data.toList ++ F))) := by show _ = _; rw [HT.out, HFR.out, HFK.out]; exact fr_yes H2.out h3
              have h4 : ¬ (400 : Int) < ((L ++ (stL m b f.data.toList ++ F)).length : Int) := by omega
              have hG := Lib.hid (fun W q hk => HG.out W q f hk H2.out)
              generalize stL m b f.data.toList = S at *
              generalize S ++ F = SF at *
              generalize L ++ SF = LSF at *
              go_wp2_with fail
              refine (HBF.out _).mono ?_; rintro e w' ⟨rfl, rfl⟩
              go_wp2_with fail
              refine (hG.out _ _ (O1.out.keep HBW.out)).mono ?_; rintro e w3 ⟨rfl, hb3⟩
              have B3 := Lib.hid (HBW.out.trans (hb3.mono HBW.out.size))
              clear hb3
              go_wp2_with fail
              refine (HF.out _ _ (O1.out.keep B3.out)).mono ?_; rintro e w4 ⟨rfl, hb4⟩
              have B4 := Lib.hid (B3.out.trans (hb4.mono B3.out.size))
              clear hb4
              go_wp2_with fail
              go_roundw
              case rel => exact ⟨k + 1, LSF, by omega, by go_num, rfl, HT2.out, B4.out⟩
              case measure => simp [intOf]; omega
            · have e0 : frF m b F fs = none := HST.out (k + 1) (by rw [HT.out, HFR.out, HFK.out]; exact fr_no (fun e => h3 e.2))
              have HZ := Lib.hid (HNO.out e0)
              have h4 : (400 : Int) < ((L ++ (stL m b f.data.toList ++ F)).length : Int) := by omega
              have h5 : (L ++ (stL m b f.data.toList ++ F)).length ≤ 2000 := by simp only [List.length_append]; omega
              have hG := Lib.hid (fun W q hk => HG.out W q f hk H2.out)
              clear e0 h3
              generalize stL m b f.data.toList = S at *
              generalize S ++ F = SF at *
              generalize L ++ SF = LSF at *
              go_wp2_with fail
              refine (HBF.out _).mono ?_; rintro e w' ⟨rfl, rfl⟩
              go_wp2_with fail
              refine (hG.out _ _ (O1.out.keep HBW.out)).mono ?_; rintro e w3 ⟨rfl, hb3⟩
              have B3 := Lib.hid (HBW.out.trans (hb3.mono HBW.out.size))
              clear hb3
              go_wp2_with fail
              refine (HF.out _ _ (O1.out.keep B3.out)).mono ?_; rintro e w4 ⟨rfl, hb4⟩
              have B4 := Lib.hid (B1.out.trans ((B3.out.trans (hb4.mono B3.out.size)).mono B1.out.size))
              clear hb4
              go_wp2_with fail
              go_ret2
              exact ⟨ret_sbz HZ.out, B4.out⟩
        · have hnl : ¬ k < fs.length := by rw [HN.out]; exact hlt
          have e0 : frF m b F fs = some L := by rw [← HFR.out, HAL.out k hnl]
          have HZ := Lib.hid (HSM.out L e0)
          clear e0 hnl
          go_wp2_with fail
          go_ret2
          exact ⟨ret_sbz HZ.out, BB.out⟩

theorem bytes_two (L S F : List UInt8) : (Lib.byteCells L ++ Lib.strCells ⟨S.toArray⟩) ++ Lib.strCells ⟨F.toArray⟩ = Lib.byteCells (L ++ (S ++ F)) := by simp [Lib.byteCells, Lib.strCells]
theorem bytes_len1 (L S : List UInt8) : (Lib.byteCells L ++ Lib.strCells ⟨S.toArray⟩).length = L.length + S.length := by simp [Lib.byteCells, Lib.strCells]
theorem stOk_of {a b : Int} {l : List UInt8} (h1 : sOk a b = true) (h2 : isB l = true) (h3 : (stL a b l).length ≤ 400) : stOk a b l = true ∧ stV a b l = ⟨(stL a b l).toArray⟩ := by
  have e : stOk a b l = true := by unfold stOk; rw [h1, h2, decide_eq_true h3]; rfl
  exact ⟨e, stV_yes e⟩
theorem stOk_not {a b : Int} {l : List UInt8} (h : ¬ (isB l = true ∧ (stL a b l).length ≤ 400)) : stOk a b l = false := by
  unfold stOk
  cases h1 : isB l
  · simp
  · rw [decide_eq_false (fun e => h ⟨h1, e⟩)]; simp

set_option maxRecDepth 100000 in
set_option maxHeartbeats 4000000 in
theorem frameBits_impl (w : World) (a b : Int) (v : Value) (fs : List ByteArray) (h : RdS w v fs) (hm : ∀ s ∈ fs, s.size ≤ maxLen) :
    Calls Try.prog 26 #[.agg #[.int .i64 a, .int .i64 b], v] w fun e w' => e = .returned (.tuple #[.string (fbV a b fs), .bool (fbOk a b fs)]) ∧ Below w.heap.size w w' := by
  have HB : Hid (Below w.heap.size w (w.alloc (.cells #[.int .i64 a, .int .i64 b] 25))) := (Below.refl _ _).alloc (Nat.le_refl _) _
  have HO := Lib.hid (sbl_new w a b)
  have hR := h
  have HV := Lib.hid (h.keep HB.out)
  have hlen := h.len
  unfold maxLen at hlen
  obtain ⟨A, n, c, rfl, hn, -, -, -⟩ := h
  have RR := Lib.hid (fun (W : World) (hb : Below w.heap.size w W) => hR.keep hb)
  clear hR
  have HN := Lib.hid hn
  have HFLA := Lib.hid (fun W => flagOf_impl W a b)
  cases h1 : sOk a b
  · have e0 : fbOk a b fs = false := by unfold fbOk; rw [h1]; rfl
    rw [fbV_no e0, e0]
    rw [h1] at HFLA
    clear e0 h1 hm hn hlen
    go_enter Try.func26, Try.ntmps26
    go_wp2_with fail
    refine (HFLA.out _).mono ?_; rintro e w1 ⟨rfl, hb1⟩
    have B1 := Lib.hid (HB.out.trans (hb1.mono HB.out.size))
    clear hb1
    go_wp2_with fail
    go_ret2
    exact ⟨rfl, B1.out⟩
  · rw [h1] at HFLA
    by_cases h0 : n = 0
    · have e0 : fbOk a b fs = false := by unfold fbOk; rw [decide_eq_false (by omega)]; simp
      rw [fbV_no e0, e0]
      have hz : ((n : Int) == 0) = true := beq_t (by omega)
      clear e0 h1 hm hn hlen
      go_enter Try.func26, Try.ntmps26
      go_wp2_with fail
      refine (HFLA.out _).mono ?_; rintro e w1 ⟨rfl, hb1⟩
      have B1 := Lib.hid (HB.out.trans (hb1.mono HB.out.size))
      clear hb1
      go_wp2_with fail
      go_ret2
      exact ⟨rfl, B1.out⟩
    · have hz : ((n : Int) == 0) = false := beq_f (by omega)
      obtain ⟨ha, hb⟩ := sOk_p h1
      have hflv : flV a b = ⟨(flG a b).toArray⟩ := by unfold flV; rw [h1]; rfl
      rw [hflv] at HFLA
      have HFL := Lib.hid (frF_len a b (flG a b) (by rw [flG_len]; omega))
      have HFT := Lib.hid (frF_take a b (flG a b) fs)
      have HST := Lib.hid (frF_stop a b (flG a b) fs)
      have HSM := Lib.hid (@fb_some a b fs · h1 (by omega : 0 < fs.length) ·)
      have HNO := Lib.hid (@fb_none a b fs)
      have HMM := Lib.hid (fun f hf => hm f hf)
      have HSI := Lib.hid (fun W (f : ByteArray) (hf : f ∈ fs) => stuffBits_impl W a b f (hm f hf))
      have HY := Lib.hid (fun (f : ByteArray) => @stOk_of a b f.data.toList h1)
      have HNN := Lib.hid (fun (f : ByteArray) => @stOk_not a b f.data.toList)
      have hfl : (flG a b).length ≤ 13 := by rw [flG_len]; omega
      have HQ : Hid (frF a b (flG a b) (fs.take 0) = some (flG a b)) := rfl
      have HAL := Lib.hid (fun k (hk : ¬ k < fs.length) => List.take_of_length_le (l := fs) (i := k) (by omega))
      clear h1 hm hn ha hb h0 hflv
      generalize fbV a b fs = VV at *
      generalize fbOk a b fs = OK at *
      generalize flG a b = F at *
      go_enter Try.func26, Try.ntmps26
      go_wp2_with fail
      refine (HFLA.out _).mono ?_; rintro e w1 ⟨rfl, hb1⟩
      have B1 := Lib.hid (HB.out.trans (hb1.mono HB.out.size))
      have O1 := Lib.hid (HO.out.keep hb1)
      have V1 := Lib.hid (HV.out.keep hb1)
      clear hb1
      have hlow : w.heap.size < w1.heap.size := O1.out.lt
      have A1 := Blk.new w1 [.pointer none, .slice none 0 0] 66 w1.heap.size rfl
      have kb1 : Below w1.heap.size w1 (w1.alloc (.cells #[.pointer none, .slice none 0 0] 66)) := (Below.refl _ _).alloc (Nat.le_refl _) _
      have BL0 := Lib.hid (BlR.start A1 (Nat.lt_succ_self _))
      have O2 := Lib.hid (O1.out.keep kb1)
      have V2 := Lib.hid (V1.out.keep kb1)
      have B2 := Lib.hid (B1.out.trans (kb1.mono B1.out.size))
      have hs2 : w1.heap.size + 1 ≤ (w1.alloc (.cells #[.pointer none, .slice none 0 0] 66)).heap.size := by simp
      have HS2 := Lib.hid hs2
      clear A1 kb1 hs2
      go_wp2_with fail
      refine (blr_w _ _ _ ⟨F.toArray⟩ _ BL0.out (by rw [sz_list]; simp; omega) HS2.out).mono ?_; rintro e w3 ⟨rfl, hbl, hch⟩
      have hb0 : BlR (w1.heap.size + 1) w1.heap.size (Lib.byteCells F) w3 := by simpa [Lib.byteCells, Lib.strCells] using hbl
      have O3 := Lib.hid (O2.out.chg hch (by omega) (by omega))
      have B3 := Lib.hid (B2.out.trans (hch.below (by omega) (by omega)))
      have S3 := Lib.hid (Nat.le_trans HS2.out hch.size)
      have BL3 := Lib.hid hb0
      clear hbl hch hb0
      go_wp2_with fail
      go_loopw [29] (fun i wr => ∃ (k : Nat) (L : List UInt8), k ≤ n ∧ i = .int .i64 k ∧ frF a b F (fs.take k) = some L ∧ BlR (w1.heap.size + 1) w1.heap.size (Lib.byteCells L) wr ∧ Blk wr w.heap.size 25 (sV a b) ∧ Below w.heap.size w wr ∧ w1.heap.size + 1 ≤ wr.heap.size) (fun i _ => n - (intOf i).toNat)
      case atStart => exact ⟨0, F, Nat.zero_le _, rfl, HQ.out, BL3.out, O3.out, B3.out, S3.out⟩
      case round =>
        obtain ⟨k, L, hk, rfl, hfr, hbl, hob, hbw, hsz⟩ := hrel
        have hL := HFL.out _ _ hfr
        have HFR := Lib.hid hfr
        have HBW := Lib.hid hbw
        have HBL := Lib.hid hbl
        have HOB := Lib.hid hob
        clear hfr hbw hbl hob
        by_cases hlt : k < n
        · have hkl : k < fs.length := by rw [HN.out]; exact hlt
          obtain ⟨f, hfk⟩ : ∃ f, fs[k] = f := ⟨_, rfl⟩
          have hmem : f ∈ fs := by rw [← hfk]; exact List.getElem_mem hkl
          have hmx := HMM.out f hmem
          unfold maxLen at hmx
          have HRW := RR.out _ HBW.out
          obtain ⟨A', n', c', e', hn', -, -, r⟩ := HRW
          injection e' with e1 e2 e3
          subst e1; subst e2; subst e3
          obtain ⟨g, o, rfl, hlt0, hc⟩ := r (by omega)
          have hc0 := hc k hkl
          rw [hfk] at hc0
          have HT := Lib.hid (HFT.out k hkl)
          have HM := Lib.hid hmem
          have HFK := Lib.hid hfk
          clear hc r hn' hfk hmem
          obtain ⟨q0, q1⟩ := sbl_two HOB.out
          have hsi := HSI.out
          by_cases h2 : isB f.data.toList = true ∧ (stL a b f.data.toList).length ≤ 400
          · obtain ⟨y1, y2⟩ := HY.out f h2.1 h2.2
            have HSF := Lib.hid (fun W => by have := hsi W f HM.out; rw [y1, y2] at this; exact this)
            have H2 := Lib.hid h2
            obtain ⟨-, hsl⟩ := h2
            clear hsi y1 y2
            go_wp2_with fail
            refine (HSF.out _).mono ?_; rintro e w4 ⟨rfl, hb4⟩
            have BL4 := Lib.hid (HBL.out.keep hb4)
            have O4 := Lib.hid (HOB.out.keep hb4)
            have B4 := Lib.hid (HBW.out.trans (hb4.mono HBW.out.size))
            have S4 := Lib.hid (Nat.le_trans hsz hb4.size)
            clear hb4 q0 q1 hc0
            go_wp2_with fail
            refine (blr_w _ _ _ ⟨(stL a b f.data.toList).toArray⟩ _ BL4.out (by rw [sz_list, bcells_len]; omega) S4.out).mono ?_; rintro e w5 ⟨rfl, hbl5, hch5⟩
            have BL5 := Lib.hid hbl5
            have O5 := Lib.hid (O4.out.chg hch5 (by omega) (by omega))
            have B5 := Lib.hid (B4.out.trans (hch5.below (by omega) (by omega)))
            have S5 := Lib.hid (Nat.le_trans S4.out hch5.size)
            clear hbl5 hch5 BL4 O4
            go_wp2_with fail
            refine (blr_w _ _ _ ⟨F.toArray⟩ _ BL5.out (by rw [sz_list, bytes_len1]; omega) S5.out).mono ?_; rintro e w6 ⟨rfl, hbl6, hch6⟩
            rw [bytes_two] at hbl6
            have BL6 := Lib.hid hbl6
            have O6 := Lib.hid (O5.out.chg hch6 (by omega) (by omega))
            have B6 := Lib.hid (B5.out.trans (hch6.below (by omega) (by omega)))
            have S6 := Lib.hid (Nat.le_trans S5.out hch6.size)
            clear hbl6 hch6 BL5 O5
            have hl6 : (L ++ (stL a b f.data.toList ++ F)).length ≤ 2000 := by simp only [List.length_append]; omega
            have hbc := bcells_len (L ++ (stL a b f.data.toList ++ F))
            go_wp2_with fail
            refine (blr_len _ _ _ _ BL6.out (by rw [hbc]; omega)).mono ?_; rintro e w' ⟨rfl, rfl⟩
            rw [hbc]
            by_cases h3 : (L ++ (stL a b f.data.toList ++ F)).length ≤ 400
            · have HT2 : Hid (frF a b F (fs.take (k + 1)) = some (L ++ (stL a b f.data.toList ++ F))) := by show _ = _; rw [HT.out, HFR.out, HFK.out]; exact fr_yes H2.out.1 h3
              have h4 : ¬ (400 : Int) < ((L ++ (stL a b f.data.toList ++ F)).length : Int) := by omega
              generalize L ++ (stL a b f.data.toList ++ F) = LSF at *
              go_wp2_with fail
              go_roundw
              case rel => exact ⟨k + 1, LSF, by omega, by go_num, HT2.out, BL6.out, O6.out, B6.out, S6.out⟩
              case measure => simp [intOf]; omega
            · have e0 : frF a b F fs = none := HST.out (k + 1) (by rw [HT.out, HFR.out, HFK.out]; exact fr_no (fun e => h3 e.2))
              have HZ := Lib.hid (HNO.out e0)
              have h4 : (400 : Int) < ((L ++ (stL a b f.data.toList ++ F)).length : Int) := by omega
              clear e0 h3
              generalize L ++ (stL a b f.data.toList ++ F) = LSF at *
              go_wp2_with fail
              go_ret2
              exact ⟨ret_sbz HZ.out, B6.out⟩
          · have y1 := HNN.out f h2
            have HSF := Lib.hid (fun W => by have := hsi W f HM.out; rw [y1] at this; exact this)
            have e0 : frF a b F fs = none := HST.out (k + 1) (by rw [HT.out, HFR.out, HFK.out]; exact fr_no (fun e => h2 ⟨e.1, by have := e.2; simp only [List.length_append] at this; omega⟩))
            have HZ := Lib.hid (HNO.out e0)
            clear hsi y1 e0 h2
            go_wp2_with fail
            refine (HSF.out _).mono ?_; rintro e w4 ⟨rfl, hb4⟩
            have B4 := Lib.hid (HBW.out.trans (hb4.mono HBW.out.size))
            clear hb4 q0 q1 hc0
            go_wp2_with fail
            go_ret2
            exact ⟨ret_sbz HZ.out, B4.out⟩
        · have hnl : ¬ k < fs.length := by rw [HN.out]; exact hlt
          have e0 : frF a b F fs = some L := by rw [← HFR.out, HAL.out k hnl]
          have HZ := Lib.hid (HSM.out L e0)
          clear e0 hnl
          go_wp2_with fail
          refine (Go.Proofs.Try.Builder_String_any _ _ _ _ HBL.out.isB (by omega)).mono ?_; rintro e w6 ⟨rfl, hb6⟩
          have B6 := Lib.hid (HBW.out.trans (hb6.mono (by omega)))
          clear hb6
          go_wp2_with fail
          go_ret2
          exact ⟨ret_sbz HZ.out, B6.out⟩
end Go.Proofs.Ytllkojakeoennaa
