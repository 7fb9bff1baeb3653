/- Contracts of the program's isState, behind, words and EncodeBlocks. -/
import Derived.Test.YtjmaapbodacggaaEnP
import Derived.Test.YtjmaapbodacggaaBx
import Derived.Test.YtjmaapbodacggaaRd
import Derived.Test.YtjmaapbodacggaaBld
import Derived.Test.YtjmaapbodacggaaShelf
namespace Go.Proofs.Ytjmaapbodacggaa
open Go Go.RowKit
set_option linter.unusedVariables false

theorem ret_sib2 {a b : ByteArray} {x y : Int} {c d : Bool} (h : a = b) (h1 : x = y) (h2 : c = d) : Ending.returned (.tuple #[.string a, .int .i64 x, .bool c]) = .returned (.tuple #[.string b, .int .i64 y, .bool d]) := by rw [h, h1, h2]
theorem isB_keep {T e : TypeId} {B b : Nat} {bs : List Value} {w w' : World} (h : Lib.IsBuilder T e B b bs w) (hb : Below w.heap.size w w') : Lib.IsBuilder T e B b bs w' := by
  have key : ∀ p, Lib.BuilderAt T e B b p bs w → Lib.BuilderAt T e B b p bs w' := by
    intro p h
    have hlt := h.lt
    obtain ⟨hB, v, hbk, hown, hne⟩ := h
    exact ⟨hB, v, (hb.block b hlt).trans hbk, ownt_below hown hb, hne⟩
  rcases h with h | h
  · exact Or.inl (key _ h)
  · exact Or.inr (key _ h)

theorem isState_any (s : Int) (w : World) :
    Calls Try.prog 114 #[.int .i64 s] w fun e w' => e = .returned (.bool (stOk s)) ∧ w = w' := by
  by_cases h1 : s = -1
  · have HE : Hid (stOk s = true) := decide_eq_true (.inl h1)
    have s1 : (s == -1) = true := beq_t h1
    clear h1
    go_enter Try.func114, Try.ntmps114
    go_wp2_with fail
    go_ret
    exact ⟨ret_bool HE.out.symm, rfl⟩
  · have s1 : (s == -1) = false := beq_f h1
    by_cases h2 : s = 1
    · have HE : Hid (stOk s = true) := decide_eq_true (.inr h2)
      have s2 : (s == 1) = true := beq_t h2
      clear h1 h2
      go_enter Try.func114, Try.ntmps114
      go_wp2_with fail
      go_ret
      exact ⟨ret_bool HE.out.symm, rfl⟩
    · have HE : Hid (stOk s = false) := decide_eq_false (fun e => e.elim h1 h2)
      have s2 : (s == 1) = false := beq_f h2
      clear h1 h2
      go_enter Try.func114, Try.ntmps114
      go_wp2_with fail
      go_ret
      exact ⟨ret_bool HE.out.symm, rfl⟩

theorem behind_any (s : Int) (x : ByteArray) (w : World) (hx : isB x.data.toList = true) :
    Calls Try.prog 118 #[.int .i64 s, .string x] w fun e w' => e = .returned (.int .i64 (nxS s x)) ∧ Below w.heap.size w w' := by
  have hs : x.size ≤ 400 := by have := (isB_parts hx).1; simpa using this
  have hd := fun W => dis_impl x W (by unfold maxLen; omega)
  have hda : disA x.data.toList = disL x.data.toList := by unfold disA; rw [if_pos hx]
  rw [hda, hx] at hd
  have HD := Lib.hid hd
  have hn : nxS s x = if 0 < disL x.data.toList then 1 else if disL x.data.toList < 0 then -1 else s := rfl
  clear hd hx hs hda
  generalize disL x.data.toList = D at *
  by_cases h1 : 0 < D
  · have HE : Hid (nxS s x = 1) := by show _ = _; rw [hn, if_pos h1]
    clear hn
    go_enter Try.func118, Try.ntmps118
    go_wp2_with fail
    refine (HD.out _).mono ?_; rintro e w1 ⟨rfl, hb1⟩
    have HB1 := Lib.hid hb1
    clear hb1
    go_wp2_with fail
    go_ret
    exact ⟨ret_int HE.out.symm, HB1.out⟩
  · by_cases h2 : D < 0
    · have HE : Hid (nxS s x = -1) := by show _ = _; rw [hn, if_neg h1, if_pos h2]
      clear hn
      go_enter Try.func118, Try.ntmps118
      go_wp2_with fail
      refine (HD.out _).mono ?_; rintro e w1 ⟨rfl, hb1⟩
      have HB1 := Lib.hid hb1
      clear hb1
      go_wp2_with fail
      go_ret
      exact ⟨ret_int HE.out.symm, HB1.out⟩
    · have HE : Hid (nxS s x = s) := by show _ = _; rw [hn, if_neg h1, if_neg h2]
      clear hn
      go_enter Try.func118, Try.ntmps118
      go_wp2_with fail
      refine (HD.out _).mono ?_; rintro e w1 ⟨rfl, hb1⟩
      have HB1 := Lib.hid hb1
      clear hb1
      go_wp2_with fail
      go_ret
      exact ⟨ret_int HE.out.symm, HB1.out⟩

theorem words_st (d wd : Int) (A1 A2 : Option Addr) (n1 n2 c1 c2 : Nat) (s : Int) (hs : s = -1 ∨ s = 1) (w : World) :
    Calls Try.prog 116 #[.agg #[.int .i64 d, .int .i64 wd, .slice A1 n1 c1, .slice A2 n2 c2], .int .i64 s] w fun e w' => e = .returned (if s < 0 then .slice A1 n1 c1 else .slice A2 n2 c2) ∧ Below w.heap.size w w' := by
  rcases hs with rfl | rfl
  · exact words_minus d wd A1 A2 n1 n2 c1 c2 w
  · exact words_plus d wd A1 A2 n1 n2 c1 c2 w
/-- The cell of a word that is sent. -/
theorem word_cell2 {w : World} {vm vp : Value} {m p : List ByteArray} (hm : RdS w vm m) (hp : RdS w vp p) (s n : Int) (hs : s = -1 ∨ s = 1) (N : Nat) (lm : m.length = N) (lp : p.length = N) (h0 : 0 ≤ n) (h1 : n < N) :
    ∃ b o c, (if s < 0 then vm else vp) = .slice (some ⟨b, o, none⟩) N c ∧ b < w.heap.size ∧ w.cell? ⟨b, o + n.toNat, none⟩ = some (.string (wAt m p s n)) := by
  unfold wAt
  split
  · obtain ⟨A, k, c, e, hk, -, -, r⟩ := hm
    obtain ⟨b, o, rfl, hb, hc⟩ := r (by omega)
    have hlt : n.toNat < m.length := by omega
    rw [List.getD_eq_getElem?_getD, List.getElem?_eq_getElem hlt, Option.getD_some]
    exact ⟨b, o, c, by rw [e, ← hk, lm], hb, hc _ hlt⟩
  · obtain ⟨A, k, c, e, hk, -, -, r⟩ := hp
    obtain ⟨b, o, rfl, hb, hc⟩ := r (by omega)
    have hlt : n.toNat < p.length := by omega
    rw [List.getD_eq_getElem?_getD, List.getElem?_eq_getElem hlt, Option.getD_some]
    exact ⟨b, o, c, by rw [e, ← hk, lp], hb, hc _ hlt⟩

set_option maxHeartbeats 1600000 in
set_option maxRecDepth 100000 in
theorem encodeBlocks_impl (w : World) (d wd : Int) (vm vp vd : Value) (m p : List ByteArray) (s : Int) (xs : List Int) (hm : RdS w vm m) (hp : RdS w vp p) (hd : Rd w vd xs) (sm : ∀ t ∈ m, t.size ≤ 4000000) (sp : ∀ t ∈ p, t.size ≤ 4000000) (ll : p.length ≤ 4000000) :
    Calls Try.prog 65 #[.agg #[.int .i64 d, .int .i64 wd, vm, vp], .int .i64 s, vd] w fun e w' => e = .returned (.tuple #[.string (enV d wd m p s xs), .int .i64 (enN d wd m p s xs), .bool (enOk d wd m p s xs)]) ∧ Below w.heap.size w w' := by
  obtain ⟨A1, c1, e1⟩ := rds_sh hm
  obtain ⟨A2, c2, e2⟩ := rds_sh hp
  generalize hn1 : m.length = n1 at e1
  generalize hn2 : p.length = n2 at e2
  subst e1 e2
  have hlen := hd.len
  unfold maxLen at hlen
  have HST := Lib.hid (fun W => isState_any s W)
  have HM := Lib.hid hm
  have HP := Lib.hid hp
  have HD := Lib.hid hd
  have HV := Lib.hid (fun W h1 h2 => validBlockCode_impl W d wd (.slice A1 n1 c1) (.slice A2 n2 c2) m p h1 h2 sm sp ll)
  obtain ⟨A3, n, c, rfl, hn, -, -, r⟩ := hd
  rw [hn] at hlen
  have HN := Lib.hid hn
  have HR := Lib.hid r
  obtain ⟨W1, hW1⟩ : ∃ W1, W1 = w.alloc (.cells #[.int .i64 d, .int .i64 wd, .slice A1 n1 c1, .slice A2 n2 c2] 36) := ⟨_, rfl⟩
  have hB0 : Below w.heap.size w W1 := by rw [hW1]; exact (Below.refl _ _).alloc (Nat.le_refl _) _
  have hbk : Bk W1 w.heap.size (bcV d wd (.slice A1 n1 c1) (.slice A2 n2 c2)) := by rw [hW1]; exact Bk.new w (bcV d wd (.slice A1 n1 c1) (.slice A2 n2 c2)) _ _ rfl
  have HB0 := Lib.hid hB0
  have BK0 := Lib.hid hbk
  have HW := Lib.hid hW1
  clear hB0 hbk hW1 hm hp hn r sm sp ll
  cases hst : stOk s
  · have hf : enOk d wd m p s xs = false := by unfold enOk; rw [hst]; simp
    have HE := Lib.hid (en_no hf)
    have HF := Lib.hid hf
    rw [hst] at HST
    clear hst hf hn1 hn2
    go_enter Try.func65, Try.ntmps65
    go_wp2_with fail
    refine (HST.out _).mono ?_; rintro e w' ⟨rfl, rfl⟩
    go_wp2_with fail
    go_ret3
    exact ⟨ret_sib2 HE.out.1.symm HE.out.2.symm HF.out.symm, (Below.refl _ _).alloc (Nat.le_refl _) _⟩
  rw [hst] at HST
  have hs : s = -1 ∨ s = 1 := of_decide_eq_true hst
  cases hok : bcOk d wd m p
  · have hf : enOk d wd m p s xs = false := by unfold enOk; rw [hok]; rfl
    have HE := Lib.hid (en_no hf)
    have HF := Lib.hid hf
    rw [hok] at HV
    clear hst hf hn1 hn2 hok hs
    go_enter Try.func65, Try.ntmps65
    go_wp2_with fail
    refine (HST.out _).mono ?_; rintro e w' ⟨rfl, rfl⟩
    go_wp2_with fail
    rw [← HW.out]
    refine (HV.out _ (HM.out.keep HB0.out) (HP.out.keep HB0.out)).mono ?_; rintro e w2 ⟨rfl, hb2⟩
    have HB2 := Lib.hid (HB0.out.trans (hb2.mono HB0.out.size))
    clear hb2
    go_wp2_with fail
    go_ret3
    exact ⟨ret_sib2 HE.out.1.symm HE.out.2.symm HF.out.symm, HB2.out⟩
  rw [hok] at HV
  obtain ⟨⟨⟨d1, d2⟩, w1, w2⟩, lm, lp⟩ := bcOk_nums hok
  obtain ⟨d, rfl⟩ := Int.eq_ofNat_of_zero_le (show 0 ≤ d by omega)
  rw [Int.toNat_natCast] at lm lp
  have hpw : (2 : Int) ≤ 2 ^ d ∧ (2 : Int) ^ d ≤ 64 ∧ ((2 ^ d : Nat) : Int) = (2 : Int) ^ d := by
    have e1 : d = 1 ∨ d = 2 ∨ d = 3 ∨ d = 4 ∨ d = 5 ∨ d = 6 := by omega
    rcases e1 with rfl | rfl | rfl | rfl | rfl | rfl <;> decide
  obtain ⟨p1, p2, p3⟩ := hpw
  have hEn : enOk d wd m p s xs = (decide ((xs.length : Int) ≤ 400 / wd) && xs.all (inD d)) := by
    unfold enOk; rw [hok, hst, Int.toNat_natCast]; rfl
  rw [HN.out] at hEn
  by_cases g1 : (n : Int) ≤ 400 / wd
  rotate_left
  · have hf : enOk d wd m p s xs = false := by rw [hEn, decide_eq_false g1]; rfl
    have HE := Lib.hid (en_no hf)
    have HF := Lib.hid hf
    have t1 : decide (400 / wd < (n : Int)) = true := decide_eq_true (by omega)
    clear hEn hf g1 p3 hst hok hs lm lp hn1 hn2
    go_enter Try.func65, Try.ntmps65
    go_wp2_with fail
    refine (HST.out _).mono ?_; rintro e w' ⟨rfl, rfl⟩
    go_wp2_with fail
    rw [← HW.out]
    refine (HV.out _ (HM.out.keep HB0.out) (HP.out.keep HB0.out)).mono ?_; rintro e w2 ⟨rfl, hb2⟩
    have HB2 := Lib.hid (HB0.out.trans (hb2.mono HB0.out.size))
    have q1 := (BK0.out.keep hb2).c 1 _ rfl
    clear hb2
    go_wp2_with fail
    go_ret3
    exact ⟨ret_sib2 HE.out.1.symm HE.out.2.symm HF.out.symm, HB2.out⟩
  have h400 : 400 / wd ≤ 200 := Int.ediv_le_of_le_mul (by omega) (by omega)
  rw [decide_eq_true g1, Bool.true_and] at hEn
  have t1 : decide (400 / wd < (n : Int)) = false := decide_eq_false (by omega)
  have HEN := Lib.hid hEn
  have HOK := Lib.hid hok
  have HLM := Lib.hid lm
  have HLP := Lib.hid lp
  have hn200 : n ≤ 200 := by omega
  clear hEn g1 hok lm lp h400 hst hn1 hn2
  go_enter Try.func65, Try.ntmps65
  go_wp2_with fail
  refine (HST.out _).mono ?_; rintro e w' ⟨rfl, rfl⟩
  go_wp2_with fail
  rw [← HW.out]
  refine (HV.out _ (HM.out.keep HB0.out) (HP.out.keep HB0.out)).mono ?_; rintro e u2 ⟨rfl, hb2⟩
  have HB2 := Lib.hid (HB0.out.trans (hb2.mono HB0.out.size))
  have BK2 := Lib.hid (BK0.out.keep hb2)
  have q1 := BK2.out.c 1 _ rfl
  clear hb2 BK0 HB0 HW HV
  go_wp2_with fail
  clear q1 t1
  go_loopw [10, 33] (fun st i wr => ∃ k : Nat, k ≤ n ∧ i = .int .i64 k ∧ st = .int .i64 (encS m p s (xs.take k)).2 ∧ Lib.IsBuilder 111 5 u2.heap.size u2.heap.size (Lib.byteCells (encS m p s (xs.take k)).1.data.toList) wr ∧ Below u2.heap.size u2 wr ∧ (xs.take k).all (inD d) = true) (fun _ i _ => n - (intOf i).toNat)
  case atStart => exact ⟨0, Nat.zero_le _, rfl, rfl, Lib.fresh_isBuilder _ _ _, (Below.refl _ _).alloc (Nat.le_refl _) _, rfl⟩
  case round =>
    obtain ⟨k, hk, rfl, rfl, hbl, hbw, hf⟩ := hrel
    have HBL := Lib.hid hbl
    have HU := Lib.hid hbw
    have HB := Lib.hid (HB2.out.trans (hbw.mono HB2.out.size))
    have BK := Lib.hid (BK2.out.keep hbw)
    clear hbl hbw
    by_cases hlt : k < n
    · obtain ⟨b', o', rfl, hlt0, hcc⟩ := HR.out (by omega)
      have hkl : k < xs.length := by have := HN.out; omega
      have hx0 := (HB.out.cell (p := ⟨b', o' + k, none⟩) hlt0).trans (hcc k hkl)
      have hs2 := all_take_succ (inD d) xs k hkl
      rw [hf, Bool.true_and] at hs2
      have hbad := all_bad (inD d) xs k hkl
      rw [← HEN.out] at hbad
      have hst := encS_st m p s hs _ (xs.take k) rfl
      have hln := encS_len HOK.out s k (xs.take k) (by rw [List.length_take]; omega) hf
      have hsn := encS_snoc m p s (xs.take k) xs[k]
      rw [← List.take_succ_eq_append_getElem hkl] at hsn
      have hk0 : (0 : Int) ≤ (k : Int) := by omega
      have hk1 : (k : Int) < (n : Int) := by omega
      have HSN := Lib.hid hsn
      have q0 := BK.out.c 0 _ rfl
      clear hcc hf hsn
      generalize xs[k] = x at *
      by_cases hx : 0 ≤ x ∧ x ≤ 2 ^ d - 1
      · have HA : Hid ((xs.take (k + 1)).all (inD d) = true) := by show _ = _; rw [hs2]; exact decide_eq_true hx
        obtain ⟨x1, x2⟩ := hx
        have hwk := wAt_ok HOK.out (encS m p s (xs.take k)).2 x (decide_eq_true ⟨x1, by rw [Int.toNat_natCast]; exact x2⟩)
        obtain ⟨b3, o3, c3, hv3, hb3, hcell⟩ := word_cell2 HM.out HP.out (encS m p s (xs.take k)).2 x hst (2 ^ d) HLM.out HLP.out x1 (by omega)
        have HWO := Lib.hid (fun W => words_st d wd A1 A2 n1 n2 c1 c2 (encS m p s (xs.take k)).2 hst W)
        rw [hv3] at HWO
        have HNX := Lib.hid (fun W => behind_any (encS m p s (xs.take k)).2 (wAt m p (encS m p s (xs.take k)).2 x) W hwk.1)
        have hsz := hwk.2
        clear hs2 hbad hwk hv3 hst
        generalize hT : (encS m p s (xs.take k)).2 = T at *
        generalize hO : (encS m p s (xs.take k)).1 = O at *
        generalize wAt m p T x = X at *
        have hOs : O.size ≤ 2400 := by
          have h1 : wd * (k : Int) ≤ 12 * 200 := Int.mul_le_mul (by omega) (by omega) (by omega) (by omega)
          omega
        clear hT hO hln
        have t2 : x < ((2 ^ d : Nat) : Int) := by omega
        have hcx := HB.out.cell (p := ⟨b3, o3 + x.toNat, none⟩) hb3
        have HCX := Lib.hid (hcx.trans hcell)
        clear hcx hcell
        go_wp2_with fail
        refine (btw_yes _ _ _ _ x1 x2).mono ?_; rintro e w' ⟨rfl, rfl⟩
        obtain ⟨q0, q1, q2, q3⟩ := bk_all BK.out
        go_wp2_with fail
        refine (HWO.out _).mono ?_; rintro e w3 ⟨rfl, hb4⟩
        have hcw := (hb4.cell (p := ⟨b3, o3 + x.toNat, none⟩) (Nat.lt_of_lt_of_le hb3 HB.out.size)).trans HCX.out
        have HBL3 := Lib.hid (isB_keep HBL.out hb4)
        have HU3 := Lib.hid (HU.out.trans (hb4.mono HU.out.size))
        clear hb4 q0 q1 q2 q3 HCX HBL
        go_wp2_with fail
        refine (bld_write _ _ _ _ _ HBL3.out (by simp [Lib.byteCells]; omega) HU3.out.size).mono ?_; rintro e w4 ⟨rfl, hbl4, hb4⟩
        have HU4 := Lib.hid (HU3.out.trans hb4)
        have HBL4 := Lib.hid hbl4
        clear hb4 hbl4 hcw
        go_wp2_with fail
        refine (HNX.out _).mono ?_; rintro e w5 ⟨rfl, hb5⟩
        have HU5 := Lib.hid (HU4.out.trans (hb5.mono HU4.out.size))
        have HBL5 := Lib.hid (isB_keep (Or.inr HBL4.out) hb5)
        clear hb5
        go_wp2_with fail
        go_roundw
        case rel =>
          refine ⟨k + 1, by omega, by go_num, by rw [HSN.out], ?_, HU5.out, HA.out⟩
          have e : Lib.byteCells (O ++ X).data.toList = Lib.byteCells O.data.toList ++ Lib.strCells X := by
            rw [ByteArray.data_append]
            simp [Lib.byteCells, Lib.strCells]
          rw [HSN.out]
          show Lib.IsBuilder _ _ _ _ (Lib.byteCells (O ++ X).data.toList) _
          rw [e]; exact HBL5.out
        case measure => simp [intOf]; omega
      · have hf : enOk d wd m p s xs = false := hbad (decide_eq_false hx)
        have HE := Lib.hid (en_no hf)
        have HF := Lib.hid hf
        have HX := Lib.hid hx
        clear hs2 hbad hst hf hx hln
        go_wp2_with fail
        refine (btw_no _ _ _ _ HX.out).mono ?_; rintro e w' ⟨rfl, rfl⟩
        go_wp2_with fail
        go_ret3
        exact ⟨ret_sib2 HE.out.1.symm HE.out.2.symm HF.out.symm, HB.out⟩
    · obtain rfl : k = n := by omega
      rw [List.take_of_length_le (by have := HN.out; omega)] at hf HBL ⊢
      have hy : enOk d wd m p s xs = true := by rw [HEN.out]; exact hf
      have HE := Lib.hid (en_yes hy)
      have HF := Lib.hid hy
      clear hf hy
      go_wp2_with fail
      refine (Go.Proofs.Try.Builder_String_any _ _ _ _ HBL.out HU.out.size).mono ?_; rintro e w6 ⟨rfl, hb6⟩
      have HB6 := Lib.hid (HB2.out.trans ((HU.out.trans hb6).mono HB2.out.size))
      clear hb6
      go_wp2_with fail
      go_ret3
      exact ⟨ret_sib2 HE.out.1.symm HE.out.2.symm HF.out.symm, HB6.out⟩
end Go.Proofs.Ytjmaapbodacggaa
