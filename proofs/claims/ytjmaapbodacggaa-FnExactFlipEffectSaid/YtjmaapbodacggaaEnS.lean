/- Contracts of the model's l03State, l03List, l03Next, l03Encode and EncodeBlocks. -/
import Derived.Test.YtjmaapbodacggaaEnP
import Derived.Test.YtjmaapbodacggaaBi
import Derived.Test.YtjmaapbodacggaaRd
import Derived.Laws.Concat
namespace Go.Proofs.Ytjmaapbodacggaa
open Go Go.RowKit
set_option linter.unusedVariables false

theorem ret_sib {a b : ByteArray} {x y : Int} {c d : Bool} (h : a = b) (h1 : x = y) (h2 : c = d) : Ending.returned (.tuple #[.string a, .int .i64 x, .bool c]) = .returned (.tuple #[.string b, .int .i64 y, .bool d]) := by rw [h, h1, h2]

theorem l03State_any (s : Int) (w : World) :
    Calls Try.prog 109 #[.int .i64 s] w fun e w' => e = .returned (.bool (stOk s)) ∧ w = w' := by
  by_cases h1 : s = -1
  · have HE : Hid (stOk s = true) := decide_eq_true (.inl h1)
    have s1 : (s == -1) = true := beq_t h1
    clear h1
    go_enter Try.func109, Try.ntmps109
    go_wp2_with fail
    go_ret
    exact ⟨ret_bool HE.out.symm, rfl⟩
  · have s1 : (s == -1) = false := beq_f h1
    by_cases h2 : s = 1
    · have HE : Hid (stOk s = true) := decide_eq_true (.inr h2)
      have s2 : (s == 1) = true := beq_t h2
      clear h1 h2
      go_enter Try.func109, Try.ntmps109
      go_wp2_with fail
      go_ret
      exact ⟨ret_bool HE.out.symm, rfl⟩
    · have HE : Hid (stOk s = false) := decide_eq_false (fun e => e.elim h1 h2)
      have s2 : (s == 1) = false := beq_f h2
      clear h1 h2
      go_enter Try.func109, Try.ntmps109
      go_wp2_with fail
      go_ret
      exact ⟨ret_bool HE.out.symm, rfl⟩

theorem l03List_minus (w : World) (b : Nat) (d wd : Int) (vm vp : Value) (hc : Bk w b (bcV d wd vm vp)) :
    Calls Try.prog 112 #[.pointer (some ⟨b, 0, none⟩), .int .i64 (-1)] w fun e w' => e = .returned vm ∧ w = w' := by
  have c2 := hc.c 2 _ rfl
  clear hc
  go_enter Try.func112, Try.ntmps112
  go_wp2_with fail
  go_ret
  exact ⟨rfl, rfl⟩
theorem l03List_plus (w : World) (b : Nat) (d wd : Int) (vm vp : Value) (hc : Bk w b (bcV d wd vm vp)) :
    Calls Try.prog 112 #[.pointer (some ⟨b, 0, none⟩), .int .i64 1] w fun e w' => e = .returned vp ∧ w = w' := by
  have c3 := hc.c 3 _ rfl
  clear hc
  go_enter Try.func112, Try.ntmps112
  go_wp2_with fail
  go_ret
  exact ⟨rfl, rfl⟩

theorem l03Next_any (s : Int) (x : ByteArray) (w : World) (hx : isB x.data.toList = true) :
    Calls Try.prog 113 #[.int .i64 s, .string x] w fun e w' => e = .returned (.int .i64 (nxS s x)) ∧ w = w' := by
  have hs : x.size ≤ 400 := by have := (isB_parts hx).1; simpa using this
  have hd := fun W => l03Disparity_gen x W (by omega)
  rw [disW_bits hx] at hd
  have HD := Lib.hid hd
  have hn : nxS s x = if 0 < disL x.data.toList then 1 else if disL x.data.toList < 0 then -1 else s := rfl
  clear hd hx hs
  generalize disL x.data.toList = D at *
  by_cases h1 : 0 < D
  · have HE : Hid (nxS s x = 1) := by show _ = _; rw [hn, if_pos h1]
    clear hn
    go_enter Try.func113, Try.ntmps113
    go_wp2_with fail
    refine (HD.out _).mono ?_; rintro e w' ⟨rfl, rfl⟩
    go_wp2_with fail
    go_ret
    exact ⟨ret_int HE.out.symm, rfl⟩
  · by_cases h2 : D < 0
    · have HE : Hid (nxS s x = -1) := by show _ = _; rw [hn, if_neg h1, if_pos h2]
      clear hn
      go_enter Try.func113, Try.ntmps113
      go_wp2_with fail
      refine (HD.out _).mono ?_; rintro e w' ⟨rfl, rfl⟩
      go_wp2_with fail
      go_ret
      exact ⟨ret_int HE.out.symm, rfl⟩
    · have HE : Hid (nxS s x = s) := by show _ = _; rw [hn, if_neg h1, if_neg h2]
      clear hn
      go_enter Try.func113, Try.ntmps113
      go_wp2_with fail
      refine (HD.out _).mono ?_; rintro e w' ⟨rfl, rfl⟩
      go_wp2_with fail
      go_ret
      exact ⟨ret_int HE.out.symm, rfl⟩

/-- The cell of a word that is sent. -/
theorem word_cell {w : World} {vm vp : Value} {m p : List ByteArray} (hm : RdS w vm m) (hp : RdS w vp p) (s n : Int) (hs : s = -1 ∨ s = 1) (N : Nat) (lm : m.length = N) (lp : p.length = N) (h0 : 0 ≤ n) (h1 : n < N) :
    ∃ b o c, (if s < 0 then vm else vp) = .slice (some ⟨b, o, none⟩) N c ∧ b < w.heap.size ∧ w.cell? ⟨b, o + n.toNat, none⟩ = some (.string (wAt m p s n)) := by
  unfold wAt
  split
  · obtain ⟨A, k, c, e, hk, -, -, r⟩ := hm
    obtain ⟨b, o, rfl, hb, hc⟩ := r (by omega)
    have hlt : n.toNat < m.length := by omega
    rw [List.getD_eq_getElem?_getD, List.getElem?_eq_getElem hlt, Option.getD_some]
    exact ⟨b, o, c, by rw [e, ← hk, lm], hb, hc _ hlt⟩
  · obtain ⟨A, k, c, e, hk, -, -, r⟩ := hp
    obtain ⟨b, o, rfl, hb, hc⟩ := r (by omega)
    have hlt : n.toNat < p.length := by omega
    rw [List.getD_eq_getElem?_getD, List.getElem?_eq_getElem hlt, Option.getD_some]
    exact ⟨b, o, c, by rw [e, ← hk, lp], hb, hc _ hlt⟩
theorem l03List_st (w : World) (b : Nat) (d wd : Int) (vm vp : Value) (s : Int) (hs : s = -1 ∨ s = 1) (hc : Bk w b (bcV d wd vm vp)) :
    Calls Try.prog 112 #[.pointer (some ⟨b, 0, none⟩), .int .i64 s] w fun e w' => e = .returned (if s < 0 then vm else vp) ∧ w = w' := by
  rcases hs with rfl | rfl
  · exact l03List_minus w b d wd vm vp hc
  · exact l03List_plus w b d wd vm vp hc

/-- What the model's own step answers. -/
def eeOk (d wd : Int) (xs : List Int) : Bool := decide ((xs.length : Int) ≤ 400 / wd) && xs.all (inD d.toNat)

set_option maxHeartbeats 1600000 in
set_option maxRecDepth 100000 in
theorem l03Encode_any (w : World) (b : Nat) (d wd : Int) (vm vp vd : Value) (m p : List ByteArray) (xs : List Int) (s : Int) (hs : s = -1 ∨ s = 1) (hok : bcOk d wd m p = true) (hc : Bk w b (bcV d wd vm vp)) (hm : RdS w vm m) (hp : RdS w vp p) (hd : Rd w vd xs) :
    Calls Try.prog 110 #[.pointer (some ⟨b, 0, none⟩), .int .i64 s, vd] w fun e w' => e = .returned (.tuple #[.string (enV d wd m p s xs), .int .i64 (enN d wd m p s xs), .bool (enOk d wd m p s xs)]) ∧ ∃ q, w' = w.drewN q := by
  obtain ⟨⟨⟨d1, d2⟩, w1, w2⟩, lm, lp⟩ := bcOk_nums hok
  obtain ⟨d, rfl⟩ := Int.eq_ofNat_of_zero_le (show 0 ≤ d by omega)
  rw [Int.toNat_natCast] at lm lp
  have hpw : (2 : Int) ≤ 2 ^ d ∧ (2 : Int) ^ d ≤ 64 ∧ ((2 ^ d : Nat) : Int) = (2 : Int) ^ d := by
    have e1 : d = 1 ∨ d = 2 ∨ d = 3 ∨ d = 4 ∨ d = 5 ∨ d = 6 := by omega
    rcases e1 with rfl | rfl | rfl | rfl | rfl | rfl <;> decide
  obtain ⟨p1, p2, p3⟩ := hpw
  have hlen := hd.len
  unfold maxLen at hlen
  have hEn : enOk d wd m p s xs = (decide ((xs.length : Int) ≤ 400 / wd) && xs.all (inD d)) := by
    unfold enOk; rw [hok, show stOk s = true from decide_eq_true hs, Int.toNat_natCast]; rfl
  have c0 := hc.c 0 _ rfl
  have c1 := hc.c 1 _ rfl
  have HC := Lib.hid hc
  have HM := Lib.hid hm
  have HP := Lib.hid hp
  have HD := Lib.hid hd
  obtain ⟨A, n, c, rfl, hn, -, -, r⟩ := hd
  rw [hn] at hEn hlen
  have HN := Lib.hid hn
  have HR := Lib.hid r
  clear hn r hc hm hp
  by_cases g1 : (n : Int) ≤ 400 / wd
  rotate_left
  · have hf : enOk d wd m p s xs = false := by rw [hEn, decide_eq_false g1]; rfl
    have HE := Lib.hid (en_no hf)
    have HF := Lib.hid hf
    have t1 : decide (400 / wd < (n : Int)) = true := decide_eq_true (by omega)
    clear hEn hf g1 p3
    go_enter Try.func110, Try.ntmps110
    go_wp2_with fail
    go_ret3
    exact ⟨ret_sib HE.out.1.symm HE.out.2.symm HF.out.symm, 0, rfl⟩
  have h400 : 400 / wd ≤ 200 := by
    exact Int.ediv_le_of_le_mul (by omega) (by omega)
  rw [decide_eq_true g1, Bool.true_and] at hEn
  have t1 : decide (400 / wd < (n : Int)) = false := decide_eq_false (by omega)
  have HEN := Lib.hid hEn
  have HOK := Lib.hid hok
  have HLM := Lib.hid lm
  have HLP := Lib.hid lp
  have hn200 : n ≤ 200 := by omega
  clear hEn g1 hok lm lp h400
  go_enter Try.func110, Try.ntmps110
  go_wp2_with fail
  go_loopw [1, 9, 10] (fun st out i wr => ∃ k q : Nat, k ≤ n ∧ i = .int .i64 k ∧ st = .int .i64 (encS m p s (xs.take k)).2 ∧ out = .string (encS m p s (xs.take k)).1 ∧ wr = w.drewN q ∧ (xs.take k).all (inD d) = true) (fun _ _ i _ => n - (intOf i).toNat)
  case atStart => exact ⟨0, 0, Nat.zero_le _, rfl, rfl, rfl, rfl, rfl⟩
  case round =>
    obtain ⟨k, q, hk, rfl, rfl, rfl, rfl, hf⟩ := hrel
    clear t1
    by_cases hlt : k < n
    · obtain ⟨b', o', rfl, hlt0, hcc⟩ := HR.out (by omega)
      have hkl : k < xs.length := by have := HN.out; omega
      have hx0 := hcc k hkl
      have hs2 := all_take_succ (inD d) xs k hkl
      rw [hf, Bool.true_and] at hs2
      have hbad := all_bad (inD d) xs k hkl
      rw [← HEN.out] at hbad
      have hst := encS_st m p s hs _ (xs.take k) rfl
      have hln := encS_len HOK.out s k (xs.take k) (by rw [List.length_take]; omega) hf
      have hsn := encS_snoc m p s (xs.take k) xs[k]
      rw [← List.take_succ_eq_append_getElem hkl] at hsn
      have hk0 : (0 : Int) ≤ (k : Int) := by omega
      have hk1 : (k : Int) < (n : Int) := by omega
      have HSN := Lib.hid hsn
      clear hcc hf hsn
      generalize xs[k] = x at *
      by_cases hx : 0 ≤ x ∧ x ≤ 2 ^ d - 1
      · have HA : Hid ((xs.take (k + 1)).all (inD d) = true) := by show _ = _; rw [hs2]; exact decide_eq_true hx
        obtain ⟨x1, x2⟩ := hx
        have hwk := wAt_ok HOK.out (encS m p s (xs.take k)).2 x (decide_eq_true ⟨x1, by rw [Int.toNat_natCast]; exact x2⟩)
        obtain ⟨b3, o3, c3, hv3, hb3, hcell⟩ := word_cell HM.out HP.out (encS m p s (xs.take k)).2 x hst (2 ^ d) HLM.out HLP.out x1 (by omega)
        have HLI := Lib.hid (fun W h => l03List_st W b d wd vm vp (encS m p s (xs.take k)).2 hst h)
        rw [hv3] at HLI
        have HNX := Lib.hid (fun W => l03Next_any (encS m p s (xs.take k)).2 (wAt m p (encS m p s (xs.take k)).2 x) W hwk.1)
        have hsz := hwk.2
        clear hs2 hbad hwk hv3 hst
        generalize hT : (encS m p s (xs.take k)).2 = T at *
        generalize hO : (encS m p s (xs.take k)).1 = O at *
        generalize wAt m p T x = X at *
        have hOs : O.size ≤ 2400 := by
          have h1 : wd * (k : Int) ≤ 12 * 200 := Int.mul_le_mul (by omega) (by omega) (by omega) (by omega)
          omega
        have r1 : ∀ W : World, (Op.stringOp .add O X).run Try.prog W = .ok (.string (O ++ X)) W := fun W => run_string_add_sum W O X (by omega)
        have HTT := Lib.hid hT
        have HOO := Lib.hid hO
        clear hT hO hln
        have t2 : x < ((2 ^ d : Nat) : Int) := by omega
        go_wp2_with fail
        go_quiet ((go_at_call 61; exact quiet_leftq (l00In_yes _ _ _ _ x1 x2)))
        go_wp2_with fail
        rw [World.drewN_drewN]
        go_quiet ((go_at_call 112; exact quiet_leftq (HLI.out _ (HC.out.drewN _))))
        go_wp2_with fail
        refine (HNX.out _).mono ?_; rintro e w' ⟨rfl, rfl⟩
        go_wp2_with fail
        go_roundw
        case rel => exact ⟨k + 1, _, by omega, by go_num, by rw [HSN.out], by rw [HSN.out], rfl, HA.out⟩
        case measure => simp [intOf]; omega
      · have hf : enOk d wd m p s xs = false := hbad (decide_eq_false hx)
        have HE := Lib.hid (en_no hf)
        have HF := Lib.hid hf
        have HX := Lib.hid hx
        clear hs2 hbad hst hf hx hln
        go_wp2_with fail
        go_quiet ((go_at_call 61; exact quiet_leftq (l00In_no _ _ _ _ HX.out)))
        go_wp2_with fail
        go_ret3
        exact ⟨ret_sib HE.out.1.symm HE.out.2.symm HF.out.symm, _, World.drewN_drewN _ _ _⟩
    · obtain rfl : k = n := by omega
      rw [List.take_of_length_le (by have := HN.out; omega)] at hf ⊢
      have hy : enOk d wd m p s xs = true := by rw [HEN.out]; exact hf
      have HE := Lib.hid (en_yes hy)
      have HF := Lib.hid hy
      clear hf hy
      go_wp2_with fail
      go_ret3
      exact ⟨ret_sib HE.out.1.symm HE.out.2.symm HF.out.symm, _, rfl⟩

theorem enOk_bc {d wd : Int} {m p : List ByteArray} {s : Int} {xs : List Int} (h : bcOk d wd m p = false) : enOk d wd m p s xs = false := by unfold enOk; rw [h]; rfl
theorem enOk_st {d wd : Int} {m p : List ByteArray} {s : Int} {xs : List Int} (h : stOk s = false) : enOk d wd m p s xs = false := by unfold enOk; rw [h]; simp

set_option maxRecDepth 100000 in
theorem encodeBlocks_spec (w : World) (d wd : Int) (vm vp vd : Value) (m p : List ByteArray) (s : Int) (xs : List Int) (hm : RdS w vm m) (hp : RdS w vp p) (hd : Rd w vd xs) (sm : ∀ t ∈ m, t.size ≤ 4000000) (sp : ∀ t ∈ p, t.size ≤ 4000000) :
    Calls Try.prog 60 #[.agg #[.int .i64 d, .int .i64 wd, vm, vp], .int .i64 s, vd] w fun e w' => e = .returned (.tuple #[.string (enV d wd m p s xs), .int .i64 (enN d wd m p s xs), .bool (enOk d wd m p s xs)]) ∧ Below w.heap.size w w' := by
  obtain ⟨A1, c1, e1⟩ := rds_sh hm
  obtain ⟨A2, c2, e2⟩ := rds_sh hp
  obtain ⟨A3, n3, c3, e3⟩ : ∃ A n c, vd = .slice A n c := by obtain ⟨A, n, c, e, -⟩ := hd; exact ⟨A, n, c, e⟩
  generalize m.length = n1 at e1
  generalize p.length = n2 at e2
  subst e1 e2 e3
  have HB : Hid (Below w.heap.size w (w.alloc (.cells #[.int .i64 d, .int .i64 wd, .slice A1 n1 c1, .slice A2 n2 c2] 36))) := (Below.refl _ _).alloc (Nat.le_refl _) _
  have HBK := Lib.hid (Bk.new w (bcV d wd (.slice A1 n1 c1) (.slice A2 n2 c2)) 36 _ rfl)
  have HC := Lib.hid (l03Is_any _ w.heap.size d wd _ _ m p HBK.out (hm.keep HB.out) (hp.keep HB.out) sm sp)
  have HST := Lib.hid (fun W => l03State_any s W)
  cases hok : bcOk d wd m p
  · have hf := enOk_bc (s := s) (xs := xs) hok
    have HE := Lib.hid (en_no hf)
    have HF := Lib.hid hf
    rw [hok] at HC
    clear hm hp hd sm sp hok hf
    go_enter Try.func60, Try.ntmps60
    go_wp2_with fail
    refine HC.out.mono ?_; rintro e w' ⟨rfl, q, rfl⟩
    go_wp2_with fail
    go_ret3
    exact ⟨ret_sib HE.out.1.symm HE.out.2.symm HF.out.symm, below_drewN HB.out q⟩
  rw [hok] at HC
  cases hst : stOk s
  · have hf := enOk_st (d := d) (wd := wd) (m := m) (p := p) (xs := xs) hst
    have HE := Lib.hid (en_no hf)
    have HF := Lib.hid hf
    rw [hst] at HST
    clear hm hp hd sm sp hok hst hf
    go_enter Try.func60, Try.ntmps60
    go_wp2_with fail
    refine HC.out.mono ?_; rintro e w' ⟨rfl, q, rfl⟩
    go_wp2_with fail
    refine (HST.out _).mono ?_; rintro e w' ⟨rfl, rfl⟩
    go_wp2_with fail
    go_ret3
    exact ⟨ret_sib HE.out.1.symm HE.out.2.symm HF.out.symm, below_drewN HB.out q⟩
  rw [hst] at HST
  have hs : s = -1 ∨ s = 1 := of_decide_eq_true hst
  have HX := Lib.hid (fun q => l03Encode_any _ w.heap.size d wd _ _ _ m p xs s hs hok (HBK.out.drewN q) ((hm.keep HB.out).drewN q) ((hp.keep HB.out).drewN q) ((hd.keep HB.out).drewN q))
  clear hm hp hd sm sp hok hst hs
  generalize enV d wd m p s xs = V at *
  generalize enN d wd m p s xs = N at *
  generalize enOk d wd m p s xs = K at *
  go_enter Try.func60, Try.ntmps60
  go_wp2_with fail
  refine HC.out.mono ?_; rintro e w' ⟨rfl, q, rfl⟩
  go_wp2_with fail
  refine (HST.out _).mono ?_; rintro e w' ⟨rfl, rfl⟩
  go_wp2_with fail
  refine (HX.out _).mono ?_; rintro e w' ⟨rfl, q2, rfl⟩
  go_wp2_with fail
  go_ret3
  exact ⟨rfl, by first | exact below_drewN (below_drewN HB.out q) q2 | exact below_drewN HB.out (q + q2)⟩
end Go.Proofs.Ytjmaapbodacggaa
