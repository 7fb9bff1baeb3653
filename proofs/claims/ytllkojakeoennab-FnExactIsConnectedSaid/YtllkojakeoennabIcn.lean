/- Both IsConnected. -/
import Derived.Test.YtllkojakeoennabRcf
import Derived.Test.YtllkojakeoennabGv
import Derived.Deep.RegionHeld3
namespace Go.Proofs.Ytllkojakeoennab
open Go Go.RowKit
set_option linter.unusedVariables false
set_option linter.unusedSimpArgs false

def fullAt (g : List (List Int)) (y : Nat) : Bool := decide (g.length ≤ (reachM g (y : Int) g.length).length)
def conn (g : List (List Int)) : Bool := isG g && (List.range g.length).all (fullAt g)
theorem conn_no {g : List (List Int)} {k : Nat} (hk : k < g.length) (h : fullAt g k = false) : conn g = false := by
  unfold conn
  rw [show (List.range g.length).all (fullAt g) = false from by
    rw [List.all_eq_false]
    exact ⟨k, List.mem_range.2 hk, by rw [h]; decide⟩]
  simp
theorem conn_yes {g : List (List Int)} (hg : isG g = true) (h : ∀ k, k < g.length → fullAt g k = true) : conn g = true := by
  unfold conn
  rw [hg, Bool.true_and, List.all_eq_true]
  intro k hk
  exact h k (List.mem_range.1 hk)
/-- What a block that is known whole gives to a load of it, and of its first number. -/
theorem rows_of {W : World} {b : Nat} {C : Array Value} {v : Value} {T : TypeId} (h : W.heap[b]? = some (.cells C T (0, 0))) (h0 : C[0]? = some v) : W.rangeAt b 0 C.toList ∧ W.cell? ⟨b, 0, none⟩ = some v :=
  ⟨fun j x hx => (cell_of_row W b (0 + j) C T (0, 0) h).trans (by rw [Nat.zero_add]; simpa using hx), (cell_of_row W b 0 C T (0, 0) h).trans h0⟩
section
variable {P : Program} {ops : Array Oper} {Q : Exit → Act → World → Prop} {md : Region.Mode} {S : World → Prop}
/-- An operation that yields wherever S holds is taken first; its temporary is named. -/
theorem takeY {i : Nat} {oi : Oper} {d : Option Tmp} {v : Value} {fuel : Nat} {listed : Array Bool} {a : Act} {w : World} (hi : ops[i]? = some oi) (hd : oi.dst = d)
    (hs : Region.noSelect ops = true) (hf : Region.free md ops listed i = true) (hr : (Region.ready md ops listed).contains i = true)
    (hQ : ∀ c a w, Q (.panic c) (a.put oi.dst v) w → Q (.panic c) a w) (hy : YieldsIf P ops S oi v a) (hS : S w)
    (h : wpAnyH P md ops Q S fuel (listed.setIfInBounds i true) (a.put d v) w) : wpAnyH P md ops Q S (fuel + 1) listed a w := by
  subst hd
  exact wpAnyH_take hi hs hf hr hQ hy hS h
end
theorem inS_nat {g : List (List Int)} {k : Nat} (h : k < g.length) : inS g.length (k : Int) := ⟨by omega, by omega⟩

set_option maxRecDepth 100000 in
set_option maxHeartbeats 2000000 in
theorem l02Connected_any (w : World) (b : Nat) (v : Value) (g : List (List Int)) (hcv : w.cell? ⟨b, 0, none⟩ = some v) (h : RdG w v g) (hg : isG g = true) :
    Calls Try.prog 104 #[.pointer (some ⟨b, 0, none⟩)] w fun e w' => e = .returned (.bool (conn g)) ∧ Below w.heap.size w w' := by
  obtain ⟨A, c, rfl⟩ := rdg_shape h
  have HC := Lib.hid hcv
  have HL : Hid (∀ (W : World) (k : Nat), Below w.heap.size w W → k < g.length → Calls Try.prog 97 #[.pointer (some ⟨b, 0, none⟩), .int .i64 k] W fun e w' => ∃ u, e = .returned u ∧ Own w' W.heap.size u (reachM g k g.length) ∧ Below W.heap.size W w') := by
    show ∀ (W : World) (k : Nat), _
    exact fun W k hb hk => l02Reached_any W b _ g k (cell_keep hcv hb) (h.keep hb) hg (inS_nat hk)
  have HNO := Lib.hid (fun (k : Nat) (hk : k < g.length) (h : fullAt g k = false) => conn_no hk h)
  have HYES := Lib.hid (conn_yes hg)
  have HGL := isG_le hg
  clear hcv h hg
  generalize hV : conn g = V at *
  clear hV
  go_enter Try.func104, Try.ntmps104
  go_wp2_with fail
  go_loopw [3] (fun i wr => ∃ k : Nat, k ≤ g.length ∧ i = .int .i64 k ∧ (∀ j, j < k → fullAt g j = true) ∧ Below w.heap.size w wr) (fun i _ => g.length - (intOf i).toNat)
  case atStart => exact ⟨0, Nat.zero_le _, rfl, fun j h => by omega, Below.refl _ _⟩
  case round =>
    obtain ⟨k, hk, rfl, hall, hbw⟩ := hrel
    have HB := Lib.hid hbw
    have HBD := Lib.hid hbw.drew
    have HA := Lib.hid hall
    have q0 := cell_keep HC.out hbw
    clear hall hbw
    by_cases hlt : k < g.length
    · have hlt' : (k : Int) < (g.length : Int) := by omega
      go_wp2_with fail
      go_region_held3 (fun w' => w'.cell? ⟨b, 0, none⟩ = some (.slice A g.length c)) ((first | with_reducible exact cell_keep HC.out B7.out | with_reducible exact cell_keep HC.out HBD.out | fail))
        (first
          | (go_at_call 97; refine (HL.out _ k HBD.out hlt).mono ?_; rintro e u7 ⟨v7, rfl, ho7, hb7⟩; have B7 := Lib.hid (HBD.out.trans (hb7.mono HBD.out.size)); obtain ⟨A7, c7, rfl⟩ := own_shape ho7; clear hb7 ho7)
          | fail)
      all_goals
        cases hf : fullAt g k
        · have HN := Lib.hid (HNO.out k hlt hf)
          have hlt7 : ((reachM g (k : Int) g.length).length : Int) < (g.length : Int) := by have := of_decide_eq_false hf; omega
          clear hf
          go_wp2_with fail
          go_ret
          exact ⟨ret_bool HN.out.symm, B7.out⟩
        · have HA2 : Hid (∀ j, j < k + 1 → fullAt g j = true) := by
            show ∀ j, _
            intro j hj
            by_cases e : j = k
            · rw [e]; exact hf
            · exact HA.out j (by omega)
          have hlt7 : ¬ ((reachM g (k : Int) g.length).length : Int) < (g.length : Int) := by have := of_decide_eq_true hf; omega
          clear hf
          go_wp2_with fail
          go_roundw
          case rel => exact ⟨k + 1, by omega, by go_num, HA2.out, B7.out⟩
          case measure => first | (simp [intOf]; done) | (simp [intOf]; omega)
    · obtain rfl : k = g.length := by omega
      have HY := Lib.hid (HYES.out HA.out)
      go_wp2_with fail
      go_ret
      exact ⟨ret_bool HY.out.symm, HB.out⟩

set_option maxRecDepth 100000 in
theorem isConnected_spec (w : World) (v : Value) (g : List (List Int)) (h : RdG w v g) :
    Calls Try.prog 47 #[.agg #[v]] w fun e w' => e = .returned (.bool (conn g)) ∧ Below w.heap.size w w' := by
  obtain ⟨A, n, c, rfl⟩ := rdg_sh h
  have HR := Lib.hid (h.keep ((Below.refl _ _).alloc (Nat.le_refl _) (.cells #[.slice A n c] 53)))
  have HB0 : Hid (Below w.heap.size w (w.alloc (.cells #[.slice A n c] 53))) := (Below.refl _ _).alloc (Nat.le_refl _) _
  have HO := Lib.hid (OneC.new w (.slice A n c) 53)
  have HI := Lib.hid (l02Is_any _ _ _ g HO.out.1 HR.out)
  clear h
  cases h1 : isG g
  · have HN : Hid (conn g = false) := by show _ = _; unfold conn; rw [h1]; rfl
    rw [h1] at HI
    clear h1
    go_enter Try.func47, Try.ntmps47
    go_wp2_with fail
    refine HI.out.mono ?_; rintro e w1 ⟨rfl, rfl⟩
    go_wp2_with fail
    go_ret
    exact ⟨ret_bool HN.out.symm, HB0.out⟩
  · have HCN := Lib.hid (l02Connected_any _ _ _ g HO.out.1 HR.out h1)
    rw [h1] at HI
    clear h1
    go_enter Try.func47, Try.ntmps47
    go_wp2_with fail
    refine HI.out.mono ?_; rintro e w1 ⟨rfl, rfl⟩
    go_wp2_with fail
    refine HCN.out.mono ?_; rintro e w2 ⟨rfl, hb2⟩
    have HB2 := Lib.hid (HB0.out.trans (hb2.mono HB0.out.size))
    clear hb2
    go_wp2_with fail
    go_ret
    exact ⟨rfl, HB2.out⟩

set_option maxRecDepth 100000 in
set_option maxHeartbeats 4000000 in
theorem isConnected_impl (w : World) (v : Value) (g : List (List Int)) (h : RdG w v g) :
    Calls Try.prog 48 #[.agg #[v]] w fun e w' => e = .returned (.bool (conn g)) ∧ Below w.heap.size w w' := by
  obtain ⟨A, n, c, rfl⟩ := rdg_sh h
  have HR := Lib.hid (h.keep ((Below.refl _ _).alloc (Nat.le_refl _) (.cells #[.slice A n c] 53)))
  have HB0 : Hid (Below w.heap.size w (w.alloc (.cells #[.slice A n c] 53))) := (Below.refl _ _).alloc (Nat.le_refl _) _
  have HS : Hid ((Try.prog.info? 113).map (·.size) = some (tabA g).size) := by show _ = _; rw [info64, tabA_size]
  have HS2 : Hid (zeroA.size = (tabA g).size) := by show _ = _; rw [tabA_size]; rfl
  clear h
  cases h1 : isG g
  · have HN : Hid (conn g = false) := by show _ = _; unfold conn; rw [h1]; rfl
    have H1 := Lib.hid h1
    clear h1
    go_enter Try.func48, Try.ntmps48
    go_wp2_with fail
    refine (tableOf_any _ _ g HR.out).mono ?_; rintro e w1 ⟨rfl, hb1⟩
    have HB1 := Lib.hid (HB0.out.trans (hb1.mono HB0.out.size))
    rw [H1.out]
    clear hb1
    go_wp2_with (refine wpList_store_abs rfl 113 (.tmp 3) (.tmp 9) rfl _ _ rfl rfl 113 _ (heap_alloc_at _ _ _ rfl) HS.out HS2.out (tabA_all _) ?_)
    intro w2 hg2 hb2 hz2
    have HB2 : Hid (Below w.heap.size w w2) := (HB1.out.alloc HB1.out.size _).trans (hb2.out.mono HB1.out.size)
    clear hg2 hb2 hz2
    go_wp2_with fail
    go_ret
    exact ⟨ret_bool HN.out.symm, HB2.out⟩
  · have H1 := Lib.hid h1
    have HT : Hid (tabA g = (tabL g.length g).toArray) := by show _ = _; unfold tabA; rw [if_pos h1]
    have HTA : Hid ((tabA g)[0]? = some (.int .i64 (g.length : Int))) := tabA_at0 g h1
    have HRF : Hid (∀ (W : World) (k : Nat), k < g.length → Calls Try.prog 100 #[.agg (tabA g), .int .i64 k] W fun e w' => ∃ u, e = .returned u ∧ Own w' W.heap.size u (reachM g k g.length) ∧ Below W.heap.size W w') := by
      show ∀ (W : World) (k : Nat), _
      intro W k hk
      rw [HT.out]
      exact reachedFrom_any W g k h1 (inS_nat hk)
    have HNO := Lib.hid (fun (k : Nat) (hk : k < g.length) (h : fullAt g k = false) => conn_no hk h)
    have HYES := Lib.hid (conn_yes h1)
    have HGL := isG_le h1
    have HALL := Lib.hid (tabA_all g)
    obtain ⟨C, hC⟩ : ∃ C, tabA g = C := ⟨_, rfl⟩
    have HC := Lib.hid hC
    rw [hC] at HRF HTA HS HS2 HALL
    have HLD : Hid (∀ (b : Nat) (W : World), W.rangeAt b 0 C.toList → (Instr.loadAt 113 (.pointer (some ⟨b, 0, none⟩))).run Try.prog W = .ok (.agg C) W) := by
      show ∀ (b : Nat) (W : World), _
      intro b W h
      have := run_loadAt_mid (P := Try.prog) W b 0 113 C.toList _ h rfl rfl (by rw [HS.out]; simp)
      simpa using this
    clear h1 HT hC
    generalize hV : conn g = V at *
    clear hV
    go_enter Try.func48, Try.ntmps48
    go_wp2_with fail
    refine (tableOf_any _ _ g HR.out).mono ?_; rintro e w1 ⟨rfl, hb1⟩
    have HB1 := Lib.hid (HB0.out.trans (hb1.mono HB0.out.size))
    rw [H1.out]
    rw [HC.out]
    clear hb1
    go_wp2_with (refine wpList_store_abs rfl 113 (.tmp 3) (.tmp 9) rfl _ _ rfl rfl 113 _ (heap_alloc_at _ _ _ rfl) HS.out HS2.out HALL.out ?_)
    intro w2 hg2 hb2 hz2
    have HB2 : Hid (Below w.heap.size w w2) := (HB1.out.alloc HB1.out.size _).trans (hb2.out.mono HB1.out.size)
    have HZ2 : Hid (w1.heap.size < w2.heap.size) := by show _ < _; have h6 : w2.heap.size = _ := hz2.out; rw [h6]; simp
    have c0 := (rows_of hg2.out HTA.out).2
    clear hb2 hz2
    go_wp2_with fail
    clear c0
    have HL2 := Lib.hid (HLD.out w1.heap.size)
    go_loopw [15] (fun i wr => ∃ k : Nat, k ≤ g.length ∧ i = .int .i64 k ∧ (∀ j, j < k → fullAt g j = true) ∧ wr.heap[w1.heap.size]? = some (.cells C 113 (0, 0)) ∧ w1.heap.size < wr.heap.size ∧ Below w.heap.size w wr) (fun i _ => g.length - (intOf i).toNat)
    case atStart => exact ⟨0, Nat.zero_le _, rfl, fun j h => by omega, hg2.out, HZ2.out, HB2.out⟩
    case round =>
      obtain ⟨k, hk, rfl, hall, htb, hsz, hbw⟩ := hrel
      have HB := Lib.hid hbw
      have HBD := Lib.hid hbw.drew
      have HA := Lib.hid hall
      have HTB : Hid (wr.drew.heap[w1.heap.size]? = some (.cells C 113 (0, 0))) := htb
      have HSZ : Hid (w1.heap.size < wr.drew.heap.size) := hsz
      have cr := (rows_of htb HTA.out).2
      clear hall hbw htb hsz hg2 HZ2 HB2
      by_cases hlt : k < g.length
      · have hlt' : (k : Int) < (g.length : Int) := by omega
        go_wp2_with fail
        clear cr
        refine wp_region_held_drew (S := fun w' => w'.rangeAt w1.heap.size 0 C.toList ∧ w'.cell? ⟨w1.heap.size, 0, none⟩ = some (.int .i64 (g.length : Int))) (by kernel_rfl) (rows_of HTB.out HTA.out) (fun hHeld => ?_)
        refine takeY (i := 0) (v := .agg C) rfl rfl (by kernel_rfl) (by kernel_rfl) (by kernel_rfl) (fun _ _ _ h => h) (yieldsIf_load_mid (by rfl) 113 (.tmp 3) rfl w1.heap.size 0 rfl C.toList _ (fun w h => h.1) Try.underlying113 rfl (by rw [HS.out]; simp)) hHeld ?_
        simp only [Act.put, List.setIfInBounds_toArray, List.set_cons_zero, List.set_cons_succ]
        refine takeY (i := 1) (v := .int .i64 (k : Int)) rfl rfl (by kernel_rfl) (by kernel_rfl) (by kernel_rfl) (fun _ _ _ h => h) (Or.inl ⟨by rfl, fun w _ => by rfl⟩) hHeld ?_
        simp only [Act.put, List.setIfInBounds_toArray, List.set_cons_zero, List.set_cons_succ]
        refine takeY (i := 4) (v := .pointer (some ⟨w1.heap.size, 0, none⟩)) rfl rfl (by kernel_rfl) (by kernel_rfl) (by kernel_rfl) (fun _ _ _ h => h) (Or.inl ⟨by rfl, fun w _ => by first | rfl | (go_simp; done)⟩) hHeld ?_
        simp only [Act.put, List.setIfInBounds_toArray, List.set_cons_zero, List.set_cons_succ]
        refine takeY (i := 5) (v := .int .i64 (g.length : Int)) rfl rfl (by kernel_rfl) (by kernel_rfl) (by kernel_rfl) (fun _ _ _ h => h) (Or.inl ⟨by rfl, fun w hw => by obtain ⟨_, hw2⟩ := hw; go_simp⟩) hHeld ?_
        simp only [Act.put, List.setIfInBounds_toArray, List.set_cons_zero, List.set_cons_succ]
        refine wpAnyH_ready (rs := [2]) (by kernel_rfl) (by simp) ?_
        refine AllReadyH.cons rfl (fun K hK => ?_) AllReadyH.nil
        go_simp
        go_at_call 100
        refine (HRF.out _ k hlt).mono ?_
        rintro e u7 ⟨v7, rfl, ho7, hb7⟩
        have B7 := Lib.hid (HBD.out.trans (hb7.mono HBD.out.size))
        have T7 : Hid (u7.heap[w1.heap.size]? = some (.cells C 113 (0, 0))) := (hb7.block _ HSZ.out).trans HTB.out
        have Z7 : Hid (w1.heap.size < u7.heap.size) := Nat.lt_of_lt_of_le HSZ.out hb7.size
        obtain ⟨A7, c7, rfl⟩ := own_shape ho7
        clear hb7 ho7 hHeld
        refine hK.out _ _ (rows_of T7.out HTA.out) (fun hHeld => ?_)
        clear hK K
        try simp only [Act.put, List.setIfInBounds_toArray, List.set_cons_zero, List.set_cons_succ]
        refine takeY (i := 3) (v := .int .i64 ((reachM g (k : Int) g.length).length : Int)) rfl rfl (by kernel_rfl) (by kernel_rfl) (by kernel_rfl) (fun _ _ _ h => h) (Or.inl ⟨by rfl, fun w hw => by go_simp⟩) hHeld ?_
        simp only [Act.put, List.setIfInBounds_toArray, List.set_cons_zero, List.set_cons_succ]
        refine takeY (i := 6) (v := .bool (decide (((reachM g (k : Int) g.length).length : Int) < (g.length : Int)))) rfl rfl (by kernel_rfl) (by kernel_rfl) (by kernel_rfl) (fun _ _ _ h => h) (Or.inl ⟨by rfl, fun w hw => by go_simp⟩) hHeld ?_
        simp only [Act.put, List.setIfInBounds_toArray, List.set_cons_zero, List.set_cons_succ]
        refine wpAnyH_done (by kernel_rfl) ?_ _
        clear hHeld
        all_goals
          cases hf : fullAt g k
          · have HN := Lib.hid (HNO.out k hlt hf)
            have hlt7 : ((reachM g (k : Int) g.length).length : Int) < (g.length : Int) := by have := of_decide_eq_false hf; omega
            clear hf
            go_wp2_with fail
            go_ret
            exact ⟨ret_bool HN.out.symm, B7.out⟩
          · have HA2 : Hid (∀ j, j < k + 1 → fullAt g j = true) := by
              show ∀ j, _
              intro j hj
              by_cases e : j = k
              · rw [e]; exact hf
              · exact HA.out j (by omega)
            have hlt7 : ¬ ((reachM g (k : Int) g.length).length : Int) < (g.length : Int) := by have := of_decide_eq_true hf; omega
            clear hf
            go_wp2_with fail
            go_roundw
            case rel => exact ⟨k + 1, by omega, by go_num, HA2.out, T7.out, Z7.out, B7.out⟩
            case measure => first | (simp [intOf]; done) | (simp [intOf]; omega)
      · obtain rfl : k = g.length := by omega
        have HY := Lib.hid (HYES.out HA.out)
        go_wp2_with fail
        go_ret
        exact ⟨ret_bool HY.out.symm, HB.out⟩
end Go.Proofs.Ytllkojakeoennab
