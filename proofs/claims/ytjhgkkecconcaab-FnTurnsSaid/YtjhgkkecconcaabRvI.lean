/- The program's reserveFrame. -/
import Derived.Test.YtjhgkkecconcaabRvP
import Derived.Test.YtjhgkkecconcaabRvQ
import Derived.Test.YtjhgkkecconcaabTkJ
import Derived.Test.YtjhgkkecconcaabRuns
namespace Go.Proofs.Ytjhgkkecconcaab
open Go Go.RowKit
set_option linter.unusedVariables false

/-- One turn of a frame. -/
theorem rv_turn {L : List Int} {f : Nat} (j k : Nat) (hk : j % L.length = k) (x : Int) (hx : x = (rvS L f j).1.getD k 0) (hlt : (rvS L f j).2.length < f) :
    (0 < x → (rvS L f (j + 1)).1 = (rvS L f j).1.set k (x - 1) ∧ (rvS L f (j + 1)).2 = (rvS L f j).2 ++ [(k : Int)]) ∧ (¬ 0 < x → rvS L f (j + 1) = rvS L f j) := by
  subst hx
  rw [rvS]
  unfold rvN
  rw [hk]
  constructor
  · intro h; rw [if_pos ⟨hlt, h⟩]; exact ⟨rfl, rfl⟩
  · intro h; rw [if_neg fun e => h e.2]
set_option maxRecDepth 100000 in
set_option maxHeartbeats 2000000 in
theorem reserveFrame_any (w : World) (base gl n cl : Nat) (L : List Int) (f : Nat) (h : RowI w base gl n cl L) (hok : rvOk L f) :
    Calls Try.prog 73 #[.slice (some ⟨gl, 0, none⟩) n cl, .int .i64 (f : Int)] w fun e w' => ∃ u, e = .returned u ∧ Own w' w.heap.size u (rvF L f).2 ∧ RowI w' base gl n cl (rvF L f).1 ∧ w.grownBy w' (some gl) := by
  obtain ⟨i0, hi, hz0, hz1, hz2⟩ := info_parts Try.infoInt
  have HOK := Lib.hid hok
  have HGL : Hid (gl < w.heap.size) := h.2.2.2
  have hn : L.length = n := h.1
  obtain ⟨p1, p2, p3, p4, p5⟩ := hok
  rw [hn] at p1 p2
  have HN := Lib.hid hn
  have H0 := Lib.hid h
  clear p3 h hn
  go_enter Try.func73, Try.ntmps73
  go_wp2_with fail
  go_loopg [5] 21 (fun m v wr => ∃ r : Nat, m = 21 - r ∧ r ≤ 20 ∧ Own wr w.heap.size v (rvS L f (r * n)).2 ∧ RowI wr base gl n cl (rvS L f (r * n)).1 ∧ w.grownBy wr (some gl))
  case atStart => exact ⟨0, rfl, by omega, by simp only [Nat.zero_mul, rvS]; exact World.ownsRow_nil _ _ _ _, by simpa [rvS] using H0.out, World.grownBy.refl _ _⟩
  case round =>
    obtain ⟨r, rfl, hr, ho, hl, hgr⟩ := hrel
    have HO := Lib.hid ho
    have HL := Lib.hid hl
    have HG := Lib.hid hgr
    clear ho hl hgr H0
    have hI := rvI_all HOK.out (r * n)
    have HMAX := Lib.hid (fun W h => max_any W (.slice (some ⟨gl, 0, none⟩) n cl) (rvS L f (r * n)).1 h (by rw [hI.len, HN.out]; omega))
    clear hI
    go_wp2_with fail
    refine (HMAX.out _ HL.out.rd).mono ?_; rintro e w' ⟨M, rfl, hM, rfl⟩
    by_cases hp : 0 < M
    · have HR : Hid ((rvS L f (r * n)).2.length < f → r < 20) := by
        show _ → _
        intro h1
        have := rv_max_end HOK.out h1 hM.1 hp
        rw [HN.out] at this
        exact Nat.lt_of_mul_lt_mul_right this
      clear hM HMAX
      go_wp2_with fail
      go_loopw [5, 12] (fun v i wr => ∃ k : Nat, k ≤ n ∧ i = .int .i64 k ∧ (0 < k → r < 20) ∧ Own wr w.heap.size v (rvS L f (r * n + k)).2 ∧ RowI wr base gl n cl (rvS L f (r * n + k)).1 ∧ w.grownBy wr (some gl)) (fun _ i _ => n - (intOf i).toNat)
      case atStart => exact ⟨0, Nat.zero_le _, rfl, by simp, HO.out, HL.out, HG.out⟩
      case round =>
        obtain ⟨k, hk, rfl, hkr, ho, hl, hgr⟩ := hrel
        clear HO HL HG
        have HO := Lib.hid ho
        have HL := Lib.hid hl
        have HG := Lib.hid hgr
        have HKR := Lib.hid hkr
        clear ho hl hgr hkr
        by_cases hlt : k < n
        · have hI := rvI_all HOK.out (r * n + k)
          obtain ⟨A, c, rfl⟩ := own_shape HO.out
          have hmost := hI.most
          have hk0 : (0 : Int) ≤ (k : Int) := by omega
          have hk1 : (k : Int) < (n : Int) := by omega
          have HK := Lib.hid hlt
          by_cases hf : (rvS L f (r * n + k)).2.length = f
          · have hF := rvF_is HOK.out (rvZ_full hf)
            have HO2 : Hid (Own wr w.heap.size (.slice A (rvS L f (r * n + k)).2.length c) (rvF L f).2) := by show Own _ _ _ _; rw [← hF]; exact HO.out
            have HL2 : Hid (RowI wr base gl n cl (rvF L f).1) := by show RowI _ _ _ _ _ _; rw [← hF]; exact HL.out
            have hfi : ((rvS L f (r * n + k)).2.length : Int) = (f : Int) := by omega
            clear hF hI HO HL
            generalize (rvS L f (r * n + k)).2.length = m at *
            clear hf
            go_wp2_with fail
            go_ret
            exact ⟨_, rfl, HO2.out, HL2.out, HG.out⟩
          · have hml : k < (rvS L f (r * n + k)).1.length := by rw [hI.len, HN.out]; exact hlt
            have hc0 := HL.out.at k hml
            have hf0 := HL.out.fz k
            obtain ⟨x, hx⟩ : ∃ x, x = (rvS L f (r * n + k)).1[k]'hml := ⟨_, rfl⟩
            rw [← hx] at hc0
            have hx3 := rv_nn HOK.out (r * n + k) x (by rw [hx]; exact List.getElem_mem _)
            have HT := Lib.hid (rv_turn (L := L) (f := f) (r * n + k) k (by rw [HN.out]; exact turn_mod hlt) x (by rw [hx, getD_at hml]) (by omega))
            have HR2 : Hid (r < 20) := by
              show _ < _
              by_cases h0 : k = 0
              · subst h0; exact HR.out (by rw [Nat.add_zero] at hf hmost; omega)
              · exact HKR.out (by omega)
            have hff : ¬ (((rvS L f (r * n + k)).2.length : Int) = (f : Int)) := by omega
            have HS := Lib.hid (fun z => HL.out.set k z)
            have HST := Lib.hid (fun z => HL.out.stored k z)
            have hjj : r * n + k + 1 = r * n + (k + 1) := rfl
            rw [hjj] at HT
            clear hI hml hx hjj
            generalize hS : rvS L f (r * n + k) = S at *
            clear hS
            generalize hSL : S.2.length = m at *
            by_cases c0 : 0 < x
            · obtain ⟨n1, n2⟩ := HT.out.1 c0
              have N1 := Lib.hid n1
              have N2 := Lib.hid n2
              have HM := Lib.hid hSL
              clear n1 n2 HT hf hSL
              have HO1 : Hid (Own (wr.setCell ⟨gl, k, none⟩ (.int .i64 (x - 1))) w.heap.size (.slice A m c) S.2) := own_far HO.out (HST.out (x - 1)) (fun k' e => by injection e with e; have := HGL.out; omega)
              have HL1 := Lib.hid (HS.out (x - 1))
              have HG1 := Lib.hid (HG.out.trans (HST.out (x - 1)))
              have hsz : (wr.setCell ⟨gl, k, none⟩ (.int .i64 (x - 1))).heap.size = wr.heap.size := by simp [World.setCell]
              have hbig : w.heap.size ≤ wr.heap.size := HG.out.size
              clear HS HST HO HL HG
              have HC1 : Hid (∀ (j : Nat) (u : Value), [Value.int .i64 (k : Int)][j]? = some u → ((wr.setCell ⟨gl, k, none⟩ (.int .i64 (x - 1))).alloc (.cells #[.int .i64 (k : Int)] 2)).cell? ((⟨wr.heap.size, 0, none⟩ : Addr).add j) = some u) := by
                show ∀ (j : Nat) (u : Value), _
                rw [← hsz]
                exact c1_int _ _ _
              have HSZ := Lib.hid hsz
              clear hsz
              go_wp2_with (at_builtin; refine wpList_append_lies _ rfl _ _ 22 rfl w.heap.size 2 i0 (.int .i64 0) 1 8 Try.underlying22 hi hz0 hz1 hz2 rfl (by decide) _ _ _ rfl (HO1.out.alloc _) ⟨wr.heap.size, 0, none⟩ 1 1 [.int .i64 (k : Int)] rfl rfl ?c1 ?c2 (by decide) ?c3 ?c4 ?c5 (wr.heap.size + 1) ?c6 ?_)
              case c1 => exact HC1.out
              case c2 => intro u hu; simp at hu; subst hu; rfl
              case c3 => have := HM.out; unfold maxLen; omega
              case c4 => have := HM.out; omega
              case c5 => simp [World.setCell]; omega
              case c6 => simp [World.setCell]
              intro gg cap w2 hown2 hgrow hat hlt2
              have hkey : ∀ k', (Value.slice A m c).ownBlock = some k' → w.heap.size ≤ k' := fun k' e => (World.ownsRow.lt HO1.out k' e).1
              have HO2 : Hid (Own w2 w.heap.size (.slice (some ⟨gg, 0, none⟩) (S.2.length + 1) cap) (rvS L f (r * n + (k + 1))).2) := by
                show Own _ _ _ _
                rw [N2.out]
                unfold Own
                rw [List.length_append, ← intVals_snoc]; exact hown2
              have HL2 : Hid (RowI w2 base gl n cl (rvS L f (r * n + (k + 1))).1) := by
                show RowI _ _ _ _ _ _
                rw [N1.out]
                refine (HL1.out.keep ((Below.refl _ _).alloc (Nat.le_refl _) _)).grown hgrow fun e => ?_
                have := hkey gl e.symm
                have := HGL.out
                omega
              have HG2 : Hid (w.grownBy w2 (some gl)) := (HG1.out.trans (World.grownBy_alloc _ _ _)).andThen hgrow fun k' e => .inl (hkey k' e)
              clear hown2 hgrow hat hlt2 hkey HO1 HL1 HG1 HC1
              go_wp2_with fail
              go_roundw
              case rel => exact ⟨k + 1, HK.out, by go_num, fun _ => HR2.out, HO2.out, HL2.out, HG2.out⟩
              case measure => simp [intOf]; have := HK.out; omega
            · have n1 := HT.out.2 c0
              have HO1 : Hid (Own wr w.heap.size (.slice A m c) (rvS L f (r * n + (k + 1))).2) := by show Own _ _ _ _; rw [n1]; exact HO.out
              have HL1 : Hid (RowI wr base gl n cl (rvS L f (r * n + (k + 1))).1) := by show RowI _ _ _ _ _ _; rw [n1]; exact HL.out
              clear n1 HT hf hSL HS HST HO HL
              go_wp2_with fail
              go_roundw
              case rel => exact ⟨k + 1, HK.out, by go_num, fun _ => HR2.out, HO1.out, HL1.out, HG.out⟩
              case measure => simp [intOf]; have := HK.out; omega
        · obtain rfl : k = n := by omega
          have HJ2 : Hid (r * k + k = (r + 1) * k) := by show _ = _; rw [Nat.add_mul, Nat.one_mul]
          go_wp2_with fail
          go_roundg (21 - (r + 1))
          case measure => have := HKR.out (by omega); omega
          case rel => exact ⟨r + 1, rfl, HKR.out (by omega), by rw [← HJ2.out]; exact HO.out, by rw [← HJ2.out]; exact HL.out, HG.out⟩
    · have hF := rvF_is HOK.out (rvZ_max HOK.out hM.2 hp)
      obtain ⟨A, c, rfl⟩ := own_shape HO.out
      have HO2 : Hid (Own wr w.heap.size (.slice A (rvS L f (r * n)).2.length c) (rvF L f).2) := by show Own _ _ _ _; rw [← hF]; exact HO.out
      have HL2 : Hid (RowI wr base gl n cl (rvF L f).1) := by show RowI _ _ _ _ _ _; rw [← hF]; exact HL.out
      clear hF hM HMAX HO HL
      go_wp2_with fail
      go_ret
      exact ⟨_, rfl, HO2.out, HL2.out, HG.out⟩
end Go.Proofs.Ytjhgkkecconcaab
