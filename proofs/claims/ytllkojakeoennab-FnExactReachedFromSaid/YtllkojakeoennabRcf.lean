/- Both ReachedFrom. -/
import Derived.Test.YtllkojakeoennabRci
import Derived.Test.YtllkojakeoennabRcm
namespace Go.Proofs.Ytllkojakeoennab
open Go Go.RowKit
set_option linter.unusedVariables false

def rfV (g : List (List Int)) (x : Int) : List Int := if okSt g x = true then reachM g x g.length else []
theorem rfV_no {g : List (List Int)} {x : Int} (h : okSt g x = false) : rfV g x = [] := by unfold rfV; rw [h]; rfl
theorem rfV_yes {g : List (List Int)} {x : Int} (h : okSt g x = true) : rfV g x = reachM g x g.length := by unfold rfV; rw [if_pos h]
theorem okSt_in {g : List (List Int)} {x : Int} (h : okSt g x = true) : isG g = true ∧ inS g.length x := by
  unfold okSt at h
  obtain ⟨h1, h2⟩ := Bool.and_eq_true_iff.1 h
  have := of_decide_eq_true h2
  exact ⟨h1, this.1, by omega⟩
theorem rfV_len (g : List (List Int)) (x : Int) : (rfV g x).length ≤ 12 := by
  cases h : okSt g x
  · rw [rfV_no h]; simp
  · rw [rfV_yes h]
    obtain ⟨h1, h2⟩ := okSt_in h
    have := rise_len g.length _ (reachM_rise g x g.length) (reachM_in h1 h2 g.length)
    have := isG_le h1
    omega
theorem own_nilI (w : World) (base : Nat) : Own w base (.slice none 0 0) [] := World.ownsRow_nil _ _ _ _

set_option maxRecDepth 100000 in
theorem reachedFrom_spec (w : World) (v : Value) (g : List (List Int)) (x : Int) (h : RdG w v g) :
    Calls Try.prog 42 #[.agg #[v], .int .i64 x] w fun e w' => ∃ u, e = .returned (.tuple #[u, .bool (okSt g x)]) ∧ Own w' w.heap.size u (rfV g x) ∧ Below w.heap.size w w' := by
  obtain ⟨A, n, c, rfl⟩ := rdg_sh h
  have HR := Lib.hid (h.keep ((Below.refl _ _).alloc (Nat.le_refl _) (.cells #[.slice A n c] 53)))
  have HB0 : Hid (Below w.heap.size w (w.alloc (.cells #[.slice A n c] 53))) := (Below.refl _ _).alloc (Nat.le_refl _) _
  have HO := Lib.hid (OneC.new w (.slice A n c) 53)
  clear h
  cases h1 : okSt g x
  · rw [rfV_no h1]
    have H1 := Lib.hid h1
    clear h1
    go_enter Try.func42, Try.ntmps42
    go_wp2_with fail
    refine (l02State_any _ _ _ g x HO.out.1 HR.out).mono ?_; rintro e w1 ⟨rfl, rfl⟩
    rw [H1.out]
    go_wp2_with fail
    go_ret2
    exact ⟨_, rfl, own_nilI _ _, HB0.out⟩
  · rw [rfV_yes h1]
    have H1 := Lib.hid h1
    have HI := Lib.hid (okSt_in h1)
    clear h1
    go_enter Try.func42, Try.ntmps42
    go_wp2_with fail
    refine (l02State_any _ _ _ g x HO.out.1 HR.out).mono ?_; rintro e w1 ⟨rfl, rfl⟩
    rw [H1.out]
    go_wp2_with fail
    refine (l02Reached_any _ _ _ g x HO.out.1 HR.out HI.out.1 HI.out.2).mono ?_; rintro e w2 ⟨u, rfl, ho2, hb2⟩
    have HO2 := Lib.hid (ho2.base HB0.out.size)
    have HB2 := Lib.hid (HB0.out.trans (hb2.mono HB0.out.size))
    clear ho2 hb2
    go_wp2_with fail
    go_ret2
    exact ⟨_, rfl, HO2.out, HB2.out⟩

set_option maxHeartbeats 1000000 in
set_option maxRecDepth 100000 in
theorem reachedFrom_impl (w : World) (v : Value) (g : List (List Int)) (x : Int) (h : RdG w v g) :
    Calls Try.prog 44 #[.agg #[v], .int .i64 x] w fun e w' => ∃ u, e = .returned (.tuple #[u, .bool (okSt g x)]) ∧ Own w' w.heap.size u (rfV g x) ∧ Below w.heap.size w w' := by
  obtain ⟨A, n, c, rfl⟩ := rdg_sh h
  have HR := Lib.hid (h.keep ((Below.refl _ _).alloc (Nat.le_refl _) (.cells #[.slice A n c] 53)))
  have HB0 : Hid (Below w.heap.size w (w.alloc (.cells #[.slice A n c] 53))) := (Below.refl _ _).alloc (Nat.le_refl _) _
  have HS : Hid ((Try.prog.info? 113).map (·.size) = some (tabF g x).size) := by show _ = _; rw [info64, tabF_size]
  have HS2 : Hid (zeroA.size = (tabF g x).size) := by show _ = _; rw [tabF_size]; rfl
  clear h
  cases h1 : okSt g x
  · rw [rfV_no h1]
    have H1 := Lib.hid h1
    clear h1
    go_enter Try.func44, Try.ntmps44
    go_wp2_with fail
    refine (tableFrom_any _ _ g x HR.out).mono ?_; rintro e w1 ⟨rfl, hb1⟩
    have HB1 := Lib.hid (HB0.out.trans (hb1.mono HB0.out.size))
    rw [H1.out]
    clear hb1
    go_wp2_with (refine wpList_store_abs rfl 113 (.tmp 6) (.tmp 12) rfl _ _ rfl rfl 113 _ (heap_alloc_at _ _ _ rfl) HS.out HS2.out (tabF_all _ _) ?_)
    intro w2 hg2 hb2 hz2
    have HB2 : Hid (Below w.heap.size w w2) := (HB1.out.alloc HB1.out.size _).trans (hb2.out.mono HB1.out.size)
    clear hg2 hb2 hz2
    go_wp2_with fail
    go_ret2
    exact ⟨_, rfl, own_nilI _ _, HB2.out⟩
  · rw [rfV_yes h1]
    have H1 := Lib.hid h1
    have HI := Lib.hid (okSt_in h1)
    have HT : Hid (tabF g x = (tabL g.length g).toArray) := by show _ = _; unfold tabF; rw [if_pos h1]
    have HRF := Lib.hid (fun W => reachedFrom_any W g x (okSt_in h1).1 (okSt_in h1).2)
    rw [← HT.out] at HRF
    clear h1
    go_enter Try.func44, Try.ntmps44
    go_wp2_with fail
    refine (tableFrom_any _ _ g x HR.out).mono ?_; rintro e w1 ⟨rfl, hb1⟩
    have HB1 := Lib.hid (HB0.out.trans (hb1.mono HB0.out.size))
    rw [H1.out]
    clear hb1
    go_wp2_with (refine wpList_store_abs rfl 113 (.tmp 6) (.tmp 12) rfl _ _ rfl rfl 113 _ (heap_alloc_at _ _ _ rfl) HS.out HS2.out (tabF_all _ _) ?_)
    intro w2 hg2 hb2 hz2
    have HB2 : Hid (Below w.heap.size w w2) := (HB1.out.alloc HB1.out.size _).trans (hb2.out.mono HB1.out.size)
    clear hb2 hz2
    go_wp2_with (refine wpList_load_row rfl 113 (.tmp 6) rfl _ rfl 113 _ (0, 0) _ hg2.out Try.underlying113 rfl HS.out ?_)
    refine (HRF.out _).mono ?_; rintro e w3 ⟨u, rfl, ho3, hb3⟩
    have HO3 := Lib.hid (ho3.base HB2.out.size)
    have HB3 := Lib.hid (HB2.out.trans (hb3.mono HB2.out.size))
    clear ho3 hb3
    go_wp2_with fail
    go_ret2
    exact ⟨_, rfl, HO3.out, HB3.out⟩
end Go.Proofs.Ytllkojakeoennab
