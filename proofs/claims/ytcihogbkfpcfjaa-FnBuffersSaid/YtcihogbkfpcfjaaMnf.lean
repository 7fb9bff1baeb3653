/- slices.MinFunc over spans. -/
import Derived.Test.YtcihogbkfpcfjaaBsp
import Derived.Deep.RegionHeld3
namespace Go.Proofs.Ytcihogbkfpcfjaa
open Go Go.RowKit
set_option linter.unusedVariables false


/-- A row of spans that is read. -/
structure SpR (W : World) (g n : Nat) (ts : List Int) : Prop where
  len : ts.length = n
  c0 : ∀ i, i < n → W.cell? ⟨g, i * 2, none⟩ = some (.int .i64 (i : Int))
  c1 : ∀ i, i < n → W.cell? ⟨g, i * 2 + 1, none⟩ = some (.int .i64 (ts.getD i 0))
  lt : g < W.heap.size
theorem SpR.keep {W W' : World} {g n : Nat} {ts : List Int} (h : SpR W g n ts) (hb : Below W.heap.size W W') : SpR W' g n ts :=
  ⟨h.len, fun i hi => (hb.cell (p := ⟨g, i * 2, none⟩) h.lt).trans (h.c0 i hi), fun i hi => (hb.cell (p := ⟨g, i * 2 + 1, none⟩) h.lt).trans (h.c1 i hi), Nat.lt_of_lt_of_le h.lt hb.size⟩
theorem SpR.drew {W : World} {g n : Nat} {ts : List Int} (h : SpR W g n ts) : SpR W.drew g n ts := h.keep (Below.refl _ _).drew
theorem SpR.far {W : World} {g n : Nat} {ts : List Int} (h : SpR W g n ts) (p : Addr) (hp : p.block ≠ g) (x : Value) : SpR (W.setCell p x) g n ts :=
  ⟨h.len, fun i hi => by rw [World.cell?_setCell_far _ _ _ _ hp]; exact h.c0 i hi, fun i hi => by rw [World.cell?_setCell_far _ _ _ _ hp]; exact h.c1 i hi, by simpa [World.setCell] using h.lt⟩
theorem SpR.of {W : World} {base g n c : Nat} {ts : List Int} (hl : ts.length = n) (hn : 0 < n) (h : W.ownsRow base 56 2 (.slice (some ⟨g, 0, none⟩) n c) n (spc ts)) : SpR W g n ts := by
  refine ⟨hl, fun i hi => ?_, fun i hi => ?_, (h.lt g rfl).2⟩
  · rw [h.cellAt (i * 2) (by omega), Nat.mul_comm]; exact (spc_at ts i (by omega)).1
  · rw [h.cellAt (i * 2 + 1) (by omega), Nat.mul_comm]; exact (spc_at ts i (by omega)).2
theorem sp_four {W : World} {g n i m : Nat} {ts : List Int} {x y : Int} (h : SpR W g n ts) (hi : i < n) (k : Bk W m (ckV x y)) : W.cell? ⟨g, i * 2, none⟩ = some (.int .i64 (i : Int)) ∧ W.cell? ⟨g, i * 2 + 1, none⟩ = some (.int .i64 (ts.getD i 0)) ∧ W.cell? ⟨m, 0, none⟩ = some (.int .i64 x) ∧ W.cell? ⟨m, 1, none⟩ = some (.int .i64 y) :=
  ⟨h.c0 i hi, h.c1 i hi, k.c 0 _ rfl, k.c 1 _ rfl⟩
theorem sp_four' {W : World} {g n i m : Nat} {ts : List Int} {x y t : Int} (h : SpR W g n ts) (hi : i < n) (e : ts.getD i 0 = t) (k : Bk W m (ckV x y)) : W.cell? ⟨g, i * 2, none⟩ = some (.int .i64 (i : Int)) ∧ W.cell? ⟨g, i * 2 + 1, none⟩ = some (.int .i64 t) ∧ W.cell? ⟨m, 0, none⟩ = some (.int .i64 x) ∧ W.cell? ⟨m, 1, none⟩ = some (.int .i64 y) := by
  subst e; exact sp_four h hi k
set_option maxRecDepth 100000 in
set_option maxHeartbeats 2000000 in
theorem minFunc_any (w : World) (g n c : Nat) (ts : List Int) (h : SpR w g n ts) (hn : 1 ≤ n ∧ n ≤ 100) (ht : ∀ i, i < ts.length → 0 ≤ ts.getD i 0 ∧ ts.getD i 0 ≤ 1000000) :
    Calls Try.prog 57 #[.slice (some ⟨g, 0, none⟩) n c, .func (.func 58) #[] #[]] w fun e w' => e = .returned (.agg #[.int .i64 (bpK ts n).1, .int .i64 (bpK ts n).2]) ∧ Below w.heap.size w w' := by
  have HG : Hid (g < w.heap.size) := h.lt
  have HL := Lib.hid h.len
  have HLF := Lib.hid (fun i t j u W => longerFirst_any i t j u W)
  have HCL := Lib.hid (fun x y => cmpV_lt x y)
  have HST : Hid (∀ k, bpK ts (k + 1) = if (bpK ts k).2 < ts.getD k 0 then ((k : Int), ts.getD k 0) else bpK ts k) := by show ∀ _, _; intro k; rfl
  have HB1 : Hid (bpK ts 1 = (0, ts.getD 0 0)) := by
    show _ = _
    have := ht 0 (by have := h.len; omega)
    rw [HST.out 0, if_pos (by show (-1 : Int) < _; omega)]; rfl
  have hR1 := h.keep ((Below.refl w.heap.size w).alloc (Nat.le_refl _) (.cells #[.int .i64 0, .int .i64 0] 56))
  have q0 := hR1.c0 0 (by omega)
  have q1 := hR1.c1 0 (by omega)
  rw [show 0 * 2 = 0 from rfl, show ((0 : Nat) : Int) = 0 from rfl] at q0
  rw [show 0 * 2 + 1 = 1 from rfl] at q1
  have HR2 := Lib.hid (hR1.keep ((Below.refl _ _).alloc (Nat.le_refl _) (.cells #[.int .i64 0, .int .i64 (ts.getD 0 0)] 56)))
  have HK2 : Hid (Bk ((w.alloc (.cells #[.int .i64 0, .int .i64 0] 56)).alloc (.cells #[.int .i64 0, .int .i64 (ts.getD 0 0)] 56)) (w.heap.size + 1) (ckV (bpK ts 1).1 (bpK ts 1).2)) := by
    show Bk _ _ _
    rw [HB1.out]
    exact Bk.new _ (ckV 0 (ts.getD 0 0)) 56 _ (by simp)
  have HO2 : Hid (Bk ((w.alloc (.cells #[.int .i64 0, .int .i64 0] 56)).alloc (.cells #[.int .i64 0, .int .i64 (ts.getD 0 0)] 56)) w.heap.size (ckV 0 0)) := (Bk.new w (ckV 0 0) 56 _ rfl).alloc _
  have HBB : Hid (Below w.heap.size w ((w.alloc (.cells #[.int .i64 0, .int .i64 0] 56)).alloc (.cells #[.int .i64 0, .int .i64 (ts.getD 0 0)] 56))) := ((Below.refl _ _).alloc (Nat.le_refl _) _).alloc (by simp) _
  have hl1 : (1 : Int) ≤ (n : Int) := by omega
  clear h ht hR1 HB1
  obtain ⟨n1, n2⟩ := hn
  go_enter Try.func57, Try.ntmps57
  go_wp2_with fail
  go_loopw [6] (fun i wr => ∃ k : Nat, (1 ≤ k ∧ k ≤ n) ∧ i = .int .i64 k ∧ SpR wr g n ts ∧ Bk wr (w.heap.size + 1) (ckV (bpK ts k).1 (bpK ts k).2) ∧ Bk wr w.heap.size (ckV 0 0) ∧ Below w.heap.size w wr) (fun i _ => n - (intOf i).toNat)
  case atStart => exact ⟨1, ⟨Nat.le_refl _, n1⟩, rfl, HR2.out, HK2.out, HO2.out, HBB.out⟩
  case round =>
    obtain ⟨k, ⟨k0, k1⟩, rfl, hr, hk, ho, hb⟩ := hrel
    have HRr := Lib.hid hr
    have HKr := Lib.hid hk
    have HOr := Lib.hid ho
    have HBr := Lib.hid hb
    clear hr hk ho hb HR2 HK2 HO2 HBB q0 q1
    by_cases hlt : k < n
    · have hk0 : (0 : Int) ≤ (k : Int) := by omega
      have hk1 : (k : Int) < (n : Int) := by omega
      have HSTk := Lib.hid (HST.out k)
      have HFOUR : Hid (∀ (W : World), SpR W g n ts ∧ Bk W (w.heap.size + 1) (ckV (bpK ts k).1 (bpK ts k).2) → W.cell? ⟨g, k * 2, none⟩ = some (.int .i64 (k : Int)) ∧ W.cell? ⟨g, k * 2 + 1, none⟩ = some (.int .i64 (ts.getD k 0)) ∧ W.cell? ⟨w.heap.size + 1, 0, none⟩ = some (.int .i64 (bpK ts k).1) ∧ W.cell? ⟨w.heap.size + 1, 1, none⟩ = some (.int .i64 (bpK ts k).2)) := fun W h => sp_four h.1 hlt h.2
      have HLk := Lib.hid (fun W => HLF.out (k : Int) (ts.getD k 0) (bpK ts k).1 (bpK ts k).2 W)
      have HCk := Lib.hid (HCL.out (bpK ts k).2 (ts.getD k 0))
      have t0 : SpR wr g n ts ∧ Bk wr (w.heap.size + 1) (ckV (bpK ts k).1 (bpK ts k).2) := ⟨HRr.out, HKr.out⟩
      obtain ⟨X, hX⟩ : ∃ X, X = (bpK ts k).1 := ⟨_, rfl⟩
      obtain ⟨Y, hY⟩ : ∃ Y, Y = (bpK ts k).2 := ⟨_, rfl⟩
      obtain ⟨Z, hZ⟩ : ∃ Z, Z = ts.getD k 0 := ⟨_, rfl⟩
      rw [← hX, ← hY] at HFOUR HLk HKr t0
      rw [← hZ] at HFOUR HLk HCk HSTk
      rw [← hY] at HCk HSTk
      have HKE : Hid (∀ W, Bk W (w.heap.size + 1) (ckV X Y) → ¬ Y < Z → Bk W (w.heap.size + 1) (ckV (bpK ts (k + 1)).1 (bpK ts (k + 1)).2)) := by
        show ∀ _, _
        intro W hW hn
        rw [HSTk.out, if_neg hn, ← hX, ← hY]; exact hW
      have HKN : Hid (∀ W, Bk W (w.heap.size + 1) (ckV X Y) → Y < Z → Bk ((W.setCell ⟨w.heap.size + 1, 0, none⟩ (.int .i64 (k : Int))).setCell ⟨w.heap.size + 1, 1, none⟩ (.int .i64 Z)) (w.heap.size + 1) (ckV (bpK ts (k + 1)).1 (bpK ts (k + 1)).2)) := by
        show ∀ _, _
        intro W hW hn
        rw [HSTk.out, if_pos hn]
        exact (hW.set 0 (by show 0 < 2; omega) _).set 1 (by show 1 < 2; omega) _
      clear hX hY hZ HSTk HST HLF HCL
      have t0 := And.intro t0.1.drew t0.2.drew
      have B6 := Lib.hid HBr.out.drew
      have O6 := Lib.hid HOr.out.drew
      obtain ⟨qa, qb, qc, qd⟩ := HFOUR.out _ t0
      generalize cmpV Y Z = C at *
      have hF := HFOUR.out
      clear HRr HKr HBr HOr
      go_wp2_with fail
      go_region_held3 (fun w' => w'.cell? ⟨g, k * 2, none⟩ = some (.int .i64 (k : Int)) ∧ w'.cell? ⟨g, k * 2 + 1, none⟩ = some (.int .i64 Z) ∧ w'.cell? ⟨w.heap.size + 1, 0, none⟩ = some (.int .i64 X) ∧ w'.cell? ⟨w.heap.size + 1, 1, none⟩ = some (.int .i64 Y)) ((first | with_reducible exact hF _ t7 | with_reducible exact hF _ t0 | fail))
        (first
          | (go_at_call 58; refine (HLk.out _).mono ?_; rintro e u40 ⟨rfl, hb7⟩; have t7 := And.intro (t0.1.keep hb7) (t0.2.keep hb7); have B7 := Lib.hid (B6.out.trans (hb7.mono B6.out.size)); have O7 := Lib.hid (O6.out.keep hb7); obtain ⟨qa, qb, qc, qd⟩ := hF _ t7; clear hb7)
          | fail)
      all_goals clear B6 O6 t0
      all_goals by_cases hyz : Y < Z
      all_goals have hC := HCk.out
      · rw [decide_eq_true hyz] at hC
        have hC := of_decide_eq_true hC
        have HX := Lib.hid (HKN.out _ t7.2 hyz)
        have f0 := t7.2.f 0 (by show 0 < 2; omega)
        have f1 := t7.2.f 1 (by show 1 < 2; omega)
        clear HKN HKE hyz
        go_wp2_with fail
        go_roundw
        case rel => exact ⟨k + 1, ⟨by omega, by omega⟩, by go_num, (t7.1.far _ (by have := HG.out; simp; omega) _).far _ (by have := HG.out; simp; omega) _, HX.out, (O7.out.far _ (by simp) _).far _ (by simp) _, (B7.out.setCell (by simp) _).setCell (by simp) _⟩
        case measure => simp [intOf]; omega
      · rw [decide_eq_false hyz] at hC
        have hC := of_decide_eq_false hC
        have HX := Lib.hid (HKE.out _ t7.2 (by omega))
        clear HKN HKE hyz
        go_wp2_with fail
        go_roundw
        case rel => exact ⟨k + 1, ⟨by omega, by omega⟩, by go_num, t7.1, HX.out, O7.out, B7.out⟩
        case measure => simp [intOf]; omega
    · obtain rfl : k = n := by omega
      obtain ⟨r0, r1⟩ := ck_two HKr.out
      obtain ⟨s0, s1⟩ := ck_two HOr.out
      have s2 := HOr.out.f 0 (by show 0 < 2; omega)
      have s3 := HOr.out.f 1 (by show 1 < 2; omega)
      have HO1 := Lib.hid ((HOr.out.set 0 (by show 0 < 2; omega) (.int .i64 (bpK ts k).1)).set 1 (by show 1 < 2; omega) (.int .i64 (bpK ts k).2))
      have HB1 := Lib.hid ((HBr.out.setCell (p := ⟨w.heap.size, 0, none⟩) (Nat.le_refl _) (.int .i64 (bpK ts k).1)).setCell (p := ⟨w.heap.size, 1, none⟩) (Nat.le_refl _) (.int .i64 (bpK ts k).2))
      clear HRr HKr HLF HCL HST
      go_wp2_with fail
      clear s0 s1 s2 s3
      have x0 := HO1.out.c 0 _ rfl
      have x1 := HO1.out.c 1 _ rfl
      refine bodyPost_ret (v := .agg #[.int .i64 (bpK ts k).1, .int .i64 (bpK ts k).2]) (by simp [results, Try.results57, go_sem, x0, x1]) rfl ⟨rfl, ?_⟩
      exact HB1.out
end Go.Proofs.Ytcihogbkfpcfjaa
