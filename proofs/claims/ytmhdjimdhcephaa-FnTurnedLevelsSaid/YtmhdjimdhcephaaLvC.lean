/- A wire's end, behind further levels. -/
import Derived.Test.YtmhdjimdhcephaaLvB
import Derived.Test.YtmhdjimdhcephaaApp
namespace Go.Proofs.Ytmhdjimdhcephaa
open Go Go.RowKit
set_option linter.unusedVariables false

theorem gb_set (w : World) (g j : Nat) (x : Value) : w.grownBy (w.setCell ⟨g, j, none⟩ x) (some g) :=
  ⟨rfl, rfl, rfl, by simp [World.setCell], fun k _ hn => Below.heap_setCell _ _ _ _ (fun h => hn (by rw [h]))⟩
theorem gb_trans {w w1 w2 : World} {r : Option Nat} (h : w.grownBy w1 r) (k : w1.grownBy w2 r) : w.grownBy w2 r :=
  ⟨k.os.trans h.os, k.tape.trans h.tape, k.output.trans h.output, Nat.le_trans h.size k.size, fun i hi hn => (k.block i (Nat.lt_of_lt_of_le hi h.size) hn).trans (h.block i hi hn)⟩
/-- A slice does not lie in the block g. -/
def Aw (v : Value) (g : Nat) : Prop := ∀ b o n c, v = .slice (some ⟨b, o, none⟩) n c → b ≠ g
theorem gb_cell {w w' : World} {g b o : Nat} {x : Value} (hg : w.grownBy w' (some g)) (hne : b ≠ g) (hlt : b < w.heap.size) (h : w.cell? ⟨b, o, none⟩ = some x) : w'.cell? ⟨b, o, none⟩ = some x := by
  rw [World.cell?_of_block (hg.block b hlt (fun e => hne (by injection e)))]; exact h
theorem Bk.gb {W W' : World} {b : Nat} {cs : List Value} {row : Option Nat} (h : Bk W b cs) (hg : W.grownBy W' row) (hne : ∀ k, row = some k → k ≠ b) : Bk W' b cs :=
  have e := hg.block b h.2.2 (fun e => hne b e.symm rfl)
  ⟨fun i x hx => by rw [World.cell?_of_block e]; exact h.1 i x hx, fun i hi => by rw [World.frozen?_of_block e]; exact h.2.1 i hi, Nat.lt_of_lt_of_le h.2.2 hg.size⟩
theorem own_gb {W W' : World} {base : Nat} {v : Value} {l : List Int} {row : Option Nat} (h : Own W base v l) (hg : W.grownBy W' row) (hne : ∀ k, v.ownBlock = some k → row ≠ some k) : Own W' base v l := by
  refine World.ownsRow.kept h hg ?_
  cases hb : v.ownBlock with
  | none => exact .inl rfl
  | some k => exact .inr fun e => hne k hb e.symm
theorem own_cellsL {W : World} {base g c : Nat} {l : List Int} (h : Own W base (.slice (some ⟨g, 0, none⟩) l.length c) l) : ∀ (j : Nat) (u : Value), (intVals l)[j]? = some u → W.cell? ((⟨g, 0, none⟩ : Addr).add j) = some u := by
  intro j u hj
  have hlt : j < (intVals l).length := by
    rcases Nat.lt_or_ge j (intVals l).length with h' | h'
    · exact h'
    · rw [List.getElem?_eq_none h'] at hj; cases hj
  rw [intVals_length] at hlt
  have := (World.ownsRow.cellAt (w := W) (base := base) h j (by omega)).trans hj
  rw [show ((⟨g, 0, none⟩ : Addr).add j) = ⟨g, 0 + j, none⟩ from by unfold Addr.add; split <;> simp_all, Nat.zero_add]
  exact this
theorem intVals_one (l : List Int) : ∀ u ∈ intVals l, u.oneCell' = true := by
  intro u hu
  obtain ⟨x, -, rfl⟩ := List.mem_map.1 hu
  rfl
theorem intVals_app (a b : List Int) : intVals (a ++ b) = intVals a ++ intVals b := by simp [intVals]
theorem psE_snoc (x : Int) : ∀ (l : List Int) (e : Int × Int), psE (l ++ [x]) e = (x, if x = 0 then (psE l e).2 else x)
  | [], e => rfl
  | y :: t, e => by rw [List.cons_append, psE, psE, psE_snoc x t]
set_option maxRecDepth 100000 in
set_option maxHeartbeats 1000000 in
theorem pass_any (W : World) (g : Nat) (iv : Value) (a m : Int) (v : Value) (l : List Int) (hb : Bk W g [iv, .int .i64 a, .int .i64 m]) (h : Rd W v l) (hne : Aw v g) (hl : l.length ≤ 2) :
    Calls Try.prog 59 #[.pointer (some ⟨g, 0, none⟩), v] W fun e w' => e = .returned (.tuple #[]) ∧ Bk w' g [iv, .int .i64 (psE l (a, m)).1, .int .i64 (psE l (a, m)).2] ∧ W.grownBy w' (some g) := by
  obtain ⟨A, n, c, rfl, hn, -, -, r⟩ := h
  rw [hn] at hl
  have HN := Lib.hid hn
  have HR := Lib.hid r
  have HNE := Lib.hid hne
  have HK := Lib.hid hb
  clear hn r hne hb
  go_enter Try.func59, Try.ntmps59
  go_wp2_with fail
  go_loopw [8] (fun i wr => ∃ k : Nat, k ≤ n ∧ i = .int .i64 k ∧ Bk wr g [iv, .int .i64 (psE (l.take k) (a, m)).1, .int .i64 (psE (l.take k) (a, m)).2] ∧ W.grownBy wr (some g)) (fun i _ => n - (intOf i).toNat)
  case atStart => exact ⟨0, Nat.zero_le _, rfl, HK.out, World.grownBy.refl _ _⟩
  case round =>
    obtain ⟨k, hk, rfl, hbk, hgb⟩ := hrel
    have BB := Lib.hid hbk
    have GG := Lib.hid hgb
    clear hbk hgb
    by_cases hlt : k < n
    · obtain ⟨b, o, rfl, hlt0, hc⟩ := HR.out (by omega)
      have hkl : k < l.length := by have := HN.out; omega
      have hk0 : (0 : Int) ≤ (k : Int) := by omega
      have hk1 : (k : Int) < (n : Int) := by omega
      have hc0 := gb_cell GG.out (HNE.out b o n c rfl) hlt0 (hc k hkl)
      have HS : Hid (psE (l.take (k + 1)) (a, m) = (l[k], if l[k] = 0 then (psE (l.take k) (a, m)).2 else l[k])) := by
        show _ = _
        rw [List.take_succ_eq_append_getElem hkl, psE_snoc]
      clear hc
      generalize l[k] = x at *
      have f1 := BB.out.f 1 (by simp)
      have f2 := BB.out.f 2 (by simp)
      have c1 := BB.out.c 1 _ rfl
      have c2 := BB.out.c 2 _ rfl
      have HB1 := Lib.hid (BB.out.set 1 (by simp) (.int .i64 x))
      have HB2 := Lib.hid ((BB.out.set 1 (by simp) (.int .i64 x)).set 2 (by simp) (.int .i64 x))
      have HG1 := Lib.hid (gb_trans GG.out (gb_set wr g 1 (.int .i64 x)))
      have HG2 := Lib.hid (gb_trans (gb_trans GG.out (gb_set wr g 1 (.int .i64 x))) (gb_set _ g 2 (.int .i64 x)))
      by_cases h0 : x = 0
      · have z : (x != 0) = false := bne_f h0
        have HX : Hid (psE (l.take (k + 1)) (a, m) = (x, (psE (l.take k) (a, m)).2)) := by show _ = _; rw [HS.out, if_pos h0]
        clear h0 HS HB2 HG2
        go_wp2_with fail
        go_roundw
        case rel => exact ⟨k + 1, by omega, by go_num, by rw [HX.out]; exact HB1.out, HG1.out⟩
        case measure => simp [intOf]; omega
      · have z : (x != 0) = true := bne_t h0
        have HX : Hid (psE (l.take (k + 1)) (a, m) = (x, x)) := by show _ = _; rw [HS.out, if_neg h0]
        clear h0 HS HB1 HG1
        go_wp2_with fail
        go_roundw
        case rel => exact ⟨k + 1, by omega, by go_num, by rw [HX.out]; exact HB2.out, HG2.out⟩
        case measure => simp [intOf]; omega
    · obtain rfl : k = n := by omega
      have HE : Hid (l.take k = l) := by show _ = _; exact List.take_of_length_le (by have := HN.out; omega)
      rw [HE.out] at BB
      go_wp2_with fail
      first | go_ret | go_end0
      exact ⟨rfl, BB.out, GG.out⟩
end Go.Proofs.Ytmhdjimdhcephaa
