/- The contract of the program's ListText. -/
import Derived.Test.YtnlnoookpcplgacDoorLtp
import Derived.Test.YtnlnoookpcplgacDoorWDec2
import Derived.Test.YtnlnoookpcplgacDoorBk
import Derived.Test.YtnlnoookpcplgacDoorShelfT
import Derived.Laws.MakeOwn
namespace Go.Proofs.YtnlnoookpcplgacDoor
open Go Go.RowKit
set_option linter.unusedVariables false

theorem Tryd.infoStr : (Tryd.prog.info? 9).map (fun i => (i.zero, i.size, i.bytes)) = some (some (.string ⟨#[]⟩), 1, 16) := by kernel_rfl
theorem made_rep (z : Value) (hz : z.cells = #[z]) (n : Nat) : madeCells z.cells (n * 1) = (List.replicate n z).toArray := by
  rw [hz, Nat.mul_one]
  unfold madeCells
  apply Array.ext
  · simp
  · intro i h1 h2
    simp
    rw [Nat.mod_one]
    rfl
theorem make_strs (n : Nat) (hn : n ≤ 64) (W : World) : (Instr.makeSlice 43 (.int .i64 (n : Int)) (.int .i64 (n : Int))).run Tryd.prog W = .ok (.slice (some ⟨W.heap.size, 0, none⟩) n n) (W.alloc (.cells (List.replicate n (Value.string ⟨#[]⟩)).toArray 9)) := by
  obtain ⟨i0, hi, hz0, hz1, hz2⟩ := info_parts Tryd.infoStr
  have h := run_make (P := Tryd.prog) W 43 9 i0 (.string ⟨#[]⟩) Tryd.underlying43 hi hz0 .i64 .i64 n n (by omega) (Int.le_refl _) (by rw [hz2]; omega) (by omega)
  rw [hz1, Int.toNat_natCast, made_rep _ rfl] at h
  exact h
/-- The cells of the words when the first k are filled. -/
def lcs (l : List Int) (n k : Nat) : List Value := (l.take k).map (fun x => Value.string (tx x)) ++ List.replicate (n - k) (Value.string ⟨#[]⟩)
theorem lcs_len {l : List Int} {n k : Nat} (hl : l.length = n) (hk : k ≤ n) : (lcs l n k).length = n := by
  unfold lcs
  rw [List.length_append, List.length_map, List.length_take, List.length_replicate]
  omega
theorem lcs_set {l : List Int} {n k : Nat} (hl : l.length = n) (hk : k < n) (h : k < l.length) : (lcs l n k).set k (.string (tx l[k])) = lcs l n (k + 1) := by
  unfold lcs
  have e : ((l.take k).map (fun x => Value.string (tx x))).length = k := by rw [List.length_map, List.length_take]; omega
  rw [List.set_append_right _ _ (by omega), e, Nat.sub_self, show n - k = (n - (k + 1)) + 1 from by omega, List.replicate_succ, List.set_cons_zero, List.take_succ_eq_append_getElem h, List.map_append]
  simp
theorem lcs_end {l : List Int} {n : Nat} (hl : l.length = n) : lcs l n n = l.map (fun x => Value.string (tx x)) := by
  unfold lcs
  rw [List.take_of_length_le (by omega), Nat.sub_self]
  simp
theorem lcs_at {l : List Int} {n k : Nat} (hl : l.length = n) (hk : k < n) : (lcs l n k)[k]? = some (.string ⟨#[]⟩) := by
  unfold lcs
  have e : ((l.take k).map (fun x => Value.string (tx x))).length = k := by rw [List.length_map, List.length_take]; omega
  rw [List.getElem?_append_right (by omega), e, Nat.sub_self, show n - k = (n - (k + 1)) + 1 from by omega, List.replicate_succ]
  rfl

theorem join_any (W : World) (b n : Nat) (l : List Int) (hl : l.length = n) (h64 : n ≤ 64) (hall : l.all inV = true) (h : Bk W b (lcs l n n)) :
    Calls Tryd.prog 25 #[.slice (some ⟨b, 0, none⟩) n n, .string ⟨#[44]⟩] W fun e w' => e = .returned (.string (jT l)) ∧ Below W.heap.size W w' := by
  have e0 : (l.map tx).map (·.data.toList) = l.map Lib.itoa := by rw [List.map_map]; rfl
  have hz := jT_len (l := l) n (by omega) (by rw [List.take_of_length_le (by omega)]; exact hall)
  rw [List.take_of_length_le (by omega)] at hz
  have hz2 : (jt l).length ≤ 22 * n := by
    have : (jT l).size = (jt l).length := by unfold jT; show (jt l).toArray.size = _; simp
    omega
  have hj := Tryd.strings_Join b 0 n (l.map tx) ⟨#[44]⟩ W (fun j x hx => by
      refine h.c (0 + j) _ ?_
      rw [lcs_end hl, Nat.zero_add, List.getElem?_map]
      rw [List.getElem?_map] at hx
      cases hh : l[j]? with
      | none => rw [hh] at hx; cases hx
      | some y => rw [hh] at hx; cases hx; rfl) h.2.2 (by rw [List.length_map]; omega) (by rw [List.length_map]; omega)
      (by rw [e0]; exact Nat.le_trans hz2 (by omega))
  rw [e0, List.length_map, hl] at hj
  exact hj

set_option maxRecDepth 100000 in
theorem listText_impl (w : World) (v : Value) (l : List Int) (h : Rd w v l) (htab : Lib.TabIs Tryd.prog w "internal/strconv.uint64pow10" .u64 Lib.pow10Tab) :
    Calls Tryd.prog 11 #[v] w fun e w' => e = .returned (.tuple #[.string (ltV l), .bool (ltOk l)]) ∧ Below w.heap.size w w' := by
  have HD := Lib.hid h
  have HT := Lib.hid htab
  have hlen := h.len
  unfold maxLen at hlen
  have hOk : ltOk l = (l.all inV && decide (l.length ≤ 64)) := rfl
  obtain ⟨A, n, c, rfl, hn, -, -, -⟩ := h
  rw [hn] at hOk hlen
  have HN := Lib.hid hn
  by_cases h64 : n ≤ 64
  rotate_left
  · have ho : ltOk l = false := by rw [hOk, decide_eq_false h64, Bool.and_false]
    have HE := Lib.hid (And.intro (lt_no ho) ho)
    clear hOk htab hn ho
    have t0 : decide ((64 : Int) < (n : Int)) = true := decide_eq_true (by omega)
    go_enter Tryd.func11, Tryd.ntmps11
    go_wp2_with fail
    go_ret2
    exact ⟨by rw [HE.out.1, HE.out.2]; rfl, Below.refl _ _⟩
  have t0 : decide ((64 : Int) < (n : Int)) = false := decide_eq_false (by omega)
  by_cases h0 : n = 0
  · subst h0
    obtain rfl : l = [] := List.length_eq_zero_iff.1 hn
    have HE : Hid (ltV [] = ⟨#[110, 111, 110, 101]⟩ ∧ ltOk [] = true) := ⟨lt_none, rfl⟩
    clear hOk htab hn
    go_enter Tryd.func11, Tryd.ntmps11
    go_wp2_with fail
    go_ret2
    exact ⟨by rw [HE.out.1, HE.out.2]; rfl, Below.refl _ _⟩
  have t1 : ((n : Int) == 0) = false := by simp; omega
  have hmk := make_strs n h64
  have hne : l ≠ [] := fun e => by rw [e] at hn; exact h0 hn.symm
  have HNE := Lib.hid hne
  have HOK : Hid (ltOk l = l.all inV) := by show _ = _; rw [hOk, decide_eq_true h64, Bool.and_true]
  have hb0 : Below w.heap.size w (w.alloc (.cells (List.replicate n (Value.string ⟨#[]⟩)).toArray 9)) := (Below.refl _ _).alloc (Nat.le_refl _) _
  have hk0 : Bk (w.alloc (.cells (List.replicate n (Value.string ⟨#[]⟩)).toArray 9)) w.heap.size (lcs l n 0) := by
    have e : lcs l n 0 = List.replicate n (Value.string ⟨#[]⟩) := by unfold lcs; simp
    rw [e]
    exact Bk.new w _ _ _ rfl
  have HB0 := Lib.hid hb0
  have HK0 := Lib.hid hk0
  clear hOk htab hn hne hb0 hk0
  go_enter Tryd.func11, Tryd.ntmps11
  go_wp2_with fail
  go_loopw [18] (fun i wr => ∃ k : Nat, k ≤ n ∧ i = .int .i64 k ∧ Bk wr w.heap.size (lcs l n k) ∧ Below w.heap.size w wr ∧ (l.take k).all inV = true) (fun i _ => n - (intOf i).toNat)
  case atStart => exact ⟨0, Nat.zero_le _, rfl, HK0.out, HB0.out, rfl⟩
  case round =>
    obtain ⟨k, hk, rfl, hbk, hb, hf⟩ := hrel
    have B0 := Lib.hid hb
    have K0 := Lib.hid hbk
    have HTW := Lib.hid (Lib.tabBelow_of_tabIs HT.out _ hb)
    have HDW := Lib.hid (HD.out.keep hb)
    by_cases hlt : k < n
    · obtain ⟨A', n', c', e', -, -, -, r⟩ := HDW.out
      injection e' with e1 e2 e3
      subst e1 e2 e3
      obtain ⟨b', o', rfl, hlt0, hcc⟩ := r (by omega)
      have hkl : k < l.length := by have := HN.out; omega
      have hx0 := hcc k hkl
      have hs2 := all_take_succ2 inV l k hkl
      rw [hf, Bool.true_and] at hs2
      have hbad := all_bad2 inV l k hkl
      rw [← HOK.out] at hbad
      have HSET := Lib.hid (lcs_set HN.out hlt hkl)
      clear hcc hf hb hbk r
      generalize l[k] = x at *
      by_cases hx : -1000000000000000 ≤ x ∧ x ≤ 1000000000000000
      · have HA : Hid ((l.take (k + 1)).all inV = true) := by show _ = _; rw [hs2]; exact decide_eq_true hx
        obtain ⟨x1, x2⟩ := hx
        have HDC := Lib.hid (fun W ht => decimal_impl x (by omega) (by omega) W ht)
        have HDC2 : Hid (∀ W, Lib.TabIs Tryd.prog W "internal/strconv.uint64pow10" .u64 Lib.pow10Tab → Calls Tryd.prog 24 #[.int .i64 x] W fun e w' => e = .returned (.string (tx x)) ∧ Below W.heap.size W w') := HDC
        clear hs2 hbad HDC
        generalize tx x = D at *
        go_wp2_with fail
        refine (btw_yes _ _ _ _ x1 x2).mono ?_; rintro e w' ⟨rfl, rfl⟩
        go_wp2_with fail
        refine (HDC2.out _ HTW.out).mono ?_; rintro e w5 ⟨rfl, hb5⟩
        have B5 := Lib.hid (B0.out.trans (hb5.mono B0.out.size))
        have K5 := Lib.hid (K0.out.keep hb5)
        clear hb5
        have q0 := K5.out.c k _ (lcs_at HN.out hlt)
        have q1 := K5.out.f k (by rw [lcs_len HN.out hk]; exact hlt)
        go_wp2_with fail
        go_roundw
        case rel => exact ⟨k + 1, by omega, by go_num, by rw [← HSET.out]; exact K5.out.set k (by rw [lcs_len HN.out hk]; exact hlt) _, B5.out.setCell (by simp) _, HA.out⟩
        case measure => simp [intOf]; omega
      · have ho := hbad (decide_eq_false hx)
        have HE := Lib.hid (And.intro (lt_no ho) ho)
        have HX := Lib.hid hx
        clear hs2 hbad hx ho
        go_wp2_with fail
        refine (btw_no _ _ _ _ HX.out).mono ?_; rintro e w' ⟨rfl, rfl⟩
        go_wp2_with fail
        go_ret2
        exact ⟨by rw [HE.out.1, HE.out.2]; rfl, B0.out⟩
    · obtain rfl : k = n := by omega
      rw [List.take_of_length_le (by have := HN.out; omega)] at hf
      have ho : ltOk l = true := by rw [HOK.out]; exact hf
      have HE := Lib.hid (And.intro (lt_yes ho HNE.out) ho)
      have HJ := Lib.hid (join_any _ _ _ l HN.out h64 hf hbk)
      clear hf hb hbk ho
      generalize jT l = J at *
      go_wp2_with fail
      refine HJ.out.mono ?_; rintro e w5 ⟨rfl, hb5⟩
      have B5 := Lib.hid (B0.out.trans (hb5.mono B0.out.size))
      clear hb5
      go_wp2_with fail
      go_ret2
      exact ⟨by rw [HE.out.1, HE.out.2]; rfl, B5.out⟩
end Go.Proofs.YtnlnoookpcplgacDoor
