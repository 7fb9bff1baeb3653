/- Contracts of the program's index, book, read. -/
import Derived.Test.YtjmaapbodacggaaDeP
import Derived.Test.YtjmaapbodacggaaEnI
namespace Go.Proofs.Ytjmaapbodacggaa
open Go Go.RowKit Go.Maps
set_option linter.unusedVariables false

theorem index_minus (w : World) :
    Calls Try.prog 140 #[.int .i64 (-1)] w fun e w' => e = .returned (.int .i64 0) ∧ w = w' := by
  go_enter Try.func140, Try.ntmps140
  go_wp2_with fail
  go_ret
  exact ⟨rfl, rfl⟩
theorem index_plus (w : World) :
    Calls Try.prog 140 #[.int .i64 1] w fun e w' => e = .returned (.int .i64 1) ∧ w = w' := by
  go_enter Try.func140, Try.ntmps140
  go_wp2_with fail
  go_ret
  exact ⟨rfl, rfl⟩

/-- A look-up of a word. -/
theorem look_in {xs : List ByteArray} {x : ByteArray} (hn : xs.Nodup) (h : ¬ fnd xs x 0 < 0) : has (wM xs : DataW Unit) (keyL x) = true ∧ ∀ c : Int, (wM xs : DataW Unit).atKey (keyL x) (.lit (.int .i64 0)) = .lit (.int .i64 c) → c = fnd xs x 0 := by
  have hx : x ∈ xs := by
    by_cases hx : x ∈ xs
    · exact hx
    · rw [fnd_not _ _ _ hx] at h; omega
  refine ⟨by rw [wM_has x _ xs rfl]; exact inW_t hx, fun c hat => ?_⟩
  rw [wM_at x _ _ xs rfl hn hx] at hat
  injection hat with hat
  injection hat with _ hat
  exact hat.symm
theorem look_out {xs : List ByteArray} {x : ByteArray} (h : fnd xs x 0 < 0) : has (wM xs : DataW Unit) (keyL x) = false ∧ fnd xs x 0 = -1 := by
  have hx : x ∉ xs := by
    intro hx
    obtain ⟨k, h1, h2⟩ := fnd_at xs x 0 hx
    rw [h1] at h; omega
  exact ⟨by rw [wM_has x _ xs rfl]; exact inW_f hx, fnd_not _ _ _ hx⟩

set_option maxHeartbeats 1600000 in
set_option maxRecDepth 100000 in
theorem read_minus (w : World) (b1 b2 n1 n2 : Nat) (m p : List ByteArray) (x : ByteArray) (h1 : OwnM w b1 n1 m) (h2 : OwnM w b2 n2 p) (hm : m.Nodup) (hp : p.Nodup) (hx : x.size ≤ 4000000) :
    Calls Try.prog 120 #[.agg #[.map (some b1), .map (some b2)], .int .i64 (-1), .string x] w fun e w' => e = .returned (.tuple #[.int .i64 (deW m p (-1) x).1, .bool (!(deW m p (-1) x).2)]) ∧ Below w.heap.size w w' := by
  have hb : Below w.heap.size w (w.alloc (.cells #[.map (some b1), .map (some b2)] 133)) := (Below.refl _ _).alloc (Nat.le_refl _) _
  have HB := Lib.hid hb
  have HL := Lib.hid (OwnM.keep h1 hb)
  have HO := Lib.hid (OwnM.keep h2 hb)
  have HK := Lib.hid (show keyOf Try.prog 9 (.string x) = some (keyL x) from WideMaps.keyOf_string_mk Try.underlying9 (by unfold maxLen; omega))
  have hw : deW m p (-1) x = if fnd m x 0 < 0 then (fnd p x 0, true) else (fnd m x 0, false) := rfl
  have li := @look_in m x
  have lo := @look_out m x
  have oi := @look_in p x
  have oo := @look_out p x
  clear h1 h2 hb
  by_cases hF : fnd m x 0 < 0
  · rw [if_pos hF] at hw
    obtain ⟨k1, -⟩ := lo hF
    have K1 := Lib.hid k1
    clear li lo k1 hF
    by_cases hG : fnd p x 0 < 0
    · obtain ⟨k2, k3⟩ := oo hG
      have K2 := Lib.hid k2
      have HW : Hid (deW m p (-1) x = (-1, true)) := by show _ = _; rw [hw, k3]
      clear oi oo k2 k3 hw hG
      go_enter Try.func120, Try.ntmps120
      go_wp2_with fail
      refine (index_minus _).mono ?_; rintro e w' ⟨rfl, rfl⟩
      go_wp2_with (at_lookup; refine wpList_lookup_own_ok_int _ rfl _ _ 131 rfl 9 2 .i64 lawStr Try.underlying131 Try.underlying2 (zeroInt _) b1 n1 _ rfl HL.out _ _ rfl HK.out ?_; intro c hat _; clear hat; rw [K1.out])
      go_wp2_with fail
      refine (opposite_any (-1) (by omega) (by omega) _).mono ?_; rintro e w' ⟨rfl, rfl⟩
      go_wp2_with fail
      refine (index_plus _).mono ?_; rintro e w' ⟨rfl, rfl⟩
      go_wp2_with (at_lookup; refine wpList_lookup_own_ok_int _ rfl _ _ 131 rfl 9 2 .i64 lawStr Try.underlying131 Try.underlying2 (zeroInt _) b2 n2 _ rfl HO.out _ _ rfl HK.out ?_; intro c hat _; clear hat; rw [K2.out])
      go_wp2_with fail
      go_ret2
      exact ⟨ret_ib (by rw [HW.out]) (by rw [HW.out]; rfl), HB.out⟩
    · obtain ⟨k2, k3⟩ := oi (by first | exact hm | exact hp) hG
      have K2 := Lib.hid k2
      have K3 := Lib.hid k3
      have HW := Lib.hid hw
      clear oi oo k2 k3 hw hG
      generalize fnd p x 0 = G at *
      go_enter Try.func120, Try.ntmps120
      go_wp2_with fail
      refine (index_minus _).mono ?_; rintro e w' ⟨rfl, rfl⟩
      go_wp2_with (at_lookup; refine wpList_lookup_own_ok_int _ rfl _ _ 131 rfl 9 2 .i64 lawStr Try.underlying131 Try.underlying2 (zeroInt _) b1 n1 _ rfl HL.out _ _ rfl HK.out ?_; intro c hat _; clear hat; rw [K1.out])
      go_wp2_with fail
      refine (opposite_any (-1) (by omega) (by omega) _).mono ?_; rintro e w' ⟨rfl, rfl⟩
      go_wp2_with fail
      refine (index_plus _).mono ?_; rintro e w' ⟨rfl, rfl⟩
      go_wp2_with (at_lookup; refine wpList_lookup_own_ok_int _ rfl _ _ 131 rfl 9 2 .i64 lawStr Try.underlying131 Try.underlying2 (zeroInt _) b2 n2 _ rfl HO.out _ _ rfl HK.out ?_; intro c hat _; have ec := K3.out c hat; clear hat; subst ec; rw [K2.out])
      go_wp2_with fail
      go_ret2
      exact ⟨ret_ib (by rw [HW.out]) (by rw [HW.out]; rfl), HB.out⟩
  · rw [if_neg hF] at hw
    obtain ⟨k1, k3⟩ := li (by first | exact hm | exact hp) hF
    have K1 := Lib.hid k1
    have K3 := Lib.hid k3
    have HW := Lib.hid hw
    clear li lo oi oo k1 k3 hw hF
    generalize fnd m x 0 = G at *
    go_enter Try.func120, Try.ntmps120
    go_wp2_with fail
    refine (index_minus _).mono ?_; rintro e w' ⟨rfl, rfl⟩
    go_wp2_with (at_lookup; refine wpList_lookup_own_ok_int _ rfl _ _ 131 rfl 9 2 .i64 lawStr Try.underlying131 Try.underlying2 (zeroInt _) b1 n1 _ rfl HL.out _ _ rfl HK.out ?_; intro c hat _; have ec := K3.out c hat; clear hat; subst ec; rw [K1.out])
    go_wp2_with fail
    go_ret2
    exact ⟨ret_ib (by rw [HW.out]) (by rw [HW.out]; rfl), HB.out⟩

set_option maxHeartbeats 1600000 in
set_option maxRecDepth 100000 in
theorem read_plus (w : World) (b1 b2 n1 n2 : Nat) (m p : List ByteArray) (x : ByteArray) (h1 : OwnM w b1 n1 m) (h2 : OwnM w b2 n2 p) (hm : m.Nodup) (hp : p.Nodup) (hx : x.size ≤ 4000000) :
    Calls Try.prog 120 #[.agg #[.map (some b1), .map (some b2)], .int .i64 (1), .string x] w fun e w' => e = .returned (.tuple #[.int .i64 (deW m p (1) x).1, .bool (!(deW m p (1) x).2)]) ∧ Below w.heap.size w w' := by
  have hb : Below w.heap.size w (w.alloc (.cells #[.map (some b1), .map (some b2)] 133)) := (Below.refl _ _).alloc (Nat.le_refl _) _
  have HB := Lib.hid hb
  have HL := Lib.hid (OwnM.keep h2 hb)
  have HO := Lib.hid (OwnM.keep h1 hb)
  have HK := Lib.hid (show keyOf Try.prog 9 (.string x) = some (keyL x) from WideMaps.keyOf_string_mk Try.underlying9 (by unfold maxLen; omega))
  have hw : deW m p (1) x = if fnd p x 0 < 0 then (fnd m x 0, true) else (fnd p x 0, false) := rfl
  have li := @look_in p x
  have lo := @look_out p x
  have oi := @look_in m x
  have oo := @look_out m x
  clear h1 h2 hb
  by_cases hF : fnd p x 0 < 0
  · rw [if_pos hF] at hw
    obtain ⟨k1, -⟩ := lo hF
    have K1 := Lib.hid k1
    clear li lo k1 hF
    by_cases hG : fnd m x 0 < 0
    · obtain ⟨k2, k3⟩ := oo hG
      have K2 := Lib.hid k2
      have HW : Hid (deW m p (1) x = (-1, true)) := by show _ = _; rw [hw, k3]
      clear oi oo k2 k3 hw hG
      go_enter Try.func120, Try.ntmps120
      go_wp2_with fail
      refine (index_plus _).mono ?_; rintro e w' ⟨rfl, rfl⟩
      go_wp2_with (at_lookup; refine wpList_lookup_own_ok_int _ rfl _ _ 131 rfl 9 2 .i64 lawStr Try.underlying131 Try.underlying2 (zeroInt _) b2 n2 _ rfl HL.out _ _ rfl HK.out ?_; intro c hat _; clear hat; rw [K1.out])
      go_wp2_with fail
      refine (opposite_any (1) (by omega) (by omega) _).mono ?_; rintro e w' ⟨rfl, rfl⟩
      go_wp2_with fail
      refine (index_minus _).mono ?_; rintro e w' ⟨rfl, rfl⟩
      go_wp2_with (at_lookup; refine wpList_lookup_own_ok_int _ rfl _ _ 131 rfl 9 2 .i64 lawStr Try.underlying131 Try.underlying2 (zeroInt _) b1 n1 _ rfl HO.out _ _ rfl HK.out ?_; intro c hat _; clear hat; rw [K2.out])
      go_wp2_with fail
      go_ret2
      exact ⟨ret_ib (by rw [HW.out]) (by rw [HW.out]; rfl), HB.out⟩
    · obtain ⟨k2, k3⟩ := oi (by first | exact hm | exact hp) hG
      have K2 := Lib.hid k2
      have K3 := Lib.hid k3
      have HW := Lib.hid hw
      clear oi oo k2 k3 hw hG
      generalize fnd m x 0 = G at *
      go_enter Try.func120, Try.ntmps120
      go_wp2_with fail
      refine (index_plus _).mono ?_; rintro e w' ⟨rfl, rfl⟩
      go_wp2_with (at_lookup; refine wpList_lookup_own_ok_int _ rfl _ _ 131 rfl 9 2 .i64 lawStr Try.underlying131 Try.underlying2 (zeroInt _) b2 n2 _ rfl HL.out _ _ rfl HK.out ?_; intro c hat _; clear hat; rw [K1.out])
      go_wp2_with fail
      refine (opposite_any (1) (by omega) (by omega) _).mono ?_; rintro e w' ⟨rfl, rfl⟩
      go_wp2_with fail
      refine (index_minus _).mono ?_; rintro e w' ⟨rfl, rfl⟩
      go_wp2_with (at_lookup; refine wpList_lookup_own_ok_int _ rfl _ _ 131 rfl 9 2 .i64 lawStr Try.underlying131 Try.underlying2 (zeroInt _) b1 n1 _ rfl HO.out _ _ rfl HK.out ?_; intro c hat _; have ec := K3.out c hat; clear hat; subst ec; rw [K2.out])
      go_wp2_with fail
      go_ret2
      exact ⟨ret_ib (by rw [HW.out]) (by rw [HW.out]; rfl), HB.out⟩
  · rw [if_neg hF] at hw
    obtain ⟨k1, k3⟩ := li (by first | exact hm | exact hp) hF
    have K1 := Lib.hid k1
    have K3 := Lib.hid k3
    have HW := Lib.hid hw
    clear li lo oi oo k1 k3 hw hF
    generalize fnd p x 0 = G at *
    go_enter Try.func120, Try.ntmps120
    go_wp2_with fail
    refine (index_plus _).mono ?_; rintro e w' ⟨rfl, rfl⟩
    go_wp2_with (at_lookup; refine wpList_lookup_own_ok_int _ rfl _ _ 131 rfl 9 2 .i64 lawStr Try.underlying131 Try.underlying2 (zeroInt _) b2 n2 _ rfl HL.out _ _ rfl HK.out ?_; intro c hat _; have ec := K3.out c hat; clear hat; subst ec; rw [K1.out])
    go_wp2_with fail
    go_ret2
    exact ⟨ret_ib (by rw [HW.out]) (by rw [HW.out]; rfl), HB.out⟩
end Go.Proofs.Ytjmaapbodacggaa
