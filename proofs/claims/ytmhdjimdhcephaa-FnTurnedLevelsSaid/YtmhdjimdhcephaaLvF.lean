/- Both LevelsOf. -/
import Derived.Test.YtmhdjimdhcephaaLvE
namespace Go.Proofs.Ytmhdjimdhcephaa
open Go Go.RowKit
set_option linter.unusedVariables false

theorem l10Kind_any (kind : Int) (w : World) :
    Calls Try.prog 54 #[.int .i64 kind] w fun e w' => e = .returned (.bool (kdB kind)) ∧ w = w' := by
  have HC : Hid (Calls Try.prog 71 #[.int .i64 kind, .int .i64 0, .int .i64 5] w fun e w' => e = .returned (.bool (kdB kind)) ∧ w = w') := rg_in kind 0 5 w
  generalize kdB kind = R at *
  go_enter Try.func54, Try.ntmps54
  go_wp2_with fail
  refine HC.out.mono ?_; rintro e w' ⟨rfl, rfl⟩
  go_wp2_with fail
  go_ret
  exact ⟨rfl, rfl⟩
theorem kd_nat {kind : Int} (h : kdB kind = true) : ∃ κ : Nat, kind = κ ∧ κ ≤ 5 ∧ kind.toNat = κ := by
  have h1 : 0 ≤ kind ∧ kind ≤ 5 := of_decide_eq_true h
  exact ⟨kind.toNat, by omega, by omega, rfl⟩
theorem l10Levels_any {κ : Nat} (h : κ ≤ 5) (s : ByteArray) (w : World) (hB : isB s.data.toList = true) :
    Calls Try.prog 56 #[.int .i64 (κ : Int), .string s] w fun e w' => ∃ u, e = .returned u ∧ Own w' w.heap.size u (lvL κ s.data.toList s.size) ∧ Below w.heap.size w w' := by
  rcases six h with rfl | rfl | rfl | rfl | rfl | rfl
  · exact levelsM_0 s w hB
  · exact levelsM_1 s w hB
  · exact levelsM_2 s w hB
  · exact levelsM_3 s w hB
  · exact levelsM_4 s w hB
  · exact levelsM_5 s w hB
set_option maxRecDepth 100000 in
theorem levels_spec (kind : Int) (s : ByteArray) (w : World) (hs : s.size ≤ maxLen) :
    Calls Try.prog 29 #[.int .i64 kind, .string s] w fun e w' => ∃ u, e = .returned (.tuple #[u, .bool (loOk kind s.data.toList)]) ∧ Own w' w.heap.size u (loV kind s.data.toList) ∧ Below w.heap.size w w' := by
  have HK := Lib.hid (l10Kind_any kind w)
  have HI := Lib.hid (l01Bits_any s w hs)
  cases g0 : kdB kind
  · obtain ⟨e1, e2⟩ := lo_no (kind := kind) (l := s.data.toList) (.inl g0)
    rw [e1, e2]
    rw [g0] at HK
    clear g0 e1 e2 HI
    go_enter Try.func29, Try.ntmps29
    go_wp2_with fail
    refine HK.out.mono ?_; rintro e w' ⟨rfl, rfl⟩
    go_wp2_with fail
    go_ret2
    exact ⟨_, rfl, World.ownsRow_nil _ _ _ _, Below.refl _ _⟩
  cases g1 : isB s.data.toList
  · obtain ⟨e1, e2⟩ := lo_no (kind := kind) (l := s.data.toList) (.inr g1)
    rw [e1, e2]
    rw [g0] at HK
    rw [g1] at HI
    clear g0 g1 e1 e2
    go_enter Try.func29, Try.ntmps29
    go_wp2_with fail
    refine HK.out.mono ?_; rintro e w' ⟨rfl, rfl⟩
    go_wp2_with fail
    refine HI.out.mono ?_; rintro e w' ⟨rfl, rfl⟩
    go_wp2_with fail
    go_ret2
    exact ⟨_, rfl, World.ownsRow_nil _ _ _ _, Below.refl _ _⟩
  obtain ⟨κ, rfl, hκ, hn⟩ := kd_nat g0
  obtain ⟨e1, e2⟩ := lo_yes g0 g1
  rw [e1, e2, hn, show s.data.toList.length = s.size by simp]
  rw [g0] at HK
  rw [g1] at HI
  have HL := Lib.hid (l10Levels_any hκ s w g1)
  clear g0 g1 e1 e2 hn hκ
  go_enter Try.func29, Try.ntmps29
  go_wp2_with fail
  refine HK.out.mono ?_; rintro e w' ⟨rfl, rfl⟩
  go_wp2_with fail
  refine HI.out.mono ?_; rintro e w' ⟨rfl, rfl⟩
  go_wp2_with fail
  refine HL.out.mono ?_; rintro e w1 ⟨u, rfl, ho, hb⟩
  go_wp2_with fail
  go_ret2
  exact ⟨_, rfl, ho, hb⟩
set_option maxRecDepth 100000 in
theorem levels_impl (kind : Int) (s : ByteArray) (w : World) (hs : s.size ≤ maxLen) :
    Calls Try.prog 30 #[.int .i64 kind, .string s] w fun e w' => ∃ u, e = .returned (.tuple #[u, .bool (loOk kind s.data.toList)]) ∧ Own w' w.heap.size u (loV kind s.data.toList) ∧ Below w.heap.size w w' := by
  have HI := Lib.hid (fun W => isBits_any s W hs)
  cases g0 : kdB kind
  · obtain ⟨e1, e2⟩ := lo_no (kind := kind) (l := s.data.toList) (.inl g0)
    rw [e1, e2]
    have HK := Lib.hid (wire_no kind g0 w)
    clear g0 e1 e2 HI
    go_enter Try.func30, Try.ntmps30
    go_wp2_with fail
    refine HK.out.mono ?_; rintro e w1 ⟨rfl, hb1⟩
    have HB := Lib.hid (hb1.alloc hb1.size (.cells #[.nilIface, .int .i64 0, .int .i64 0] 60))
    clear hb1
    go_wp2_with fail
    go_ret2
    exact ⟨_, rfl, World.ownsRow_nil _ _ _ _, HB.out⟩
  obtain ⟨κ, rfl, hκ, hn⟩ := kd_nat g0
  cases g1 : isB s.data.toList
  · obtain ⟨e1, e2⟩ := lo_no (kind := κ) (l := s.data.toList) (.inr g1)
    rw [e1, e2]
    rw [g1] at HI
    have HK := Lib.hid (wire_yes hκ w)
    clear g0 g1 e1 e2 hκ hn
    generalize kT κ = T at *
    generalize (stE κ).1 = a at *
    generalize (stE κ).2 = m at *
    go_enter Try.func30, Try.ntmps30
    go_wp2_with fail
    refine HK.out.mono ?_; rintro e w1 ⟨rfl, hb1⟩
    have HB := Lib.hid (hb1.alloc hb1.size (.cells #[.iface T (.agg #[]), .int .i64 a, .int .i64 m] 60))
    clear hb1
    go_wp2_with fail
    refine (HI.out _).mono ?_; rintro e w2 ⟨rfl, hb2⟩
    have HB2 := Lib.hid (HB.out.trans (hb2.mono HB.out.size))
    clear hb2
    go_wp2_with fail
    go_ret2
    exact ⟨_, rfl, World.ownsRow_nil _ _ _ _, HB2.out⟩
  obtain ⟨e1, e2⟩ := lo_yes g0 g1
  rw [e1, e2, hn, show s.data.toList.length = s.size by simp]
  exact levels_main hκ s w hs g1
end Go.Proofs.Ytmhdjimdhcephaa
