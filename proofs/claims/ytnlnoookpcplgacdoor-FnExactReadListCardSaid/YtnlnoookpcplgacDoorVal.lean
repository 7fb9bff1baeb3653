/- The contract of the model's reader of decimal texts with a lesser bound. -/
import Derived.Test.YtnlnoookpcplgacDoorRdn
namespace Go.Proofs.YtnlnoookpcplgacDoor
open Go Go.RowKit
set_option linter.unusedVariables false

set_option maxRecDepth 100000 in
theorem value_any (s : ByteArray) (hs : s.size ≤ 1048576) (w : World) :
    Calls Tryd.prog 43 #[.string s] w fun e w' => e = .returned (.tuple #[.int .i64 (rdN 1000000000000000 s.data.toList), .bool (rdOk 1000000000000000 s.data.toList)]) ∧ Below w.heap.size w w' := by
  have HG := Lib.hid (fun W => great_any s hs W)
  go_enter Tryd.func43, Tryd.ntmps43
  go_wp2_with fail
  refine (HG.out _).mono ?_; rintro e w1 ⟨n, ok, rfl, hg, hb1⟩
  have HB := Lib.hid hb1
  obtain ⟨g1, g2⟩ := hg
  clear hb1
  cases ok
  · obtain ⟨r1, r2⟩ := rd_no (M := 1000000000000000) (l := s.data.toList) (fun v a b c => by have := (g2 v (by omega) (by omega) c).1; cases this)
    have R := Lib.hid (And.intro r1 r2)
    clear g1 g2 r1 r2
    go_wp2_with fail
    go_ret2
    exact ⟨(by rw [R.out.1, R.out.2]; try rfl), HB.out⟩
  · obtain ⟨i1, i2, i3⟩ := g1 rfl
    by_cases hr : -1000000000000000 ≤ n ∧ n ≤ 1000000000000000
    · obtain ⟨r1, r2⟩ := rd_yes (M := 1000000000000000) (by omega) hr.1 hr.2 i1
      have R := Lib.hid (And.intro r1 r2)
      obtain ⟨h1, h2⟩ := hr
      clear g1 g2 r1 r2 i1
      go_wp2_with fail
      refine (l00In_yes _ _ _ _ h1 h2).mono ?_; rintro e w' ⟨rfl, rfl⟩
      go_wp2_with fail
      go_ret2
      exact ⟨(by rw [R.out.1, R.out.2]; try rfl), HB.out⟩
    · obtain ⟨r1, r2⟩ := rd_no (M := 1000000000000000) (l := s.data.toList) (fun v a b c => by have := (g2 v (by omega) (by omega) c).2; omega)
      have R := Lib.hid (And.intro r1 r2)
      have HR := Lib.hid hr
      clear g1 g2 r1 r2 i1 hr
      go_wp2_with fail
      refine (l00In_no _ _ _ _ HR.out).mono ?_; rintro e w' ⟨rfl, rfl⟩
      go_wp2_with fail
      go_ret2
      exact ⟨(by rw [R.out.1, R.out.2]; try rfl), HB.out⟩

end Go.Proofs.YtnlnoookpcplgacDoor
