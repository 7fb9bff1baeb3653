/- The program's behind (as in EnI, alone). -/
import Derived.Test.YtijmfienaoeboabEnP
import Derived.Test.YtijmfienaoeboabBx
namespace Go.Proofs.Ytijmfienaoeboab
open Go Go.RowKit
set_option linter.unusedVariables false

theorem behind_ex (s : Int) (x : ByteArray) (w : World) (hx : isB x.data.toList = true) :
    Calls Try.prog 171 #[.int .i64 s, .string x] w fun e w' => e = .returned (.int .i64 (nxS s x)) ∧ Below w.heap.size w w' := by
  have hs : x.size ≤ 400 := by have := (isB_parts hx).1; simpa using this
  have hd := fun W => dis_impl x W (by unfold maxLen; omega)
  have hda : disA x.data.toList = disL x.data.toList := by unfold disA; rw [if_pos hx]
  rw [hda, hx] at hd
  have HD := Lib.hid hd
  have hn : nxS s x = if 0 < disL x.data.toList then 1 else if disL x.data.toList < 0 then -1 else s := rfl
  clear hd hx hs hda
  generalize disL x.data.toList = D at *
  by_cases h1 : 0 < D
  · have HE : Hid (nxS s x = 1) := by show _ = _; rw [hn, if_pos h1]
    clear hn
    go_enter Try.func171, Try.ntmps171
    go_wp2_with fail
    refine (HD.out _).mono ?_; rintro e w1 ⟨rfl, hb1⟩
    have HB1 := Lib.hid hb1
    clear hb1
    go_wp2_with fail
    go_ret
    exact ⟨ret_int HE.out.symm, HB1.out⟩
  · by_cases h2 : D < 0
    · have HE : Hid (nxS s x = -1) := by show _ = _; rw [hn, if_neg h1, if_pos h2]
      clear hn
      go_enter Try.func171, Try.ntmps171
      go_wp2_with fail
      refine (HD.out _).mono ?_; rintro e w1 ⟨rfl, hb1⟩
      have HB1 := Lib.hid hb1
      clear hb1
      go_wp2_with fail
      go_ret
      exact ⟨ret_int HE.out.symm, HB1.out⟩
    · have HE : Hid (nxS s x = s) := by show _ = _; rw [hn, if_neg h1, if_neg h2]
      clear hn
      go_enter Try.func171, Try.ntmps171
      go_wp2_with fail
      refine (HD.out _).mono ?_; rintro e w1 ⟨rfl, hb1⟩
      have HB1 := Lib.hid hb1
      clear hb1
      go_wp2_with fail
      go_ret
      exact ⟨ret_int HE.out.symm, HB1.out⟩

end Go.Proofs.Ytijmfienaoeboab
