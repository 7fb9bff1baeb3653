/- Contracts of l03Disparity at bits, and of both DisparityOf. -/
import Derived.Test.YtjmaapbodacggaaOnes
namespace Go.Proofs.Ytjmaapbodacggaa
open Go Go.RowKit
set_option linter.unusedVariables false

/-- What DisparityOf answers. -/
def disL (l : List UInt8) : Int := 2 * onesL l - l.length
def disA (l : List UInt8) : Int := if isB l = true then disL l else 0
theorem isB_parts {l : List UInt8} (h : isB l = true) : l.length ≤ 400 ∧ inR 48 49 l = true := by
  unfold isB at h
  have hp := Bool.and_eq_true_iff.1 h
  exact ⟨of_decide_eq_true hp.1, hp.2⟩

theorem l03Disparity_bits (s : ByteArray) (w : World) (hb : isB s.data.toList = true) :
    Calls Try.prog 134 #[.string s] w fun e w' => e = .returned (.int .i64 (disL s.data.toList)) ∧ w = w' := by
  obtain ⟨h1, h2⟩ := isB_parts hb
  have hs : s.size ≤ 400 := by simpa using h1
  have HE : Hid (disL s.data.toList = 2 * onesL s.data.toList - (s.size : Int)) := by show _ = _; unfold disL; simp
  obtain ⟨o1, o2⟩ := onesL_bd s.data.toList
  have o3 : onesL s.data.toList ≤ 400 := by omega
  have HC := Lib.hid (fun W => l01Ones_any s W hs h2)
  clear h1 h2 hb o2
  generalize onesL s.data.toList = o at *
  generalize disL s.data.toList = D at *
  go_enter Try.func134, Try.ntmps134
  go_wp2_with fail
  refine (HC.out _).mono ?_; rintro e w' ⟨rfl, rfl⟩
  go_wp2_with fail
  go_ret
  exact ⟨ret_int (by rw [HE.out]), rfl⟩

theorem dis_impl (s : ByteArray) (w : World) (hs : s.size ≤ maxLen) :
    Calls Try.prog 139 #[.string s] w fun e w' => e = .returned (.tuple #[.int .i64 (disA s.data.toList), .bool (isB s.data.toList)]) ∧ Below w.heap.size w w' := by
  have HC := Lib.hid (fun W => ones_impl s W hs)
  clear hs
  cases hB : isB s.data.toList
  · have HR : Hid (disA s.data.toList = 0) := by show _ = _; unfold disA; rw [if_neg (by rw [hB]; decide)]
    rw [hB] at HC
    generalize onesA s.data.toList = o at *
    generalize disA s.data.toList = D at *
    clear hB
    go_enter Try.func139, Try.ntmps139
    go_wp2_with fail
    refine (HC.out _).mono ?_; rintro e w' ⟨rfl, hb⟩
    have HBB := Lib.hid hb
    clear hb
    go_wp2_with fail
    go_ret2
    exact ⟨ret_ib (by rw [HR.out]) rfl, HBB.out⟩
  · have HR : Hid (disA s.data.toList = 2 * onesA s.data.toList - (s.size : Int)) := by show _ = _; unfold disA onesA; rw [if_pos hB, if_pos hB]; unfold disL; simp
    obtain ⟨h1, h2⟩ := isB_parts hB
    have hs : s.size ≤ 400 := by simpa using h1
    have ho : 0 ≤ onesA s.data.toList ∧ onesA s.data.toList ≤ 400 := by
      unfold onesA; rw [if_pos hB]
      have := onesL_bd s.data.toList
      omega
    obtain ⟨o1, o2⟩ := ho
    rw [hB] at HC
    generalize onesA s.data.toList = o at *
    generalize disA s.data.toList = D at *
    clear hB h1 h2
    go_enter Try.func139, Try.ntmps139
    go_wp2_with fail
    refine (HC.out _).mono ?_; rintro e w' ⟨rfl, hb⟩
    have HBB := Lib.hid hb
    clear hb
    go_wp2_with fail
    go_ret2
    exact ⟨ret_ib (by rw [HR.out]) rfl, HBB.out⟩
end Go.Proofs.Ytjmaapbodacggaa
