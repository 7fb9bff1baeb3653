/- The program's CheckBits, AddCheck, HasCheck; the model's AddCheck, HasCheck. -/
import Derived.Test.YtnpigefbdadjfaaDoorCkn
import Derived.Test.YtnpigefbdadjfaaDoorDvo
namespace Go.Proofs.YtnpigefbdadjfaaDoor
open Go Go.RowKit
set_option linter.unusedVariables false

theorem rd_again {p d : Nat} (hg : Deg p d) (n k : Nat) : rd p d (rd p d n * 2 ^ k) = rd p d (n * 2 ^ k) := by
  have := rd_shift hg n k 0 (Nat.two_pow_pos k)
  simpa using this
theorem bytes_rd {P : Nat} {l : List UInt8} (h : isB l = true) : vb (dby (nbits (btN l) 0) ((l.length + 7) / 8)) 0 = nbl l := by
  have := vb_all (btN l) (inR_btN (isB_two h).2)
  rwa [btN_len] at this
end Go.Proofs.YtnpigefbdadjfaaDoor
