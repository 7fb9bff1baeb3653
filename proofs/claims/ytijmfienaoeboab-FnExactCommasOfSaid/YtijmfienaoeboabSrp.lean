/- Plain: the sums within the words of a block code. -/
import Derived.Test.YtijmfienaoeboabEwd
namespace Go.Proofs.Ytijmfienaoeboab
open Go Go.RowKit
set_option linter.unusedVariables false

theorem disL_snoc (l : List UInt8) (c : UInt8) (h : 48 ≤ (c.toNat : Int) ∧ (c.toNat : Int) ≤ 49) : disL (l ++ [c]) = disL l + (2 * ((c.toNat : Int) - 48) - 1) := by
  unfold disL
  rw [onesL_snoc _ _ h]
  simp
  omega
theorem disL_bd (l : List UInt8) : -(l.length : Int) ≤ disL l ∧ disL l ≤ l.length := by
  have := onesL_bd l
  unfold disL
  omega
theorem disL_take (x : ByteArray) (k : Nat) (h : k < x.size) (hb : inR 48 49 x.data.toList = true) : disL (x.data.toList.take (k + 1)) = disL (x.data.toList.take k) + (2 * ((x[k].toNat : Int) - 48) - 1) := by
  rw [take_snoc x k h, disL_snoc _ _ (inR_at 48 49 x k h hb)]

/-- The least, and the greatest, sum behind the first bits of a word, and a. -/
def loW (s : Int) (l : List UInt8) : Nat → Int → Int
  | 0, a => a
  | n + 1, a => min (loW s l n a) (s + disL (l.take (n + 1)))
def hiW (s : Int) (l : List UInt8) : Nat → Int → Int
  | 0, a => a
  | n + 1, a => max (hiW s l n a) (s + disL (l.take (n + 1)))
def loL (s : Int) (ws : List ByteArray) (a : Int) : Int := ws.foldl (fun a x => loW s x.data.toList x.size a) a
def hiL (s : Int) (ws : List ByteArray) (a : Int) : Int := ws.foldl (fun a x => hiW s x.data.toList x.size a) a
theorem loL_take (s : Int) (ws : List ByteArray) (a : Int) (k : Nat) (h : k < ws.length) : loL s (ws.take (k + 1)) a = loW s ws[k].data.toList ws[k].size (loL s (ws.take k) a) := by
  rw [List.take_succ_eq_append_getElem h]; simp only [loL, List.foldl_append, List.foldl_cons, List.foldl_nil]
theorem hiL_take (s : Int) (ws : List ByteArray) (a : Int) (k : Nat) (h : k < ws.length) : hiL s (ws.take (k + 1)) a = hiW s ws[k].data.toList ws[k].size (hiL s (ws.take k) a) := by
  rw [List.take_succ_eq_append_getElem h]; simp only [hiL, List.foldl_append, List.foldl_cons, List.foldl_nil]
theorem loW_bd (s : Int) (l : List UInt8) (hs : -1 ≤ s ∧ s ≤ 1) : ∀ (n : Nat) (a : Int), -20 ≤ a ∧ a ≤ 20 → n ≤ 12 → -20 ≤ loW s l n a ∧ loW s l n a ≤ 20
  | 0, a, h, _ => h
  | n + 1, a, h, hn => by
    have h1 := loW_bd s l hs n a h (by omega)
    have h2 := disL_bd (l.take (n + 1))
    have h3 := List.length_take_le (n + 1) l
    rw [loW]; omega
theorem hiW_bd (s : Int) (l : List UInt8) (hs : -1 ≤ s ∧ s ≤ 1) : ∀ (n : Nat) (a : Int), -20 ≤ a ∧ a ≤ 20 → n ≤ 12 → -20 ≤ hiW s l n a ∧ hiW s l n a ≤ 20
  | 0, a, h, _ => h
  | n + 1, a, h, hn => by
    have h1 := hiW_bd s l hs n a h (by omega)
    have h2 := disL_bd (l.take (n + 1))
    have h3 := List.length_take_le (n + 1) l
    rw [hiW]; omega

/-- What SumRange answers. -/
def srLo (d wd : Int) (m p : List ByteArray) : Int := if bcOk d wd m p = true then loL 1 p (loL (-1) m (-1)) else 0
def srHi (d wd : Int) (m p : List ByteArray) : Int := if bcOk d wd m p = true then hiL 1 p (hiL (-1) m 1) else 0

def loS {wd : Int} (xs : List (PW wd)) (a : Int) : Int := xs.foldl (fun a x => loW x.1.1 x.1.2.data.toList x.1.2.size a) a
def hiS {wd : Int} (xs : List (PW wd)) (a : Int) : Int := xs.foldl (fun a x => hiW x.1.1 x.1.2.data.toList x.1.2.size a) a
theorem loS_snoc {wd : Int} (xs : List (PW wd)) (x : PW wd) (a : Int) : loS (xs ++ [x]) a = loW x.1.1 x.1.2.data.toList x.1.2.size (loS xs a) := by simp [loS]
theorem hiS_snoc {wd : Int} (xs : List (PW wd)) (x : PW wd) (a : Int) : hiS (xs ++ [x]) a = hiW x.1.1 x.1.2.data.toList x.1.2.size (hiS xs a) := by simp [hiS]
theorem loS_pws {wd s : Int} {hs : s = -1 ∨ s = 1} : ∀ (l : List ByteArray) (hl : ∀ x ∈ l, wordOk wd (-s - s) x = true) (a : Int), loS (pws wd s hs l hl) a = loL s l a
  | [], _, a => rfl
  | x :: xs, hl, a => by
    have := loS_pws (hs := hs) xs (fun y hy => hl y (by simp [hy])) (loW s x.data.toList x.size a)
    simpa [pws, loS, loL] using this
theorem hiS_pws {wd s : Int} {hs : s = -1 ∨ s = 1} : ∀ (l : List ByteArray) (hl : ∀ x ∈ l, wordOk wd (-s - s) x = true) (a : Int), hiS (pws wd s hs l hl) a = hiL s l a
  | [], _, a => rfl
  | x :: xs, hl, a => by
    have := hiS_pws (hs := hs) xs (fun y hy => hl y (by simp [hy])) (hiW s x.data.toList x.size a)
    simpa [pws, hiS, hiL] using this
theorem loS_append {wd : Int} (xs ys : List (PW wd)) (a : Int) : loS (xs ++ ys) a = loS ys (loS xs a) := by simp [loS]
theorem hiS_append {wd : Int} (xs ys : List (PW wd)) (a : Int) : hiS (xs ++ ys) a = hiS ys (hiS xs a) := by simp [hiS]
theorem bcOk_parts {d wd : Int} {m p : List ByteArray} (h : bcOk d wd m p = true) : wd ≤ 12 ∧ (∀ x ∈ m, wordOk wd 2 x = true) ∧ (∀ x ∈ p, wordOk wd (-2) x = true) := by
  unfold bcOk at h
  simp only [Bool.and_eq_true] at h
  obtain ⟨h1, h2, h3, h4, h5, h6⟩ := h
  have := of_decide_eq_true h1
  exact ⟨by omega, (wordsOk_parts h4).2, (wordsOk_parts h5).2⟩
theorem wordOk_bits {wd disp : Int} {s : ByteArray} (h : wordOk wd disp s = true) (hw : wd ≤ 12) : inR 48 49 s.data.toList = true ∧ s.size ≤ 12 := by
  obtain ⟨h1, h2, -⟩ := wordOk_parts h
  exact ⟨(isB_parts h1).2, by omega⟩
end Go.Proofs.Ytijmfienaoeboab
