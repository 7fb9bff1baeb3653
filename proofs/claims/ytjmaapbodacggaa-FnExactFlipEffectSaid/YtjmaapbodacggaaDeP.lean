/- Reading data by a block code: plain facts. -/
import Derived.Test.YtjmaapbodacggaaEnP
namespace Go.Proofs.Ytjmaapbodacggaa
open Go Go.RowKit
set_option linter.unusedVariables false

/-- The words of bits. -/
def wordsL (b : ByteArray) (u k : Nat) : List ByteArray := (List.range k).map fun j => b.extract (j * u) (j * u + u)
theorem wordsL_succ (b : ByteArray) (u k : Nat) : wordsL b u (k + 1) = wordsL b u k ++ [b.extract (k * u) (k * u + u)] := by simp [wordsL, List.range_succ]
theorem wordsL_len (b : ByteArray) (u k : Nat) : (wordsL b u k).length = k := by simp [wordsL]
theorem inR_sub (lo hi : Int) (l : List UInt8) (i n : Nat) (h : inR lo hi l = true) : inR lo hi ((l.drop i).take n) = true := by
  unfold inR at *
  rw [List.all_eq_true] at *
  exact fun x hx => h x (List.mem_of_mem_drop (List.mem_of_mem_take hx))
theorem extract_list (b : ByteArray) (i j : Nat) : (b.extract i j).data.toList = (b.data.toList.drop i).take (j - i) := by
  rw [ByteArray.data_extract]
  simp [Array.toList_extract]
theorem isB_extract (b : ByteArray) (i j : Nat) (h : isB b.data.toList = true) : isB (b.extract i j).data.toList = true := by
  obtain ⟨h1, h2⟩ := isB_parts h
  rw [extract_list]
  unfold isB
  rw [inR_sub _ _ _ _ _ h2, decide_eq_true (by rw [List.length_take, List.length_drop]; omega)]; rfl
theorem size_extract' (b : ByteArray) (i j : Nat) (h : j ≤ b.size) : (b.extract i j).size = j - i := by
  rw [ByteArray.size_extract]; omega

/-- The list of a state. -/
def lst (m p : List ByteArray) (st : Int) : List ByteArray := if st < 0 then m else p
/-- The data of a word, and whether it has an error. -/
def deW (m p : List ByteArray) (st : Int) (x : ByteArray) : Int × Bool := if fnd (lst m p st) x 0 < 0 then (fnd (lst m p (-st)) x 0, true) else (fnd (lst m p st) x 0, false)
def deStep (m p : List ByteArray) (a : List Int × List Int × Int) (x : ByteArray) : List Int × List Int × Int :=
  (a.1 ++ [(deW m p a.2.2 x).1], (if (deW m p a.2.2 x).2 = true then a.2.1 ++ [(a.1.length : Int)] else a.2.1), nxS a.2.2 x)
def deS (m p : List ByteArray) (s : Int) (ws : List ByteArray) : List Int × List Int × Int := ws.foldl (deStep m p) ([], [], s)
theorem deS_snoc (m p : List ByteArray) (s : Int) (ws : List ByteArray) (x : ByteArray) : deS m p s (ws ++ [x]) = deStep m p (deS m p s ws) x := by simp [deS, List.foldl_append]
theorem deS_all (m p : List ByteArray) (s : Int) (h : s = -1 ∨ s = 1) : ∀ (n : Nat) (ws : List ByteArray), ws.length = n → ((deS m p s ws).1.length = n ∧ (deS m p s ws).2.1.length ≤ n) ∧ ((deS m p s ws).2.2 = -1 ∨ (deS m p s ws).2.2 = 1) := by
  intro n
  induction n with
  | zero => intro ws hl; rw [List.length_eq_zero_iff] at hl; subst hl; exact ⟨⟨rfl, Nat.le_refl _⟩, h⟩
  | succ n ih =>
    intro ws hl
    rcases List.eq_nil_or_concat ws with rfl | ⟨ys, y, rfl⟩
    · simp at hl
    · rw [List.concat_eq_append] at *
      obtain ⟨⟨h1, h2⟩, h3⟩ := ih ys (by simp at hl; omega)
      rw [deS_snoc]
      unfold deStep
      refine ⟨⟨by simp [h1], ?_⟩, nxS_st _ _ h3⟩
      show (if _ then _ else _ : List Int).length ≤ _
      split
      · simp; omega
      · omega
/-- What DecodeBlocks answers. -/
def deOk (d wd : Int) (m p : List ByteArray) (s : Int) (b : ByteArray) : Bool := bcOk d wd m p && (stOk s && (isB b.data.toList && decide ((b.size : Int) % wd = 0)))
def deR (d wd : Int) (m p : List ByteArray) (s : Int) (b : ByteArray) : List Int × List Int × Int := if deOk d wd m p s b = true then deS m p s (wordsL b wd.toNat (b.size / wd.toNat)) else ([], [], 0)
theorem deR_no {d wd : Int} {m p : List ByteArray} {s : Int} {b : ByteArray} (h : deOk d wd m p s b = false) : deR d wd m p s b = ([], [], 0) := by unfold deR; rw [h]; rfl
theorem deR_yes {d wd : Int} {m p : List ByteArray} {s : Int} {b : ByteArray} (h : deOk d wd m p s b = true) : deR d wd m p s b = deS m p s (wordsL b wd.toNat (b.size / wd.toNat)) := by unfold deR; rw [h]; rfl
end Go.Proofs.Ytjmaapbodacggaa
