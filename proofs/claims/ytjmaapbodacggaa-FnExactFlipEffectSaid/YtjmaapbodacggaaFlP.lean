/- A changed bit: plain facts. -/
import Derived.Test.YtjmaapbodacggaaDeP
namespace Go.Proofs.Ytjmaapbodacggaa
open Go Go.RowKit
set_option linter.unusedVariables false

/-- Bits of which one is changed. -/
def flipL (l : List UInt8) (i : Nat) : List UInt8 := l.set i (97 - l.getD i 0)
def flipB (b : ByteArray) (i : Nat) : ByteArray := ⟨(flipL b.data.toList i).toArray⟩
theorem flipB_size (b : ByteArray) (i : Nat) : (flipB b i).size = b.size := by
  show (flipL b.data.toList i).toArray.size = b.data.size
  unfold flipL
  rw [List.size_toArray, List.length_set, Array.length_toList]
theorem flip_bit {c : UInt8} (h : 48 ≤ (c.toNat : Int) ∧ (c.toNat : Int) ≤ 49) : ((97 - c : UInt8).toNat : Int) = 97 - (c.toNat : Int) := by
  rw [UInt8.toNat_sub]
  have e : (97 : UInt8).toNat = 97 := rfl
  rw [e]
  omega
theorem flip_isB {b : ByteArray} {i : Nat} (h : isB b.data.toList = true) (hi : i < b.size) : isB (flipB b i).data.toList = true := by
  obtain ⟨h1, h2⟩ := isB_parts h
  show isB (flipL b.data.toList i) = true
  unfold isB flipL
  rw [decide_eq_true (by rw [List.length_set]; exact h1)]
  rw [Bool.true_and]
  unfold inR at *
  rw [List.all_eq_true] at *
  intro c hc
  rcases List.mem_or_eq_of_mem_set hc with hc | hc
  · exact h2 c hc
  · have hl : i < b.data.toList.length := by simpa using hi
    have hg := h2 (b.data.toList.getD i 0) (by rw [List.getD_eq_getElem?_getD, List.getElem?_eq_getElem hl, Option.getD_some]; exact List.getElem_mem hl)
    have hg' := of_decide_eq_true hg
    have hf := flip_bit hg'
    subst hc
    refine decide_eq_true ?_
    omega
theorem flip_parts (b : ByteArray) (i : Nat) (hi : i < b.size) : b.extract 0 i ++ ⟨#[97 - b.data.toList.getD i 0]⟩ ++ b.extract (i + 1) b.size = flipB b i := by
  have hl : i < b.data.toList.length := by simpa using hi
  have hs : b.size = b.data.toList.length := by simp
  apply ByteArray.ext
  apply Array.toList_inj.1
  rw [ByteArray.data_append, ByteArray.data_append, Array.toList_append, Array.toList_append, extract_list, extract_list]
  show _ = flipL b.data.toList i
  unfold flipL
  rw [List.set_eq_take_append_cons_drop, if_pos hl]
  have e2 : (b.data.toList.drop (i + 1)).take (b.size - (i + 1)) = b.data.toList.drop (i + 1) := List.take_of_length_le (by rw [List.length_drop, hs]; exact Nat.le_refl _)
  rw [e2]
  simp

/-- In how many places lists differ. -/
def neC (xs ys : List Int) (k : Nat) : Nat := ((List.range k).filter fun i => xs.getD i 0 != ys.getD i 0).length
theorem neC_succ (xs ys : List Int) (k : Nat) : neC xs ys (k + 1) = neC xs ys k + if (xs.getD k 0 != ys.getD k 0) = true then 1 else 0 := by
  unfold neC
  rw [List.range_succ, List.filter_append, List.length_append]
  congr 1
  rw [List.filter_cons]
  cases (xs.getD k 0 != ys.getD k 0) <;> rfl
theorem neC_le (xs ys : List Int) (k : Nat) : neC xs ys k ≤ k := by
  unfold neC
  have := List.length_filter_le (fun i => xs.getD i 0 != ys.getD i 0) (List.range k)
  rw [List.length_range] at this
  exact this
theorem getD_at (xs : List Int) (k : Nat) (h : k < xs.length) : xs[k] = xs.getD k 0 := by rw [List.getD_eq_getElem?_getD, List.getElem?_eq_getElem h, Option.getD_some]

def hd1 (l : List Int) : Int := match l with | [] => -1 | e :: _ => e
/-- What FlipEffect answers. -/
def feOk (d wd : Int) (m p : List ByteArray) (s : Int) (xs : List Int) (at_ : Int) : Bool := enOk d wd m p s xs && decide (0 ≤ at_ ∧ at_ ≤ ((encS m p s xs).1.size : Int) - 1)
def feR (d wd : Int) (m p : List ByteArray) (s : Int) (xs : List Int) (at_ : Int) : List Int × List Int × Int := deR d wd m p s (flipB (encS m p s xs).1 at_.toNat)
def feN (d wd : Int) (m p : List ByteArray) (s : Int) (xs : List Int) (at_ : Int) : Int := if feOk d wd m p s xs at_ = true then ((neC (feR d wd m p s xs at_).1 xs xs.length : Nat) : Int) else 0
def feW (d wd : Int) (m p : List ByteArray) (s : Int) (xs : List Int) (at_ : Int) : Int := if feOk d wd m p s xs at_ = true then hd1 (feR d wd m p s xs at_).2.1 else 0
theorem fe_no {d wd : Int} {m p : List ByteArray} {s : Int} {xs : List Int} {at_ : Int} (h : feOk d wd m p s xs at_ = false) : feN d wd m p s xs at_ = 0 ∧ feW d wd m p s xs at_ = 0 := by
  unfold feN feW; rw [h]; exact ⟨rfl, rfl⟩
/-- What is sent and changed can be read. -/
theorem enOk_parts {d wd : Int} {m p : List ByteArray} {s : Int} {xs : List Int} (h : enOk d wd m p s xs = true) : bcOk d wd m p = true ∧ stOk s = true ∧ (xs.length : Int) ≤ 400 / wd ∧ xs.all (inD d.toNat) = true := by
  unfold enOk at h
  obtain ⟨h0, h1⟩ := Bool.and_eq_true_iff.1 h
  obtain ⟨h2, h3⟩ := Bool.and_eq_true_iff.1 h1
  obtain ⟨h4, h5⟩ := Bool.and_eq_true_iff.1 h3
  exact ⟨h0, h2, of_decide_eq_true h4, h5⟩
theorem encS_bits {d wd : Int} {m p : List ByteArray} (h : bcOk d wd m p = true) (s : Int) : ∀ (n : Nat) (xs : List Int), xs.length = n → xs.all (inD d.toNat) = true → inR 48 49 (encS m p s xs).1.data.toList = true := by
  intro n
  induction n with
  | zero => intro xs hl _; rw [List.length_eq_zero_iff] at hl; subst hl; rfl
  | succ n ih =>
    intro xs hl ha
    rcases List.eq_nil_or_concat xs with rfl | ⟨ys, y, rfl⟩
    · simp at hl
    · rw [List.concat_eq_append] at *
      rw [List.all_append] at ha
      have ha' := Bool.and_eq_true_iff.1 ha
      have hy : inD d.toNat y = true := by simpa using ha'.2
      have h1 := ih ys (by simp at hl; omega) ha'.1
      have h2 := (isB_parts (wAt_ok h (encS m p s ys).2 y hy).1).2
      rw [encS_snoc]
      show inR 48 49 ((encS m p s ys).1 ++ wAt m p (encS m p s ys).2 y).data.toList = true
      rw [ByteArray.data_append, Array.toList_append, inR_append, h1, h2]; rfl
theorem encS_isB {d wd : Int} {m p : List ByteArray} {s : Int} {xs : List Int} (h : enOk d wd m p s xs = true) : isB (encS m p s xs).1.data.toList = true ∧ ((encS m p s xs).1.size : Int) = wd * xs.length := by
  obtain ⟨h0, h1, h2, h3⟩ := enOk_parts h
  have hl := encS_len h0 s _ xs rfl h3
  have hb := encS_bits h0 s _ xs rfl h3
  obtain ⟨⟨-, w1, w2⟩, -, -⟩ := bcOk_nums h0
  refine ⟨?_, hl⟩
  unfold isB
  rw [hb, Bool.and_true]
  refine decide_eq_true ?_
  have h5 : wd * (400 / wd) ≤ 400 := Int.mul_ediv_self_le (by omega)
  have h6 : wd * (xs.length : Int) ≤ wd * (400 / wd) := Int.mul_le_mul_of_nonneg_left h2 (by omega)
  have h7 : (encS m p s xs).1.data.toList.length = (encS m p s xs).1.size := by simp
  omega
theorem deOk_flip {d wd : Int} {m p : List ByteArray} {s : Int} {xs : List Int} {i : Nat} (h : enOk d wd m p s xs = true) (hi : i < (encS m p s xs).1.size) : deOk d wd m p s (flipB (encS m p s xs).1 i) = true := by
  obtain ⟨h0, h1, h2, h3⟩ := enOk_parts h
  obtain ⟨h4, h5⟩ := encS_isB h
  obtain ⟨⟨-, w1, w2⟩, -, -⟩ := bcOk_nums h0
  unfold deOk
  rw [h0, h1, flip_isB h4 hi, flipB_size, h5, decide_eq_true (Int.mul_emod_right _ _)]; rfl
theorem deR_len {d wd : Int} {m p : List ByteArray} {s : Int} {xs : List Int} {i : Nat} (h : enOk d wd m p s xs = true) (hi : i < (encS m p s xs).1.size) : (deR d wd m p s (flipB (encS m p s xs).1 i)).1.length = xs.length ∧ (deR d wd m p s (flipB (encS m p s xs).1 i)).2.1.length ≤ xs.length := by
  obtain ⟨h0, h1, h2, h3⟩ := enOk_parts h
  obtain ⟨h4, h5⟩ := encS_isB h
  obtain ⟨⟨-, w1, w2⟩, -, -⟩ := bcOk_nums h0
  rw [deR_yes (deOk_flip h hi)]
  have hn : (flipB (encS m p s xs).1 i).size / wd.toNat = xs.length := by
    rw [flipB_size]
    obtain ⟨u, rfl⟩ := Int.eq_ofNat_of_zero_le (show 0 ≤ wd by omega)
    rw [Int.toNat_natCast]
    have h6 : (encS m p s xs).1.size = u * xs.length := by exact_mod_cast h5
    rw [h6, Nat.mul_div_cancel_left _ (by omega)]
  rw [hn]
  exact (deS_all m p s (of_decide_eq_true h1) _ _ (wordsL_len _ _ _)).1
end Go.Proofs.Ytjmaapbodacggaa
