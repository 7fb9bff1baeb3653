/- Contracts of both BitsOfBytes. -/
import Derived.Test.YtijmfienaoeboaaDig
import Derived.Test.YtijmfienaoeboaaRd
import Derived.Test.YtijmfienaoeboaaBtw
import Derived.Test.YtijmfienaoeboaaBld
import Derived.Test.YtijmfienaoeboaaShelf
namespace Go.Proofs.Ytijmfienaoeboaa
open Go Go.RowKit
set_option linter.unusedVariables false

theorem isB_keep {T e : TypeId} {B b : Nat} {bs : List Value} {w w' : World} (h : Lib.IsBuilder T e B b bs w) (hb : Below w.heap.size w w') : Lib.IsBuilder T e B b bs w' := by
  have key : ∀ p, Lib.BuilderAt T e B b p bs w → Lib.BuilderAt T e B b p bs w' := by
    intro p h
    have hlt := h.lt
    obtain ⟨hB, v, hbk, hown, hne⟩ := h
    exact ⟨hB, v, (hb.block b hlt).trans hbk, own_below hown hb, hne⟩
  rcases h with h | h
  · exact Or.inl (key _ h)
  · exact Or.inr (key _ h)

/-- A byte as a number. -/
def isBy (x : Int) : Bool := decide (0 ≤ x ∧ x ≤ 255)
def byTxt (l : List Int) : List UInt8 := l.flatMap fun x => digs x 8 8
theorem byTxt_snoc (l : List Int) (x : Int) : byTxt (l ++ [x]) = byTxt l ++ digs x 8 8 := by simp [byTxt]
theorem byTxt_len (l : List Int) : (byTxt l).length = 8 * l.length := by
  induction l with
  | nil => rfl
  | cons x l ih => simp [byTxt, digs_length] at *; omega
def byOk (l : List Int) : Bool := decide (l.length ≤ 50) && l.all isBy
def byV (l : List Int) : ByteArray := if byOk l = true then ⟨(byTxt l).toArray⟩ else ⟨#[]⟩
theorem byOk_bad (l : List Int) (k : Nat) (h : k < l.length) (hb : ¬ (0 ≤ l[k] ∧ l[k] ≤ 255)) : byOk l = false := by
  unfold byOk
  have : l.all isBy = false := by
    rw [List.all_eq_false]
    exact ⟨l[k], List.getElem_mem h, by unfold isBy; rw [decide_eq_false hb]; decide⟩
  rw [this]; simp
theorem txt_app (a b : List UInt8) : (⟨a.toArray⟩ : ByteArray) ++ ⟨b.toArray⟩ = ⟨(a ++ b).toArray⟩ := by
  apply ByteArray.ext
  simp

set_option maxRecDepth 100000 in
theorem by_impl (w : World) (v : Value) (l : List Int) (h : Rd w v l) (hwf : ∀ x ∈ l, -9223372036854775808 ≤ x ∧ x ≤ 9223372036854775807) :
    Calls Try.prog 49 #[v] w fun e w' => e = .returned (.tuple #[.string (byV l), .bool (byOk l)]) ∧ Below w.heap.size w w' := by
  have hlen := h.len
  obtain ⟨A, n, c, rfl, hn, -, -, r⟩ := h
  have hnl : n ≤ 9223372036854775807 := by unfold maxLen at hlen; omega
  clear hlen
  have HN := Lib.hid hn
  clear hn
  by_cases h50 : n ≤ 50
  · have HT : Hid (l.all isBy = true → byOk l = true ∧ byV l = ⟨(byTxt l).toArray⟩) := by
      show _ → _
      intro ha
      have hk : byOk l = true := by unfold byOk; rw [ha, HN.out, decide_eq_true h50]; rfl
      exact ⟨hk, by unfold byV; rw [if_pos hk]⟩
    have HF : Hid (∀ (k : Nat) (h : k < l.length), ¬ (0 ≤ l[k] ∧ l[k] ≤ 255) → byOk l = false ∧ byV l = ⟨#[]⟩) := by
      show ∀ (k : Nat) (h : k < l.length), _
      intro k hk hb
      have hk := byOk_bad l k hk hb
      exact ⟨hk, by unfold byV; rw [if_neg (by rw [hk]; decide)]⟩
    have HR := Lib.hid r
    clear r
    have hd : decide ((50 : Int) < (n : Int)) = false := decide_eq_false (by omega)
    generalize byV l = V at *
    generalize byOk l = B at *
    go_enter Try.func49, Try.ntmps49
    go_wp2_with fail
    go_loopw [14] (fun i wr => ∃ k : Nat, k ≤ n ∧ i = .int .i64 k ∧ Lib.IsBuilder 123 5 w.heap.size w.heap.size (Lib.byteCells (byTxt (l.take k))) wr ∧ (l.take k).all isBy = true ∧ Below w.heap.size w wr) (fun i _ => n - (intOf i).toNat)
    case atStart => exact ⟨0, Nat.zero_le _, rfl, Lib.fresh_isBuilder _ _ _, rfl, (Below.refl _ _).alloc (Nat.le_refl _) _⟩
    case round =>
      obtain ⟨k, hk, rfl, hbl, hall, hb⟩ := hrel
      have HBL := Lib.hid hbl
      have HB := Lib.hid hb
      clear hbl
      by_cases hlt : k < n
      · obtain ⟨b, o, rfl, hlt0, hc⟩ := HR.out (by omega)
        have hkl : k < l.length := by have := HN.out; omega
        have hc0 := (hb.cell (p := ⟨b, o + k, none⟩) hlt0).trans (hc k hkl)
        have HS : Hid (l.take (k + 1) = l.take k ++ [l[k]]) := List.take_succ_eq_append_getElem hkl
        have HF2 := Lib.hid (HF.out k hkl)
        have HWF := Lib.hid (hwf l[k] (List.getElem_mem hkl))
        have HA := Lib.hid hall
        have hk0 : (0 : Int) ≤ (k : Int) := by omega
        have hk1 : (k : Int) < (n : Int) := by omega
        clear hc hall hb
        generalize l[k] = x at *
        by_cases hx : 0 ≤ x ∧ x ≤ 255
        · obtain ⟨x1, x2⟩ := hx
          have H8 : Hid (∀ W : World, Calls Try.prog 91 #[.int .i64 x, .int .i64 8] W fun e w' => e = .returned (.tuple #[.string ⟨(digs x 8 8).toArray⟩, .bool true]) ∧ Below W.heap.size W w') := by
            show ∀ W : World, _
            intro W
            exact bitsOf_yes_impl x 8 W (by decide) x1 (by show x < 256; omega)
          go_wp2_with fail
          refine (H8.out _).mono ?_; rintro e w2 ⟨rfl, hb2⟩
          have HBL2 := Lib.hid (isB_keep HBL.out hb2)
          have HB2 := Lib.hid (HB.out.trans (hb2.mono HB.out.size))
          clear hb2 hc0
          go_wp2_with fail
          refine (bld_write _ _ _ _ _ HBL2.out (by simp [Lib.byteCells, byTxt_len, ByteArray.size, digs_length]; omega) HB2.out.size).mono ?_; rintro e w3 ⟨rfl, hbl3, hb3⟩
          have HB3 := Lib.hid (HB2.out.trans hb3)
          have HBL3 := Lib.hid hbl3
          clear hb3 hbl3
          go_wp2_with fail
          go_roundw
          case rel =>
            refine ⟨k + 1, by omega, by go_num, Or.inr ?_, by rw [HS.out, List.all_append, HA.out]; simp [isBy, x1, x2], HB3.out⟩
            have e : Lib.byteCells (byTxt (l.take (k + 1))) = Lib.byteCells (byTxt (l.take k)) ++ Lib.strCells ⟨(digs x 8 8).toArray⟩ := by
              rw [HS.out, byTxt_snoc]; simp [Lib.byteCells, Lib.strCells]
            rw [e]; exact HBL3.out
          case measure => simp [intOf]; omega
        · have HX := Lib.hid hx
          have H8 : Hid (∀ W : World, Calls Try.prog 91 #[.int .i64 x, .int .i64 8] W fun e w' => e = .returned (.tuple #[.string ⟨#[]⟩, .bool false]) ∧ W = w') := by
            show ∀ W : World, _
            intro W
            exact bitsOf_no_impl x 8 W (fun e => hx ⟨e.2.2.1, by have := e.2.2.2; have h2 : x < 256 := this; omega⟩)
          clear hx
          go_wp2_with fail
          refine (H8.out _).mono ?_; rintro e w2 ⟨rfl, rfl⟩
          go_wp2_with fail
          go_ret2
          exact ⟨ret_sb (by rw [(HF2.out HX.out).2]) (by rw [(HF2.out HX.out).1]), HB.out⟩
      · obtain rfl : k = n := by omega
        have HA : Hid (B = true ∧ V = ⟨(byTxt (l.take k)).toArray⟩) := by
          show _ ∧ _
          have e : l.take k = l := List.take_of_length_le (by have := HN.out; omega)
          rw [e] at hall ⊢
          exact HT.out hall
        clear hall hb
        go_wp2_with fail
        refine (Go.Proofs.Try.Builder_String_any _ _ _ _ HBL.out HB.out.size).mono ?_; rintro e w2 ⟨rfl, hb2⟩
        have HB2 := Lib.hid (HB.out.trans hb2)
        clear hb2
        go_wp2_with fail
        go_ret2
        exact ⟨ret_sb (by rw [HA.out.2]) (by rw [HA.out.1]), HB2.out⟩
  · have hB : byOk l = false := by unfold byOk; rw [HN.out, decide_eq_false h50]; rfl
    have HV : Hid (byV l = ⟨#[]⟩) := by show _ = _; unfold byV; rw [if_neg (by rw [hB]; decide)]
    rw [hB, HV.out]
    clear r
    go_enter Try.func49, Try.ntmps49
    go_wp2_with fail
    go_ret2
    exact ⟨rfl, Below.refl _ _⟩
end Go.Proofs.Ytijmfienaoeboaa
