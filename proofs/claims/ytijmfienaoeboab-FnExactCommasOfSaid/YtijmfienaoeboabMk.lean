/- The law's marks of texts: markText, markStringS, heldStringS. -/
import Derived.Test.YtijmfienaoeboabRs
import Derived.Laws.IdiomStrings
import Derived.Laws.Concat
namespace Go.Proofs.Ytijmfienaoeboab
open Go Go.RowKit
set_option linter.unusedVariables false

/-- The digits of a number, ahead of others. -/
def mtF : Nat → Nat → List UInt8 → List UInt8
  | 0, _, acc => acc
  | f + 1, k, acc => if k = 0 then acc else mtF f (k / 10) (UInt8.ofNat (48 + k % 10) :: acc)
/-- The text of a mark. -/
def MT (k : Nat) : ByteArray := if k = 0 then ⟨#[109, 48]⟩ else ⟨#[109]⟩ ++ ⟨(mtF k k []).toArray⟩
theorem mt_digit (j : Nat) : ((UInt8.ofNat (48 + j % 10)).toNat : Int) = 48 + (j : Int) % 10 := by
  rw [UInt8.toNat_ofNat']
  omega
theorem conv_digit (W : World) (j : Nat) : (convert 37 9 (.slice (some ⟨W.heap.size, 0, none⟩) 1 1)).run Try.prog (W.alloc (.cells #[.int .u8 (48 + (j : Int) % 10)] 5)) = .ok (.string ⟨#[UInt8.ofNat (48 + j % 10)]⟩) (W.alloc (.cells #[.int .u8 (48 + (j : Int) % 10)] 5)) :=
  run_convert_bytes_back (P := Try.prog) (W.alloc (.cells #[.int .u8 (48 + (j : Int) % 10)] 5)) 37 9 5 ⟨W.heap.size, 0, none⟩ 1 [UInt8.ofNat (48 + j % 10)] Try.underlying37 Try.underlying5 Try.underlying9 (by
    intro i hi
    have h0 : i = 0 := by simp at hi; exact hi
    subst h0
    have ea : (⟨W.heap.size, 0, none⟩ : Addr).add 0 = ⟨W.heap.size, 0, none⟩ := by unfold Addr.add; split <;> simp_all
    rw [ea, World.cell?_alloc_at _ _ _ _ rfl]
    show some (Value.int .u8 (48 + (j : Int) % 10)) = some (Value.int .u8 ((UInt8.ofNat (48 + j % 10)).toNat : Int))
    rw [mt_digit])

set_option maxRecDepth 100000 in
theorem markText_any (k : Nat) (hk : k ≤ 8000000) (w : World) :
    Calls Try.prog 77 #[.int .i64 k] w fun e w' => e = .returned (.string (MT k)) ∧ Below w.heap.size w w' := by
  by_cases h0 : k = 0
  · subst h0
    go_enter Try.func77, Try.ntmps77
    go_wp2_with fail
    go_ret
    exact ⟨rfl, Below.refl _ _⟩
  have hmt : MT k = ⟨#[109]⟩ ++ ⟨(mtF k k []).toArray⟩ := by unfold MT; rw [if_neg h0]
  have HMT := Lib.hid hmt
  have hk1 : 0 < (k : Int) := by omega
  clear hmt
  go_enter Try.func77, Try.ntmps77
  go_wp2_with fail
  go_loopw [0, 3] (fun t v wr => ∃ (f j : Nat) (out : List UInt8), t = .int .i64 j ∧ v = .string ⟨out.toArray⟩ ∧ j ≤ f ∧ out.length + f ≤ k ∧ mtF f j out = mtF k k [] ∧ Below w.heap.size w wr) (fun t _ _ => (intOf t).toNat)
  case atStart => exact ⟨k, k, [], rfl, rfl, Nat.le_refl _, by simp, rfl, Below.refl _ _⟩
  case round =>
    obtain ⟨f, j, out, rfl, rfl, hj, hl, hm, hb⟩ := hrel
    have HM := Lib.hid hm
    have HB := Lib.hid hb
    clear hm hb
    by_cases hlt : 0 < j
    · obtain ⟨f, rfl⟩ : ∃ g, f = g + 1 := ⟨f - 1, by omega⟩
      have hjz : ¬ j = 0 := by omega
      have HM2 : Hid (mtF f (j / 10) (UInt8.ofNat (48 + j % 10) :: out) = mtF k k []) := by show _ = _; have := HM.out; rw [mtF, if_neg hjz] at this; exact this
      have kc := fun W => conv_digit W j
      have r1 : ∀ W : World, (Op.stringOp .add ⟨#[UInt8.ofNat (48 + j % 10)]⟩ ⟨out.toArray⟩).run Try.prog W = .ok (.string (⟨#[UInt8.ofNat (48 + j % 10)]⟩ ++ ⟨out.toArray⟩)) W := fun W => run_string_add_sum W _ _ (by show 1 + out.toArray.size ≤ _; rw [List.size_toArray]; omega)
      have HE : Hid ((⟨#[UInt8.ofNat (48 + j % 10)]⟩ ++ ⟨out.toArray⟩ : ByteArray) = ⟨(UInt8.ofNat (48 + j % 10) :: out).toArray⟩) := by
        show _ = _
        apply ByteArray.ext
        apply Array.toList_inj.1
        rw [ByteArray.data_append, Array.toList_append]
        rfl
      have hj0 : (0 : Int) ≤ (j : Int) := by omega
      have hj1 : (0 : Int) < (j : Int) := by omega
      have hj2 : (j : Int) ≤ 8000000 := by omega
      clear hjz HM
      generalize UInt8.ofNat (48 + j % 10) = c at *
      go_wp2_with fail
      go_roundw
      case rel => exact ⟨f, j / 10, _, by first | rfl | (rw [Int.natCast_ediv]; rfl), by rw [HE.out], by omega, by simp; omega, HM2.out, HB.out.alloc HB.out.size _⟩
      case measure => simp [intOf]; omega
    · obtain rfl : j = 0 := by omega
      have HE : Hid (out = mtF k k []) := by
        show _ = _
        have := HM.out
        cases f with
        | zero => exact this
        | succ f => rw [mtF, if_pos rfl] at this; exact this
      have r2 : ∀ W : World, (Op.stringOp .add ⟨#[109]⟩ ⟨out.toArray⟩).run Try.prog W = .ok (.string (⟨#[109]⟩ ++ ⟨out.toArray⟩)) W := fun W => run_string_add_sum W _ _ (by show 1 + out.toArray.size ≤ _; rw [List.size_toArray]; omega)
      go_wp2_with fail
      go_ret
      exact ⟨ret_str (by rw [HMT.out, HE.out]), HB.out⟩

/-- The marks k, k + 1, .. as texts. -/
def marksT (k n : Nat) : List ByteArray := (List.range n).map fun j => MT (k + j)
theorem marksT_length (k n : Nat) : (marksT k n).length = n := by simp [marksT]
def mtPart (k : Nat) (l : List ByteArray) (j : Nat) : List Value := strVals (marksT k j ++ l.drop j)
theorem mtPart_zero (k : Nat) (l : List ByteArray) : mtPart k l 0 = strVals l := by simp [mtPart, marksT]
theorem mtPart_full (k : Nat) (l : List ByteArray) : mtPart k l l.length = strVals (marksT k l.length) := by simp [mtPart]
theorem mtPart_length (k : Nat) (l : List ByteArray) (j : Nat) (h : j ≤ l.length) : (mtPart k l j).length = l.length := by simp [mtPart, strVals, marksT]; omega
theorem mtPart_set (k : Nat) (l : List ByteArray) (j : Nat) (h : j < l.length) : (mtPart k l j).set j (.string (MT (k + j))) = mtPart k l (j + 1) := by
  unfold mtPart strVals
  rw [← List.map_set, List.set_append, if_neg (by rw [marksT_length]; omega), marksT_length, Nat.sub_self]
  congr 1
  rw [show marksT k (j + 1) = marksT k j ++ [MT (k + j)] from by simp [marksT, List.range_succ]]
  have e : (l.drop j).set 0 (MT (k + j)) = MT (k + j) :: l.drop (j + 1) := by rw [List.drop_eq_getElem_cons h]; rfl
  rw [e, List.append_assoc]
  rfl

/-- A world turns in a row and in new blocks alone. -/
structure Trn (row : Option Nat) (w w' : World) : Prop where
  os : w'.os = w.os
  tape : w'.tape = w.tape
  output : w'.output = w.output
  size : w.heap.size ≤ w'.heap.size
  block : ∀ k, k < w.heap.size → some k ≠ row → w'.heap[k]? = w.heap[k]?
theorem Trn.refl (row : Option Nat) (w : World) : Trn row w w := ⟨rfl, rfl, rfl, Nat.le_refl _, fun _ _ _ => rfl⟩
theorem Trn.below {row : Option Nat} {w w' w'' : World} (h : Trn row w w') (hb : Below w'.heap.size w' w'') : Trn row w w'' :=
  ⟨hb.os.trans h.os, hb.tape.trans h.tape, hb.output.trans h.output, Nat.le_trans h.size hb.size, fun k hk hne => (hb.block k (Nat.lt_of_lt_of_le hk h.size)).trans (h.block k hk hne)⟩
theorem Trn.set {w w' : World} {g : Nat} (h : Trn (some g) w w') (o : Nat) (x : Value) : Trn (some g) w (w'.setCell ⟨g, o, none⟩ x) :=
  ⟨h.os, h.tape, h.output, by rw [show (w'.setCell ⟨g, o, none⟩ x).heap.size = w'.heap.size from by simp [World.setCell]]; exact h.size, fun k hk hne => (Below.heap_setCell _ _ _ _ (by intro e; exact hne (by rw [e]))).trans (h.block k hk hne)⟩
theorem Trn.to_below {row : Option Nat} {B : Nat} {w w' : World} (h : Trn row w w') (hB : B ≤ w.heap.size) (hr : ∀ k, row = some k → B ≤ k) : Below B w w' :=
  ⟨h.os, h.tape, h.output, h.size, fun k hk => h.block k (by omega) (fun e => by have := hr k e.symm; omega)⟩
theorem Trn.own {row : Option Nat} {w w' : World} (h : Trn row w w') {base : Nat} {e : TypeId} {size n : Nat} {v : Value} {xs : List Value} (hown : w.ownsRow base e size v n xs) (hne : ∀ k, v.ownBlock = some k → row ≠ some k) : w'.ownsRow base e size v n xs := by
  refine ⟨hown.1, ?_⟩
  rcases hown.2 with h' | ⟨g, cap, cur, rfl, h1, hg, h2, h3, h4, h5⟩
  · exact .inl h'
  · have hlt : g < w.heap.size := by
      rcases Nat.lt_or_ge g w.heap.size with h' | h'
      · exact h'
      · rw [Array.getElem?_eq_none h'] at hg; cases hg
    exact .inr ⟨g, cap, cur, rfl, h1, by rw [h.block g hlt (fun e => hne g (by simp [Value.ownBlock]) e.symm)]; exact hg, h2, h3, h4, h5⟩

set_option maxHeartbeats 1000000 in
set_option maxRecDepth 100000 in
/-- markStringS writes its marks into a row of the call's own. -/
theorem markStringS_any (w : World) (base : Nat) (v : Value) (l : List ByteArray) (m : Nat) (hm : m ≤ 4000000) (hl : l.length ≤ 4000000) (h1 : OwnT w base v l) :
    Calls Try.prog 23 #[v, .int .i64 m] w fun e w' => e = .returned (.int .i64 ((m + l.length : Nat) : Int)) ∧ OwnT w' base v (marksT m l.length) ∧ Trn v.ownBlock w w' := by
  unfold OwnT at h1 ⊢
  rw [marksT_length]
  obtain ⟨A1, c1, rfl⟩ := ownt_shape h1
  by_cases h0 : l.length = 0
  · have hl0 := List.length_eq_zero_iff.1 h0
    subst hl0
    clear h0
    have H1 := Lib.hid h1
    clear h1
    go_enter Try.func23, Try.ntmps23
    go_wp2_with fail
    refine wp_loop_rounds 1 ?_
    rw [rounds_succ]
    go_wp2_with fail
    go_ret
    exact ⟨ret_int (by simp), H1.out, Trn.refl _ _⟩
  · obtain ⟨g1, hg1⟩ : ∃ g, A1 = some ⟨g, 0, none⟩ := by
      rcases h1.2 with ⟨h', h''⟩ | ⟨g, cap, cur, h', _⟩
      · exact absurd h'' h0
      · injection h' with h' _ _
        exact ⟨g, h'⟩
    subst hg1
    generalize hn : l.length = n at h1 hl h0
    have HN := Lib.hid hn
    have H1 : Hid (w.ownsRow base 9 1 (.slice (some ⟨g1, 0, none⟩) n c1) n (mtPart m l 0)) := by show World.ownsRow _ _ _ _ _ _ _; rw [mtPart_zero]; exact h1
    clear hn h1 h0
    go_enter Try.func23, Try.ntmps23
    go_wp2_with fail
    go_loopw [1, 5] (fun kk i wr => ∃ j : Nat, j ≤ n ∧ i = .int .i64 j ∧ kk = .int .i64 ((m + j : Nat) : Int) ∧ wr.ownsRow base 9 1 (.slice (some ⟨g1, 0, none⟩) n c1) n (mtPart m l j) ∧ Trn (some g1) w wr) (fun _ i _ => n - (intOf i).toNat)
    case atStart => exact ⟨0, Nat.zero_le _, rfl, rfl, H1.out, Trn.refl _ _⟩
    case round =>
      obtain ⟨j, hj, rfl, rfl, hown, htr⟩ := hrel
      have HT := Lib.hid htr
      clear htr H1
      by_cases hlt : j < n
      · have hk0 : (0 : Int) ≤ (j : Int) := by omega
        have hk1 : (j : Int) < (n : Int) := by omega
        have HOWN := Lib.hid hown
        have HJL : Hid (j < l.length) := by show _ < _; have := HN.out; omega
        clear hown
        go_wp2_with fail
        refine (markText_any (m + j) (by omega) _).mono ?_; rintro e w2 ⟨rfl, hb2⟩
        have hown2 := ownt_below HOWN.out hb2
        have HT2 := Lib.hid (HT.out.below hb2)
        have hfr := hown2.frozenAt j
        have hcl := hown2.cellAt j (by omega)
        obtain ⟨u, hu⟩ : ∃ u, (mtPart m l j)[j]? = some u := ⟨_, List.getElem?_eq_getElem (by rw [mtPart_length _ _ _ (by have := HJL.out; omega)]; exact HJL.out)⟩
        rw [hu] at hcl
        have hst := hown2.stored j (.string (MT (m + j)))
        rw [mtPart_set m l j HJL.out] at hst
        have HST := Lib.hid hst.1
        have HT3 := Lib.hid (HT2.out.set j (.string (MT (m + j))))
        clear hu hst hown2 hb2 HOWN HT
        go_wp2_with fail
        go_roundw
        case rel => exact ⟨j + 1, by omega, by go_num, by go_num, HST.out, HT3.out⟩
        case measure => simp [intOf]; omega
      · obtain rfl : j = n := by omega
        have HO : Hid (wr.ownsRow base 9 1 (.slice (some ⟨g1, 0, none⟩) j c1) j (strVals (marksT m j))) := by
          show World.ownsRow _ _ _ _ _ _ _
          have := mtPart_full m l
          rw [HN.out] at this
          rw [← this]; exact hown
        clear hown
        go_wp2_with fail
        go_ret
        exact ⟨rfl, HO.out, HT.out⟩
end Go.Proofs.Ytijmfienaoeboab
