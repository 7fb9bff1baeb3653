/- Contracts of both BytesOfBits, and the walk of their law. -/
import Derived.Test.YtijmfienaoeboaaNum
import Derived.Test.YtijmfienaoeboaaInts
namespace Go.Proofs.Ytijmfienaoeboaa
open Go Go.RowKit
set_option linter.unusedVariables false

/-- The bits of the byte with the number j. -/
def octet (s : ByteArray) (j : Nat) : ByteArray := s.extract (8 * j) (8 * j + 8)
def bytesL (s : ByteArray) (k : Nat) : List Int := (List.range k).map fun j => valN (octet s j).data.toList
theorem bytesL_succ (s : ByteArray) (k : Nat) : bytesL s (k + 1) = bytesL s k ++ [valN (octet s k).data.toList] := by simp [bytesL, List.range_succ]
theorem bytesL_length (s : ByteArray) (k : Nat) : (bytesL s k).length = k := by simp [bytesL]
theorem octet_size (s : ByteArray) (j : Nat) (h : 8 * j + 8 ≤ s.size) : (octet s j).size = 8 := by
  unfold octet; rw [ByteArray.size_extract]; omega
theorem octet_list (s : ByteArray) (j : Nat) : (octet s j).data.toList = (s.data.toList.drop (8 * j)).take 8 := by
  unfold octet
  rw [ByteArray.data_extract]
  simp [Array.toList_extract]
theorem inR_sub (lo hi : Int) (l : List UInt8) (a b : Nat) (h : inR lo hi l = true) : inR lo hi ((l.drop a).take b) = true := by
  unfold inR at *
  rw [List.all_eq_true] at *
  intro x hx
  exact h x (List.mem_of_mem_drop (List.mem_of_mem_take hx))
theorem octet_in (s : ByteArray) (j : Nat) (h : inR 48 49 s.data.toList = true) : inR 48 49 (octet s j).data.toList = true := by
  rw [octet_list]; exact inR_sub _ _ _ _ _ h
theorem octet_ok (s : ByteArray) (j : Nat) (h : inR 48 49 s.data.toList = true) (h8 : 8 * j + 8 ≤ s.size) : nobOk (octet s j).data.toList = true := by
  have hl : (octet s j).data.toList.length = 8 := by simpa using octet_size s j h8
  unfold nobOk isB
  rw [octet_in s j h, hl]; decide
/-- Whether bits are those of whole bytes. -/
def bobOk (s : ByteArray) : Bool := isB s.data.toList && decide (s.size % 8 = 0)

theorem below_row2 {B base n : Nat} {w wr w1 : World} {e : TypeId} {v : Value} {xs : List Value} {o : Obj} (hb : Below B w wr) (hB : base ≤ wr.heap.size) (hB2 : B ≤ base) (hown : wr.ownsRow base e 1 v n xs) (hg : (wr.alloc o).grownBy w1 v.ownBlock) : Below B w w1 :=
  (hb.alloc (by omega) o).grown hg (by simp; omega) (fun k hk => by have := (hown.lt k hk).1; omega)
theorem c1_int2 (wr : World) (x : Value) (t : TypeId) : ∀ (j : Nat) (u : Value), [x][j]? = some u → (wr.alloc (.cells #[x] t)).cell? ((⟨wr.heap.size, 0, none⟩ : Addr).add j) = some u := by
  intro j u hj
  match j, hj with
  | 0, hj =>
    simp at hj; subst hj
    rw [show ((⟨wr.heap.size, 0, none⟩ : Addr).add 0) = ⟨wr.heap.size, 0, none⟩ from by simp [Addr.add]]
    rw [World.cell?_alloc_at _ _ _ _ rfl]; rfl

def bpart (s : ByteArray) (n k : Nat) : List Value := intVals (bytesL s k) ++ List.replicate (n - k) (Value.int .i64 0)
theorem bpart_zero (s : ByteArray) (n : Nat) : bpart s n 0 = List.replicate n (Value.int .i64 0) := by simp [bpart, bytesL, intVals]
theorem bpart_full (s : ByteArray) (n : Nat) : bpart s n n = intVals (bytesL s n) := by simp [bpart]
theorem bpart_length (s : ByteArray) (n k : Nat) (h : k ≤ n) : (bpart s n k).length = n := by simp [bpart, intVals, bytesL]; omega
theorem bpart_set (s : ByteArray) (n k : Nat) (hk : k < n) : (bpart s n k).set k (.int .i64 (valN (octet s k).data.toList)) = bpart s n (k + 1) := by
  unfold bpart
  rw [List.set_append, if_neg (by rw [intVals_length, bytesL_length]; omega), intVals_length, bytesL_length, Nat.sub_self, bytesL_succ, ← intVals_snoc]
  obtain ⟨m, hm⟩ : ∃ m, n - k = m + 1 := ⟨n - k - 1, by omega⟩
  rw [hm, show n - (k + 1) = m from by omega, List.replicate_succ]
  simp

set_option maxRecDepth 100000 in
theorem bob_yes_impl (s : ByteArray) (w : World) (h : isB s.data.toList = true) (n : Nat) (hn : s.size = 8 * n) :
    Calls Try.prog 50 #[.string s] w fun e w' => ∃ v, e = .returned (.tuple #[v, .bool true]) ∧ Own w' w.heap.size v (bytesL s n) ∧ Below w.heap.size w w' := by
  obtain ⟨i0, hi, hz0, hz1, hz2⟩ := info_parts Try.infoInt
  have h' := h
  unfold isB at h'
  have hp := Bool.and_eq_true_iff.1 h'
  have hs : s.size ≤ 400 := by simpa using of_decide_eq_true hp.1
  have HIN := Lib.hid hp.2
  have HN := Lib.hid hn
  have hmod : ((s.size : Int) % 8 != 0) = false := bne_f (by omega)
  have hdiv : (s.size : Int) / 8 = (n : Int) := by omega
  have hn50 : n ≤ 50 := by omega
  clear h' hp hn
  have HUP : Hid (∀ (base : Nat) (w2 : World) (v : Value) (l : List Int), w.heap.size ≤ base → Own w2 base v l → Own w2 w.heap.size v l) := by
    show ∀ (base : Nat) (w2 : World) (v : Value) (l : List Int), w.heap.size ≤ base → Own w2 base v l → Own w2 w.heap.size v l
    intro base w2 v l hle h
    refine ⟨h.1, ?_⟩
    rcases h.2 with h' | ⟨g, cap, cur, h1, h2, h3⟩
    · exact .inl h'
    · exact .inr ⟨g, cap, cur, h1, by omega, h3⟩
  go_enter Try.func50, Try.ntmps50
  go_wp2_with fail
  refine (isBits_any _ _ (by unfold maxLen; omega)).mono ?_; rintro e wi ⟨rfl, hbi⟩
  go_wp2_with (at_make; refine wpList_make_full _ rfl _ _ 32 rfl wi.heap.size 2 i0 (.int .i64 0) 1 Try.underlying32 hi hz0 hz1 _ _ _ _ n rfl rfl rfl rfl ?b2 ?b3 (Nat.le_refl _) ?_)
  case b2 => rw [hz2]; omega
  case b3 => unfold maxLen; omega
  intro w3 hown hgrow
  have hb3 : Below w.heap.size w w3 := hbi.grown hgrow hbi.size (by simp)
  rw [toList_madeCells_one, ← bpart_zero s n] at hown
  have hBB := hbi.size
  have hB3 : wi.heap.size ≤ w3.heap.size := hgrow.size
  clear hgrow hbi h hmod hdiv
  go_wp2_with fail
  go_loopw [5, 21] (fun _ i wr => ∃ j : Nat, j ≤ n ∧ i = .int .i64 j ∧ wr.ownsRow wi.heap.size 2 1 (.slice (some ⟨wi.heap.size, 0, none⟩) n n) n (bpart s n j) ∧ Below w.heap.size w wr ∧ wi.heap.size < wr.heap.size) (fun _ i _ => n - (intOf i).toNat)
  case atStart =>
    refine ⟨0, Nat.zero_le _, rfl, hown, hb3, ?_⟩
    rcases hown.2 with ⟨h', _⟩ | ⟨g, cap, cur, h', _, hg, _⟩
    · cases h'
    · injection h' with h' _ _
      injection h' with h'
      injection h' with h' _ _
      subst h'
      rcases Nat.lt_or_ge wi.heap.size w3.heap.size with hl | hl
      · exact hl
      · rw [Array.getElem?_eq_none hl] at hg; cases hg
  case round =>
    obtain ⟨k, hk, rfl, hown1, hb, hlt1⟩ := hrel
    clear hown hb3 hB3
    by_cases hlt : k < n
    · have h8 : 8 * k + 8 ≤ s.size := by have := HN.out; omega
      have HO := Lib.hid (octet_ok s k HIN.out h8)
      have HZ := Lib.hid (octet_size s k h8)
      have b1 : (0 : Int) ≤ (k : Int) * 8 := by omega
      have b2 : (k : Int) * 8 ≤ ((k : Int) + 1) * 8 := by omega
      have b3 : ((k : Int) + 1) * 8 ≤ (s.size : Int) := by omega
      have b4 : (0 : Int) ≤ (k : Int) := by omega
      have b5 : (k : Int) < (n : Int) := by omega
      have t1 : ((k : Int) * 8).toNat = 8 * k := by omega
      have t2 : (((k : Int) + 1) * 8).toNat = 8 * k + 8 := by omega
      go_wp2_with fail
      rw [show s.extract (8 * k) (8 * k + 8) = octet s k from rfl]
      refine (nob_yes_impl _ _ (by rw [HZ.out]; unfold maxLen; omega) HO.out).mono ?_; rintro e w5 ⟨rfl, hb5⟩
      have hown5 := own_below hown1 hb5
      have hb6 : Below w.heap.size w w5 := hb.trans (hb5.mono hb.size)
      have hfr := hown5.frozenAt k
      have hcl := hown5.cellAt k (by omega)
      obtain ⟨u, hu⟩ : ∃ u, (bpart s n k)[k]? = some u := ⟨_, List.getElem?_eq_getElem (by rw [bpart_length _ _ _ hk]; omega)⟩
      rw [hu] at hcl
      have hst := (hown5.stored k (.int .i64 (valN (octet s k).data.toList))).1
      rw [bpart_set s n k hlt] at hst
      have HST := Lib.hid hst
      have HBS := Lib.hid (hb6.setCell (p := ⟨wi.heap.size, k, none⟩) hBB (.int .i64 (valN (octet s k).data.toList)))
      have HSZ : Hid (wi.heap.size < (w5.setCell ⟨wi.heap.size, k, none⟩ (.int .i64 (valN (octet s k).data.toList))).heap.size) := by
        show _ < _
        have := hb5.size
        simp [World.setCell]; omega
      clear hst hu hown1 hown5 hb hb5 hb6 t1 t2
      go_wp2_with fail
      go_roundw
      case rel => exact ⟨k + 1, by omega, by go_num, HST.out, HBS.out, HSZ.out⟩
      case measure => simp [intOf]; omega
    · obtain rfl : k = n := by omega
      rw [bpart_full] at hown1
      have hO : Own wr wi.heap.size (.slice (some ⟨wi.heap.size, 0, none⟩) k k) (bytesL s k) := by unfold Own; rw [bytesL_length]; exact hown1
      have HO := Lib.hid (HUP.out _ _ _ _ hBB hO)
      clear hown1 hO
      go_wp2_with fail
      go_ret2
      exact ⟨_, rfl, HO.out, hb⟩

/-- What BytesOfBits answers. -/
def bobL (s : ByteArray) : List Int := if bobOk s = true then bytesL s (s.size / 8) else []
theorem bobOk_parts {s : ByteArray} (h : bobOk s = true) : isB s.data.toList = true ∧ s.size = 8 * (s.size / 8) ∧ s.size ≤ 400 := by
  unfold bobOk at h
  have h1 := Bool.and_eq_true_iff.1 h
  have h2 := of_decide_eq_true h1.2
  have h3 := h1.1
  unfold isB at h3
  have h4 := of_decide_eq_true (Bool.and_eq_true_iff.1 h3).1
  exact ⟨h1.1, by omega, by simpa using h4⟩
theorem bobL_len (s : ByteArray) : (bobL s).length ≤ 400 := by
  unfold bobL
  split
  · rename_i h
    have := (bobOk_parts h).2.2
    rw [bytesL_length]; omega
  · simp

theorem bob_impl (s : ByteArray) (w : World) (hs : s.size ≤ maxLen) :
    Calls Try.prog 50 #[.string s] w fun e w' => ∃ v, e = .returned (.tuple #[v, .bool (bobOk s)]) ∧ Own w' w.heap.size v (bobL s) ∧ Below w.heap.size w w' := by
  have HS := Lib.hid hs
  unfold maxLen at hs
  cases hB : bobOk s
  · have HR : Hid (bobL s = []) := by show _ = _; unfold bobL; rw [if_neg (by rw [hB]; decide)]
    by_cases h1 : isB s.data.toList = true
    · have h2 : ((s.size : Int) % 8 != 0) = true := by
        apply bne_t
        intro e
        unfold bobOk at hB
        rw [h1, decide_eq_true (by omega)] at hB
        cases hB
      clear hB
      go_enter Try.func50, Try.ntmps50
      go_wp2_with fail
      refine (isBits_any _ _ HS.out).mono ?_; rintro e w' ⟨rfl, hb⟩
      go_wp2_with fail
      go_ret2
      exact ⟨_, rfl, by rw [HR.out]; exact World.ownsRow_nil _ _ _ _, hb⟩
    · have h2 : isB s.data.toList = false := by simpa using h1
      clear hB h1
      go_enter Try.func50, Try.ntmps50
      go_wp2_with fail
      refine (isBits_any _ _ HS.out).mono ?_; rintro e w' ⟨rfl, hb⟩
      go_wp2_with fail
      go_ret2
      exact ⟨_, rfl, by rw [HR.out]; exact World.ownsRow_nil _ _ _ _, hb⟩
  · have HR : Hid (bobL s = bytesL s (s.size / 8)) := by show _ = _; unfold bobL; rw [if_pos hB]
    exact (bob_yes_impl s w (bobOk_parts hB).1 _ (bobOk_parts hB).2.1).mono fun e w' ⟨v, h1, h2, h3⟩ => ⟨v, h1, by rw [HR.out]; exact h2, h3⟩

end Go.Proofs.Ytijmfienaoeboaa
