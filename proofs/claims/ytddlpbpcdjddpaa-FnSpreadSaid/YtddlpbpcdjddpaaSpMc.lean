/- Several texts in one: Keys: what FnKeys asks, plain. | Two rows of numbers that a call fills beside each other. | The model's l06Descramble and SelfDescramble. | The model's SelfDescramble. | Both WorstBits. | What FnSpread asks of what the functions answer, plain. -/
import Derived.Test.YtddlpbpcdjddpaaKpi
import Derived.Test.YtddlpbpcdjddpaaSpMb
import Derived.Test.YtddlpbpcdjddpaaRd
import Derived.Deep.AppendLies
import Derived.Test.YtddlpbpcdjddpaaSpMa
import Derived.Test.YtddlpbpcdjddpaaScb
import Derived.Lib.Repeat
import Derived.Test.YtddlpbpcdjddpaaEbi
namespace Go.Proofs.Ytddlpbpcdjddpaa
set_option linter.unusedVariables false
open Go Go.RowKit

/-! The key in front of a part of it. -/
theorem kq_take {l : List Int} {q : List Nat} (hq : bitsN q) : ∀ (n k : Nat), k ≤ n → (kq l q n).take (q.length + k) = kq l q k
  | 0, k, h => by
    obtain rfl : k = 0 := by omega
    show q.take _ = q
    exact List.take_of_length_le (by omega)
  | n + 1, k, h => by
    have hl := (kq_ok (l := l) hq n).2
    by_cases e : k = n + 1
    · subst e
      exact List.take_of_length_le (by rw [(kq_ok hq _).2]; omega)
    · show (kq l q n ++ [sm l (kq l q n)]).take _ = _
      rw [List.take_append_of_le_length (by omega)]
      exact kq_take hq n k (by omega)
theorem kq_next {l : List Int} {q : List Nat} (hq : bitsN q) (n k : Nat) (h : k < n) : (kq l q n).getD (q.length + k) 0 = sm l (kq l q k) := by
  have h1 := kq_take (l := l) hq n (k + 1) (by omega)
  have hl := (kq_ok (l := l) hq k).2
  rw [List.getD, ← List.getElem?_take_of_lt (show q.length + k < q.length + (k + 1) by omega), h1]
  show ((kq l q k ++ [sm l (kq l q k)])[q.length + k]?).getD 0 = _
  rw [List.getElem?_append_right (by omega), hl, Nat.sub_self]; rfl
theorem dropLast_wid {l : List Int} (h : 0 < l.length) : l = l.dropLast ++ [wid l] := by
  have hne : l ≠ [] := by intro e; subst e; simp at h
  conv => lhs; rw [← List.dropLast_concat_getLast hne]
  rw [wid_at h, List.getLast_eq_getElem]
theorem bbF_smF {Z : List Nat} {w j : Nat} : ∀ (m : List Int) (a : Nat), (∀ t ∈ m, 1 ≤ t ∧ t < (w : Int)) → w + j ≤ Z.length → bbF m (Z.drop (j + 1)) w a = smF m (Z.take (w + j)) a
  | [], a, _, _ => rfl
  | t :: m, a, h, hZ => by
    have ht := h t (List.mem_cons_self ..)
    show bbF m _ w (a ^^^ (Z.drop (j + 1)).getD (w - 1 - t.toNat) 0) = smF m _ (a ^^^ bk (Z.take (w + j)) t)
    have e : (Z.drop (j + 1)).getD (w - 1 - t.toNat) 0 = bk (Z.take (w + j)) t := by
      unfold bk
      rw [List.length_take, show min (w + j) Z.length = w + j from by omega, List.getD, List.getD, List.getElem?_drop, List.getElem?_take_of_lt (by omega)]
      congr 2
      omega
    rw [e]
    exact bbF_smF m _ (fun x hx => h x (List.mem_cons_of_mem _ hx)) hZ
theorem xor_back (a b : Nat) : (a ^^^ b) ^^^ a = b := by rw [Nat.xor_comm a b, Nat.xor_assoc, Nat.xor_self, Nat.xor_zero]
theorem bb_key {l : List Int} {q : List Nat} (ht : tpOk l = true) (hq : bitsN q) (hw : (q.length : Int) = wid l) (j : Nat) (hj : j < q.length) : bb l ((kq l q q.length).drop (j + 1)) = (kq l q q.length).getD j 0 := by
  have h0 := (tpOk_parts ht).1
  have hl := (kq_ok (l := l) hq q.length).2
  have hW : (wid l).toNat = q.length := by omega
  have hn := kq_next (l := l) hq q.length j hj
  have htk := kq_take (l := l) hq q.length j (by omega)
  have hk := (kq_ok (l := l) hq j).2
  have h1 : ((kq l q q.length).drop (j + 1)).getD (q.length - 1) 0 = sm l (kq l q j) := by
    rw [List.getD, List.getElem?_drop, show j + 1 + (q.length - 1) = q.length + j from by omega, ← List.getD]; exact hn
  have h2 : sm l (kq l q j) = smF l.dropLast (kq l q j) 0 ^^^ (kq l q q.length).getD j 0 := by
    have e : sm l (kq l q j) = smF (l.dropLast ++ [wid l]) (kq l q j) 0 := by rw [← dropLast_wid h0]; rfl
    rw [e, smF_snoc]
    congr 1
    unfold bk
    rw [hk, hW, show q.length + j - q.length = j from by omega, List.getD, List.getD, ← htk, List.getElem?_take_of_lt (by omega)]
  unfold bb
  rw [hW, h1, bbF_smF _ _ (fun t hm => by have := drop_mem ht hm; omega) (by omega), htk, smF_acc, h2]
  exact xor_back _ _
theorem bq_key {l : List Int} {q : List Nat} (ht : tpOk l = true) (hq : bitsN q) (hw : (q.length : Int) = wid l) : ∀ k, k ≤ q.length → bq l ((kq l q q.length).drop q.length) k = (kq l q q.length).drop (q.length - k)
  | 0, _ => rfl
  | k + 1, h => by
    have hl := (kq_ok (l := l) hq q.length).2
    have ih := bq_key ht hq hw k (by omega)
    show bb l (bq l _ k) :: bq l _ k = _
    rw [ih]
    have hb := bb_key ht hq hw (q.length - (k + 1)) (by omega)
    rw [show q.length - (k + 1) + 1 = q.length - k from by omega] at hb
    rw [hb, List.drop_eq_getElem_cons (show q.length - (k + 1) < (kq l q q.length).length by omega), show q.length - (k + 1) + 1 = q.length - k from by omega, List.getD, List.getElem?_eq_getElem (by omega)]
    rfl
/-- The state is found from the first bits of its key. -/
theorem bst_key {l : List Int} {q : List Nat} (ht : tpOk l = true) (hq : bitsN q) (hw : (q.length : Int) = wid l) : bst l (kb l q q.length) q.length = q.reverse := by
  have h1 := bq_key ht hq hw q.length (Nat.le_refl _)
  have h2 := kq_take (l := l) hq q.length 0 (by omega)
  rw [Nat.sub_self, List.drop_zero] at h1
  rw [Nat.add_zero] at h2
  unfold bst kb
  rw [h1, h2]; rfl
theorem kb_take {l : List Int} {q : List Nat} (hq : bitsN q) (n k : Nat) (h : k ≤ n) : (kb l q n).take k = kb l q k := by
  unfold kb
  rw [List.take_drop, kq_take (l := l) hq n k h]
/-! Periods. -/
theorem sm_wn {l : List Int} {q : List Nat} (ht : tpOk l = true) (hq : bitsN q) (hw : (q.length : Int) = wid l) (k : Nat) : sm l (kq l q k) = sm l (wn l q k) := by
  rw [← kq_wn ht hq hw k]
  refine (smF_drop l 0 fun t hm => ?_).symm
  obtain ⟨i, hi, rfl⟩ := List.getElem_of_mem hm
  have := tpOk_le ht i hi
  rw [(kq_ok (l := l) hq k).2]
  exact ⟨this.1, by omega⟩
/-- A bit of the key. -/
def kbit (l : List Int) (q : List Nat) (i : Nat) : Nat := sm l (wn l q i)
theorem kb_get {l : List Int} {q : List Nat} (ht : tpOk l = true) (hq : bitsN q) (hw : (q.length : Int) = wid l) (n i : Nat) (h : i < n) : (kb l q n).getD i 0 = kbit l q i := by
  unfold kb kbit
  rw [List.getD, List.getElem?_drop, ← List.getD, kq_next hq n i h, sm_wn ht hq hw]
theorem wn_on {l : List Int} {q : List Nat} {P : Nat} (h : wn l q P = q) : ∀ k, wn l q (P + k) = wn l q k
  | 0 => h
  | k + 1 => by
    show nx l (wn l q (P + k)) = nx l (wn l q k)
    rw [wn_on h k]
theorem kbit_on {l : List Int} {q : List Nat} {P : Nat} (h : wn l q P = q) (k : Nat) : kbit l q (k + P) = kbit l q k := by
  unfold kbit
  rw [Nat.add_comm, wn_on h]
theorem wn_window {l : List Int} {q : List Nat} (ht : tpOk l = true) (hq : bitsN q) (hw : (q.length : Int) = wid l) (k i : Nat) (hi : i < q.length) : (wn l q (q.length + k)).getD i 0 = kbit l q (k + i) := by
  rw [← kq_wn ht hq hw, List.getD, List.getElem?_drop, show q.length + k + i = q.length + (k + i) from by omega, ← List.getD, kq_next hq _ _ (by omega), sm_wn ht hq hw]; rfl
theorem wn_same {l : List Int} {q : List Nat} (ht : tpOk l = true) (hq : bitsN q) (hw : (q.length : Int) = wid l) (d : Nat) (h : ∀ i, i < q.length → kbit l q i = kbit l q (i + d)) : wn l q d = q := by
  have h0 : 0 < q.length := by have := (tpOk_wid ht).1; omega
  have e : wn l q q.length = wn l q (q.length + d) := by
    have l1 := (wn_ok (l := l) hq h0 q.length).2
    have l2 := (wn_ok (l := l) hq h0 (q.length + d)).2
    apply List.ext_getElem
    · omega
    · intro i h1 h2
      have a := wn_window ht hq hw 0 i (by omega)
      have b := wn_window ht hq hw d i (by omega)
      rw [Nat.add_zero] at a
      rw [Nat.zero_add] at a
      rw [show d + i = i + d from by omega, ← h i (by omega), ← a, List.getD, List.getD, List.getElem?_eq_getElem h2, List.getElem?_eq_getElem h1] at b
      exact b.symm
  exact (wn_back ht hq hw _ _ e).symm
theorem smF_zeros {q : List Nat} (h : ∀ x ∈ q, x = 0) : ∀ (l : List Int), smF l q 0 = 0
  | [] => rfl
  | t :: l => by
    have e : bk q t = 0 := by
      unfold bk
      rw [List.getD]
      cases e : q[q.length - t.toNat]? with
      | none => rfl
      | some x => exact h x (List.mem_of_getElem? e)
    show smF l q (0 ^^^ bk q t) = 0
    rw [e]; exact smF_zeros h l
theorem nb_zero : ∀ (u : List Nat), nb u = 0 → ∀ x ∈ u, x = 0
  | [], _ => by intro x hx; cases hx
  | a :: u, h => by
    rw [nb_cons] at h
    have ha : a * 2 ^ u.length = 0 := by omega
    have hp := Nat.pow_pos (n := u.length) (show 0 < 2 by omega)
    have h1 : a = 0 := by
      rcases Nat.mul_eq_zero.1 ha with h | h
      · exact h
      · omega
    intro x hx
    rcases List.mem_cons.1 hx with rfl | hx
    · exact h1
    · exact nb_zero u (by omega) x hx
theorem nx_zeros {l : List Int} {u : List Nat} (h : ∀ x ∈ u, x = 0) (h0 : 0 < u.length) : nx l u = u := by
  have e : u = List.replicate u.length 0 := List.eq_replicate_iff.2 ⟨rfl, h⟩
  unfold nx sm
  rw [smF_zeros h]
  rw [e]
  obtain ⟨n, hn⟩ : ∃ n, u.length = n + 1 := ⟨u.length - 1, by omega⟩
  rw [hn, List.drop_replicate, Nat.add_sub_cancel]
  exact (List.replicate_succ' ..).symm
theorem kpN_le {l : List Int} {u : List Nat} (ht : tpOk l = true) (hu : bitsN u) (lu : (u.length : Int) = wid l) (h7 : wid l ≤ 7) : kpN l u ≤ 127 := by
  obtain ⟨p1, -, -, pm⟩ := kpN_ok ht hu lu
  have h0 : 0 < u.length := by have := (tpOk_wid ht).1; omega
  by_cases hz : ∃ i, nb (wn l u i) = 0
  · obtain ⟨i, hi⟩ := hz
    have e : wn l u i = wn l u (i + 1) := (nx_zeros (nb_zero _ hi) (by rw [(wn_ok hu h0 i).2]; exact h0)).symm
    have := (wn_back ht hu lu i 1 e).symm
    by_cases hk : 1 < kpN l u
    · exact absurd this (pm 1 (Nat.le_refl _) hk)
    · omega
  · have hlt : ∀ i, nb (wn l u i) < 128 := fun i => by
      have h1 := nb_lt _ (wn_ok (l := l) hu h0 i).1
      rw [(wn_ok hu h0 i).2] at h1
      have h2 : 2 ^ u.length ≤ 2 ^ 7 := Nat.pow_le_pow_right (by omega) (by omega)
      omega
    obtain ⟨i, j, hij, hj, e⟩ := php 127 (fun i => nb (wn l u i) - 1) (fun i _ => by
      have := hlt i
      have : nb (wn l u i) ≠ 0 := fun h => hz ⟨i, h⟩
      show nb (wn l u i) - 1 < 127
      omega)
    have e' : nb (wn l u i) = nb (wn l u j) := by
      have a : nb (wn l u i) ≠ 0 := fun h => hz ⟨i, h⟩
      have b : nb (wn l u j) ≠ 0 := fun h => hz ⟨j, h⟩
      have e : nb (wn l u i) - 1 = nb (wn l u j) - 1 := e
      omega
    have e2 : wn l u i = wn l u (i + (j - i)) := by
      rw [show i + (j - i) = j from by omega]
      exact nb_inj _ _ (wn_ok hu h0 i).1 (wn_ok hu h0 j).1 (by rw [(wn_ok hu h0 i).2, (wn_ok hu h0 j).2]) e'
    have := (wn_back ht hu lu i (j - i) e2).symm
    by_cases hk : j - i < kpN l u
    · exact absurd this (pm (j - i) (by omega) hk)
    · omega
/-! What is descrambled is scrambled back. -/
theorem sc_back (l : List Int) (q bs : List Nat) : (scF true l q bs).1 = q ++ bs ∧ scF false l q (scF true l q bs).2 = (q ++ bs, bs) := by
  refine snoc_ind (P := fun bs => (scF true l q bs).1 = q ++ bs ∧ scF false l q (scF true l q bs).2 = (q ++ bs, bs)) ?_ ?_ bs
  · exact ⟨(List.append_nil q).symm, by simp [scF]⟩
  · intro bs b ⟨h1, h2⟩
    rw [scF_snoc]
    unfold scG
    refine ⟨by simp [h1], ?_⟩
    simp only [h1]
    rw [scF_snoc, h2]
    unfold scG
    have e : b ^^^ sm l (q ++ bs) ^^^ sm l (q ++ bs) = b := by rw [Nat.xor_assoc, Nat.xor_self, Nat.xor_zero]
    simp [e]
end Go.Proofs.Ytddlpbpcdjddpaa

namespace Go.Proofs.Ytddlpbpcdjddpaa
open Go Go.RowKit
set_option linter.unusedVariables false

/-- Two rows of a call's own are apart. -/
def Apart (v u : Value) : Prop := ∀ k, v.ownBlock = some k → u.ownBlock = some k → False
theorem own_nil (w : World) (base : Nat) : Own w base (.slice none 0 0) [] := World.ownsRow_nil _ _ _ _
theorem apart_nil : Apart (.slice none 0 0) (.slice none 0 0) := fun k h _ => by simp [Value.ownBlock] at h
theorem c1_b (wr : World) (x : Value) (t : TypeId) : ∀ (j : Nat) (u : Value), [x][j]? = some u → (wr.alloc (.cells #[x] t)).cell? ((⟨wr.heap.size, 0, none⟩ : Addr).add j) = some u := by
  intro j u hj
  match j, hj with
  | 0, hj =>
    simp at hj; subst hj
    rw [show ((⟨wr.heap.size, 0, none⟩ : Addr).add 0) = ⟨wr.heap.size, 0, none⟩ from by simp [Addr.add]]
    rw [World.cell?_alloc_at _ _ _ _ rfl]; rfl
theorem app_other {wr w1 : World} {base : Nat} {u v : Value} {lu : List Int} {o : Obj} (hu : Own wr base u lu) (ha : Apart u v) (hg : (wr.alloc o).grownBy w1 v.ownBlock) : Own w1 base u lu := by
  refine World.ownsRow.kept (World.ownsRow.alloc hu o) hg ?_
  cases hb : u.ownBlock with
  | none => exact .inl rfl
  | some k => exact .inr fun e => ha k hb e.symm
theorem app_apart {wr : World} {base H g n cap : Nat} {u v : Value} {lu : List Int} (hu : Own wr base u lu) (ha : Apart u v) (hat : v.ownBlock = some g ∨ g = H) (hH : wr.heap.size ≤ H) : Apart u (.slice (some ⟨g, 0, none⟩) n cap) := by
  intro k h1 h2
  simp [Value.ownBlock] at h2
  subst h2
  rcases hat with h | h
  · exact ha g h1 h
  · have := (World.ownsRow.lt hu g h1).2
    omega
theorem Apart.symm {u v : Value} (h : Apart u v) : Apart v u := fun k h1 h2 => h k h2 h1
theorem below_appN {B n : Nat} {w wr w1 : World} {e : TypeId} {v : Value} {xs : List Value} {o : Obj} (hb : Below B w wr) (hB : B ≤ wr.heap.size) (hown : wr.ownsRow B e 1 v n xs) (hg : (wr.alloc o).grownBy w1 v.ownBlock) : Below B w w1 :=
  (hb.alloc hB o).grown hg (by simp; omega) (fun k hk => (hown.lt k hk).1)
theorem own_snocI {w : World} {base : Nat} {v : Value} {l : List Int} {x : Int} (h : w.ownsRow base 2 1 v (l.length + 1) (intVals l ++ [.int .i64 x])) : Own w base v (l ++ [x]) := by
  unfold Own; rw [List.length_append, ← intVals_snoc]; exact h
end Go.Proofs.Ytddlpbpcdjddpaa

namespace Go.Proofs.Ytddlpbpcdjddpaa
open Go Go.RowKit
set_option linter.unusedVariables false
theorem apN_other {wr w1 : World} {base : Nat} {u v : Value} {q : List Nat} {o : Obj} (hu : OwnN wr base u q) (ha : Apart u v) (hg : (wr.alloc o).grownBy w1 v.ownBlock) : OwnN w1 base u q := by
  refine World.ownsRow.kept (World.ownsRow.alloc hu o) hg ?_
  cases hb : u.ownBlock with
  | none => exact .inl rfl
  | some k => exact .inr fun e => ha k hb e.symm
theorem apN_apart {wr : World} {base H g n cap : Nat} {u v : Value} {q : List Nat} (hu : OwnN wr base u q) (ha : Apart u v) (hat : v.ownBlock = some g ∨ g = H) (hH : wr.heap.size ≤ H) : Apart u (.slice (some ⟨g, 0, none⟩) n cap) := by
  intro k h1 h2
  simp [Value.ownBlock] at h2
  subst h2
  rcases hat with h | h
  · exact ha g h1 h
  · have := (World.ownsRow.lt hu g h1).2
    omega
set_option maxRecDepth 100000 in
set_option maxHeartbeats 2000000 in
theorem l06Descramble_any (w : World) (b0 : Nat) (v : Value) (l : List Int) (s g : ByteArray) (hok : scOk l s.data.toList = true) (hok2 : isB g.data.toList = true) (hbk : Bk w b0 (scV v s)) (h : Rd w v l) :
    Calls Try.prog 40 #[.pointer (some ⟨b0, 0, none⟩), .string g] w fun e w' => e = .returned (.string ⟨(scbL true l s.data.toList g.data.toList).toArray⟩) ∧ Below w.heap.size w w' := by
  obtain ⟨i0, hi, hz0, hz1, hz2⟩ := info_parts Try.infoByte
  have HBK := Lib.hid hbk
  have HRD := Lib.hid h
  obtain ⟨A1, c1, rfl⟩ := rd_shp h
  obtain ⟨n1, hn1⟩ : ∃ n1, n1 = l.length := ⟨_, rfl⟩
  rw [← hn1] at HBK HRD
  clear h hbk hn1
  obtain ⟨hp1, hp2, hp3⟩ := scOk_parts hok
  obtain ⟨hp4, hp5⟩ := isB_r hp2
  have hwid : wid l ≤ ((stQ s.data.toList).length : Int) := by rw [stQ_len]; omega
  have hQ := stQ_bits hp5
  have hsz : (stQ s.data.toList).length = s.size := by rw [stQ_len]; simp
  have hpw := tpOk_wid hp1
  have hs16 : s.size ≤ 16 := by
    have : (s.data.toList.length : Int) = s.size := by simp
    omega
  obtain ⟨hp6, hp7⟩ := isB_r hok2
  have hgs : g.size ≤ 400 := by simpa using hp6
  have HBF := Lib.hid (fun W => l06Before_any W s (by omega) hp5)
  have HIN := Lib.hid (fun k hk => inR_at 48 49 g k hk hp7)
  have HOK := Lib.hid (fun k => scF_ok true l (stQ s.data.toList) hQ (gb (g.data.toList.take k)) (gb_bits (inR_take 48 49 g k hp7)))
  have HST := Lib.hid (fun k hk => scF_take true l (stQ s.data.toList) g k hk)
  have HALL := Lib.hid (fun k hk => take_all g k hk)
  have HSU := Lib.hid (fun W v u (q : List Nat) hq hw h h2 => l06Sum_any W v u l q hp1 hq hw h h2)
  have HSL := Lib.hid (fun (q : List Nat) (hq : bitsN q) => sm_le hq l)
  have HWI := Lib.hid hwid
  have HTX := Lib.hid (fun W v (M : List Nat) hM hl h => l06Text_any W v M hM hl h)
  have HL : Hid (scbL true l s.data.toList g.data.toList = tx (scF true l (stQ s.data.toList) (gb g.data.toList)).2) := rfl
  have HSZ := Lib.hid hsz
  generalize scbL true l s.data.toList g.data.toList = LL at *
  clear hok hok2 hp1 hp2 hp3 hp4 hp5 hp6 hp7 hwid hQ hpw hsz
  generalize stQ s.data.toList = Q at *
  go_enter Try.func40, Try.ntmps40
  obtain ⟨q0, q1⟩ := sc_all HBK.out
  go_wp2_with fail
  refine (HBF.out _).mono ?_; rintro e w3 ⟨v3, rfl, ho3, hb3⟩
  clear q0 q1
  have HO3 := Lib.hid ho3
  have HB3 := Lib.hid hb3
  have HLU : Hid (b0 < w.heap.size) := HBK.out.2.2
  clear ho3 hb3
  go_wp2_with fail
  have HAP0 : Hid (Apart v3 (.slice (some ⟨w3.heap.size, 0, none⟩) 0 0)) := by
    show Apart _ _
    intro k h1 h2
    have := (World.ownsRow.lt HO3.out k h1).2
    simp [Value.ownBlock] at h2
    omega
  have ho30 : OwnN (w3.alloc (.cells #[] 5)) w.heap.size v3 Q := World.ownsRow.alloc HO3.out _
  have hou : OwnN (w3.alloc (.cells #[] 5)) w.heap.size (.slice (some ⟨w3.heap.size, 0, none⟩) 0 0) [] := own_low (World.ownsRow_made w3 #[] 0 (Nat.le_refl _) (by decide) rfl : OwnN _ _ _ []) HB3.out.size
  have hbo : Below w.heap.size w (w3.alloc (.cells #[] 5)) := HB3.out.alloc HB3.out.size _
  have HOI := Lib.hid (And.intro ho30 (And.intro hou hbo))
  clear ho30 hou hbo
  go_loopw [5, 6, 7] (fun u t i wr => ∃ (k : Nat) (q M : List Nat), k ≤ g.size ∧ i = .int .i64 k ∧ scF true l Q (gb (g.data.toList.take k)) = (q, M) ∧ OwnN wr w.heap.size u q ∧ OwnN wr w.heap.size t M ∧ Apart u t ∧ Below w.heap.size w wr) (fun _ _ i _ => g.size - (intOf i).toNat)
  case atStart => exact ⟨0, Q, [], Nat.zero_le _, rfl, rfl, HOI.out.1, HOI.out.2.1, HAP0.out, HOI.out.2.2⟩
  case round =>
    obtain ⟨k, q, M, hk, rfl, hst, hown, hout, hap, hbw⟩ := hrel
    have hok := HOK.out k
    rw [hst] at hok
    obtain ⟨o1, o2, o3, o4⟩ := hok
    simp only at o1 o2 o3 o4
    rw [gb_len] at o3 o4
    have HM := Lib.hid hst
    have hlen : q.length ≤ 416 := by rw [o3, List.length_take, HSZ.out]; simp; omega
    have hlenM : M.length ≤ 416 := by rw [o4, List.length_take]; omega
    have HO1 := Lib.hid o1
    have HO2 := Lib.hid o2
    have HO3L := Lib.hid o3
    have HO4L := Lib.hid o4
    have HWL : Hid (wid l ≤ (q.length : Int)) := by show _ ≤ _; have := HWI.out; omega
    have hz := HSL.out q o1
    clear hst o1 o2 o3 o4 HOI
    by_cases hlt : k < g.size
    · have hST := HST.out k hlt
      rw [HM.out] at hST
      have hIN := HIN.out k hlt
      have hk0 : (0 : Int) ≤ (k : Int) := by omega
      have hk1 : (k : Int) < (g.size : Int) := by omega
      obtain ⟨y, hy⟩ : ∃ y, g[k].toNat = y := ⟨_, rfl⟩
      rw [hy] at hST hIN
      obtain ⟨x, rfl⟩ : ∃ x, y = x + 48 := ⟨y - 48, by omega⟩
      have hx : x ≤ 1 := by omega
      rw [show x + 48 - 48 = x from by omega] at hST
      have HT := Lib.hid hST
      have hcv : (((x + 48 : Nat) : Int) - 48) % 256 = (x : Int) := by omega
      obtain ⟨z, hz2⟩ : ∃ z, sm l q = z := ⟨_, rfl⟩
      have HZ := Lib.hid hz2
      rw [hz2] at hz
      have hxo := u8_xor hx hz
      obtain ⟨m, hm⟩ : ∃ m, x ^^^ z = m := ⟨_, rfl⟩
      have HMM := Lib.hid hm
      rw [hm] at hxo
      have hwx : IntKind.u8.wrap (x : Int) = (x : Int) := by simp [IntKind.wrap, IntKind.signed, IntKind.bits]; omega
      have hbd : Below w.heap.size w wr.drew := hbw.drew
      have hkd := HBK.out.keep hbd
      have hrd := HRD.out.keep hbd
      obtain ⟨q0, q1⟩ := sc_all hkd
      have HC := Lib.hid (HSU.out wr.drew _ _ q HO1.out HWL.out hrd (OwnN.rdn (w := wr.drew) hown))
      rw [HZ.out] at HC
      have HBD := Lib.hid hbd
      have HOD : Hid (OwnN wr.drew w.heap.size u5 q) := hown
      have HUD : Hid (OwnN wr.drew w.heap.size u6 M) := hout
      have HAP := Lib.hid hap
      clear hkd hrd hbd hbw hST hIN hz2 hm hown hout hap
      go_wp2_with fail
      go_region_law ((first
        | (go_simp; go_at_call 51; refine (HC.out).mono ?_; rintro e w' ⟨rfl, rfl⟩)
        | (refine step_append_lies _ rfl _ _ 41 (by rfl) w.heap.size 5 i0 (.int .u8 0) 1 1 Try.underlying41 hi hz0 hz1 hz2 rfl (by decide) _ M.length _ (by rfl) (World.ownsRow.alloc HUD.out _) ⟨wr.heap.size, 0, none⟩ 1 1 [.int .u8 (m : Int)] (by rfl) rfl (by exact c1_one _ _ _) (by intro u hu; simp at hu; subst hu; rfl) (by decide) (by unfold maxLen; omega) (by omega) (by have := HBD.out.size; simp at this ⊢; omega) (wr.heap.size + 1) (by simp) ?_; intro g9 cap w9 hown9 hgrow hat hlt9)))
      all_goals
        have HB9 := Lib.hid (below_app (w1 := w9) HBD.out HBD.out.size HUD.out hgrow)
        have HM9 : Hid (OwnN w9 w.heap.size (.slice (some ⟨g9, 0, none⟩) (M.length + 1) cap) (M ++ [m])) := ownN_snoc hown9
        have HQ9 : Hid (OwnN w9 w.heap.size u5 q) := apN_other HOD.out HAP.out hgrow
        have HA9 : Hid (Apart u5 (.slice (some ⟨g9, 0, none⟩) (M.length + 1) cap)) := apN_apart (wr := wr.drew) HOD.out HAP.out hat (by simp)
        clear hown9 hgrow hat hlt9 hxo q0 q1
        go_wp2_with (at_builtin; refine wpList_append_lies _ rfl _ _ 41 rfl w.heap.size 5 i0 (.int .u8 0) 1 1 Try.underlying41 hi hz0 hz1 hz2 rfl (by decide) _ _ _ rfl (World.ownsRow.alloc HQ9.out _) ⟨w9.heap.size, 0, none⟩ 1 1 [.int .u8 (x : Int)] rfl rfl ?c1 ?c2 (by decide) ?c3 ?c4 ?c5 (w9.heap.size + 1) (by simp) ?_)
        case c1 => exact c1_one _ _ _
        case c2 => intro u hu; simp at hu; subst hu; rfl
        case c3 => unfold maxLen; omega
        case c4 => omega
        case c5 => have := HB9.out.size; simp; omega
        intro g8 cap8 w8 hown8 hgrow8 hat8 hlt8
        have HB8 := Lib.hid (below_app (w1 := w8) HB9.out HB9.out.size HQ9.out hgrow8)
        have HQ8 : Hid (OwnN w8 w.heap.size (.slice (some ⟨g8, 0, none⟩) (q.length + 1) cap8) (q ++ [x])) := ownN_snoc hown8
        have HM8 : Hid (OwnN w8 w.heap.size (.slice (some ⟨g9, 0, none⟩) (M.length + 1) cap) (M ++ [m])) := apN_other HM9.out HA9.out.symm hgrow8
        have HA8 : Hid (Apart (.slice (some ⟨g8, 0, none⟩) (q.length + 1) cap8) (.slice (some ⟨g9, 0, none⟩) (M.length + 1) cap)) := (apN_apart HM9.out HA9.out.symm hat8 (by simp)).symm
        clear hown8 hgrow8 hat8 hlt8 hcv hwx
        go_wp2_with fail
        go_roundw
        case rel =>
          refine ⟨k + 1, q ++ [x], M ++ [m], by omega, by go_num, ?_, HQ8.out, HM8.out, HA8.out, HB8.out⟩
          rw [HT.out]
          unfold scG
          simp only [HZ.out, HMM.out]
          rfl
        case measure => simp [intOf]; omega
    · have hst := HM.out
      rw [HALL.out k hlt] at hst
      have hll := HL.out
      rw [hst] at hll
      simp only at hll
      have HLL := Lib.hid hll
      have HUD := Lib.hid hout.rdn
      have HBW := Lib.hid hbw
      clear hst hll hown hout hap hbw
      go_wp2_with fail
      refine (HTX.out _ _ M HO2.out (by omega) HUD.out).mono ?_; rintro e w9 ⟨rfl, hb9⟩
      have B9 := Lib.hid (HBW.out.trans (hb9.mono HBW.out.size))
      clear hb9
      go_wp2_with fail
      go_ret
      exact ⟨by rw [HLL.out]; rfl, B9.out⟩
end Go.Proofs.Ytddlpbpcdjddpaa

namespace Go.Proofs.Ytddlpbpcdjddpaa
open Go Go.RowKit
set_option linter.unusedVariables false
end Go.Proofs.Ytddlpbpcdjddpaa

namespace Go.Proofs.Ytddlpbpcdjddpaa
open Go Go.RowKit
set_option linter.unusedVariables false
def zsT (c : Nat) : List UInt8 := List.replicate c 48
theorem zsT_tx (c : Nat) : tx (List.replicate c 0) = zsT c := by simp [tx, zsT]
theorem zsT_bits (c : Nat) : inR 48 49 (zsT c) = true := by simp [inR, zsT]
theorem zsT_isB {c : Nat} (h : c ≤ 400) : isB (zsT c) = true := by
  unfold isB
  rw [zsT_bits, decide_eq_true (by simpa [zsT] using h)]; rfl
def wbOk (l : List Int) (s : List UInt8) (c : Int) : Bool := scOk l s && decide (0 ≤ c ∧ c ≤ 400)
def wbV (l : List Int) (s : List UInt8) (c : Int) : ByteArray := if wbOk l s c then ⟨(scbL true l s (zsT c.toNat)).toArray⟩ else ⟨#[]⟩
theorem wbV_no {l : List Int} {s : List UInt8} {c : Int} (h : wbOk l s c = false) : wbV l s c = ⟨#[]⟩ := by unfold wbV; rw [h]; rfl
theorem wbV_yes {l : List Int} {s : List UInt8} {c : Int} (h : wbOk l s c = true) : wbV l s c = ⟨(scbL true l s (zsT c.toNat)).toArray⟩ := by unfold wbV; rw [h]; rfl
theorem zsN_bits (c : Nat) : bitsN (List.replicate c 0) := fun x hx => by rw [List.mem_replicate] at hx; omega

set_option maxRecDepth 100000 in
set_option maxHeartbeats 1000000 in
theorem worst_impl (w : World) (v : Value) (l : List Int) (s : ByteArray) (c : Int) (hb : ∀ n ∈ l, -9223372036854775808 ≤ n ∧ n ≤ 9223372036854775807) (hs : s.size ≤ maxLen) (h : Rd w v l) :
    Calls Try.prog 18 #[.agg #[v, .string s], .int .i64 c] w fun e w' =>
      e = .returned (.tuple #[.string (wbV l s.data.toList c), .bool (wbOk l s.data.toList c)]) ∧ Below w.heap.size w w' := by
  have hB : Below w.heap.size w (w.alloc (.cells #[v, .string s] 28)) := (Below.refl _ _).alloc (Nat.le_refl _) _
  have HBK : Hid (Bk (w.alloc (.cells #[v, .string s] 28)) w.heap.size (scV v s)) := Bk.new w (scV v s) 28 _ rfl
  have HB := Lib.hid hB
  have HRD := Lib.hid (h.keep hB)
  by_cases hc : 0 ≤ c ∧ c ≤ 400
  · obtain ⟨n, rfl⟩ : ∃ n : Nat, c = (n : Int) := ⟨c.toNat, by omega⟩
    obtain ⟨hc1, hc2⟩ := hc
    have hn : n ≤ 400 := by omega
    have HSD := Lib.hid (fun W h => selfDescramble_impl W v l s ⟨(zsT n).toArray⟩ hb hs (by show (zsT n).toArray.size ≤ _; unfold maxLen; simp [zsT]; omega) h)
    have hval : scbV true l s.data.toList (zsT n) = wbV l s.data.toList n := by
      unfold scbV wbV wbOk scbOk
      rw [zsT_isB hn, decide_eq_true ⟨hc1, hc2⟩, Bool.and_true, Int.toNat_natCast]
    have hok : scbOk l s.data.toList (zsT n) = wbOk l s.data.toList n := by
      unfold wbOk scbOk
      rw [zsT_isB hn, decide_eq_true ⟨hc1, hc2⟩]
    rw [show (⟨(zsT n).toArray⟩ : ByteArray).data.toList = zsT n from rfl, hval, hok] at HSD
    have HRep : Hid (∀ (W : World), Calls Try.prog 48 #[.string ⟨#[48]⟩, .int .i64 (n : Int)] W fun e w' => e = .returned (.string ⟨(zsT n).toArray⟩) ∧ Below W.heap.size W w') := by
      show ∀ (W : World), _
      intro W
      have h := Try.strings_Repeat ⟨#[48]⟩ n W (by omega) (by show 1 * n ≤ _; omega)
      rw [show (#[48] : Array UInt8).toList = List.replicate 1 48 from rfl, Lib.repeatL_replicate, Nat.mul_one] at h
      exact h
    generalize (⟨(zsT n).toArray⟩ : ByteArray) = Z at *
    generalize wbV l s.data.toList n = V at *
    generalize wbOk l s.data.toList n = O at *
    obtain ⟨A1, c1, rfl⟩ := rd_shp h
    obtain ⟨n1, hn1⟩ : ∃ n1, n1 = l.length := ⟨_, rfl⟩
    rw [← hn1] at HBK HB HRD HSD ⊢
    clear h hB hb hs hn1 hval hok
    go_enter Try.func18, Try.ntmps18
    go_wp2_with fail
    refine (btw_yes _ _ _ _ hc1 hc2).mono ?_; rintro e w' ⟨rfl, rfl⟩
    go_wp2_with fail
    have t0 := HBK.out.drew
    have H0 := Lib.hid (HRD.out.keep (Below.refl _ _).drew)
    have B0 := Lib.hid HB.out.drew
    obtain ⟨q0, q1⟩ := sc_all t0
    go_region_held3 (fun w' => w'.cell? ⟨w.heap.size, 0, none⟩ = some (.slice A1 n1 c1) ∧ w'.cell? ⟨w.heap.size, 1, none⟩ = some (.string s)) ((first | with_reducible exact sc_all t2 | with_reducible exact sc_all t1 | with_reducible exact sc_all t0 | fail))
      (first
        | (go_at_call 48; refine (HRep.out _).mono ?_; rintro e u1 ⟨rfl, hb1⟩; have t1 := t0.keep hb1; have H1 := Lib.hid (H0.out.keep hb1); have B1 := Lib.hid (B0.out.trans (hb1.mono B0.out.size)); obtain ⟨q0, q1⟩ := sc_all t1; clear hb1)
        | (go_at_call 31; refine (HSD.out _ H1.out).mono ?_; rintro e u2 ⟨rfl, hb2⟩; have t2 := t1.keep hb2; have B2 := Lib.hid (B1.out.trans (hb2.mono B1.out.size)); obtain ⟨q0, q1⟩ := sc_all t2; clear hb2)
        | fail)
    all_goals go_wp2_with fail
    all_goals go_ret2
    all_goals exact ⟨rfl, B2.out⟩
  · have e0 : wbOk l s.data.toList c = false := by unfold wbOk; rw [decide_eq_false hc, Bool.and_false]
    rw [wbV_no e0, e0]
    have HC := Lib.hid hc
    obtain ⟨A1, c1, rfl⟩ := rd_shp h
    generalize l.length = n1 at *
    clear h hb hs hB e0 hc HRD HBK
    go_enter Try.func18, Try.ntmps18
    go_wp2_with fail
    refine (btw_no _ _ _ _ HC.out).mono ?_; rintro e w' ⟨rfl, rfl⟩
    go_wp2_with fail
    go_ret2
    exact ⟨rfl, HB.out⟩

set_option maxRecDepth 100000 in
set_option maxHeartbeats 1000000 in
theorem worst_spec (w : World) (v : Value) (l : List Int) (s : ByteArray) (c : Int) (hb : ∀ n ∈ l, -9223372036854775808 ≤ n ∧ n ≤ 9223372036854775807) (hs : s.size ≤ maxLen) (h : Rd w v l) :
    Calls Try.prog 17 #[.agg #[v, .string s], .int .i64 c] w fun e w' =>
      e = .returned (.tuple #[.string (wbV l s.data.toList c), .bool (wbOk l s.data.toList c)]) ∧ Below w.heap.size w w' := by
  obtain ⟨i0, hi, hz0, hz1, hz2⟩ := info_parts Try.infoByte
  have hB : Below w.heap.size w (w.alloc (.cells #[v, .string s] 28)) := (Below.refl _ _).alloc (Nat.le_refl _) _
  have hbk : Bk (w.alloc (.cells #[v, .string s] 28)) w.heap.size (scV v s) := Bk.new w (scV v s) 28 _ rfl
  have HI := Lib.hid (l06Is_any _ w.heap.size v s l hb hs hbk (h.keep hB))
  have HB := Lib.hid hB
  have HBK := Lib.hid hbk
  have HRD := Lib.hid (h.keep hB)
  have HDE := Lib.hid (fun W g h1 h2 h3 h4 => l06Descramble_any W w.heap.size v l s g h1 h2 h3 h4)
  have hE : wbOk l s.data.toList c = (scOk l s.data.toList && decide (0 ≤ c ∧ c ≤ 400)) := rfl
  obtain ⟨A1, c1, rfl⟩ := rd_shp h
  obtain ⟨n1, hn1⟩ : ∃ n1, n1 = l.length := ⟨_, rfl⟩
  rw [← hn1] at HBK HB HRD HI HDE ⊢
  clear h hB hbk hn1 hb hs
  cases hok : scOk l s.data.toList
  · rw [hok, Bool.false_and] at hE
    rw [wbV_no hE, hE]
    rw [hok] at HI
    clear hE hok HDE
    go_enter Try.func17, Try.ntmps17
    go_wp2_with fail
    refine HI.out.mono ?_; rintro e w1 ⟨rfl, q, rfl⟩
    go_wp2_with fail
    go_ret2
    exact ⟨rfl, below_drewN HB.out q⟩
  · rw [hok, Bool.true_and] at hE
    rw [hok] at HI
    by_cases hc : 0 ≤ c ∧ c ≤ 400
    · rw [decide_eq_true hc] at hE
      rw [wbV_yes hE, hE]
      obtain ⟨n, rfl⟩ : ∃ n : Nat, c = (n : Int) := ⟨c.toNat, by omega⟩
      obtain ⟨hc1, hc2⟩ := hc
      have hn : n ≤ 400 := by omega
      have HD2 := Lib.hid (fun W h3 h4 => HDE.out W ⟨(zsT n).toArray⟩ hok (zsT_isB hn) h3 h4)
      have HTX := Lib.hid (fun W v h => l06Text_any W v (List.replicate n 0) (zsN_bits n) (by simp; omega) h)
      rw [zsT_tx] at HTX
      rw [Int.toNat_natCast]
      generalize (⟨(scbL true l s.data.toList (zsT n)).toArray⟩ : ByteArray) = LL at *
      generalize (⟨(zsT n).toArray⟩ : ByteArray) = Z at *
      clear hE hok HDE
      go_enter Try.func17, Try.ntmps17
      go_wp2_with fail
      refine HI.out.mono ?_; rintro e w1 ⟨rfl, q, rfl⟩
      go_wp2_with fail
      refine (l00In_yes _ _ _ _ hc1 hc2).mono ?_; rintro e w2 ⟨rfl, rfl⟩
      have HB1 := Lib.hid (below_drewN HB.out q)
      have HK1 := Lib.hid (HBK.out.drewN q)
      have HR1 := Lib.hid (HRD.out.drewN q)
      clear HB HBK HRD HI
      generalize (w.alloc (.cells #[.slice A1 n1 c1, .string s] 28)).drewN q = W1 at *
      go_wp2_with (at_make; refine wpList_make_full _ rfl _ _ 41 rfl W1.heap.size 5 i0 (.int .u8 0) 1 Try.underlying41 hi hz0 hz1 _ _ _ _ n rfl rfl rfl rfl ?b2 ?b3 (Nat.le_refl _) ?_)
      case b2 => rw [hz2]; omega
      case b3 => unfold maxLen; omega
      intro w3 hown hgrow
      have hb3 : Below W1.heap.size W1 w3 := (Below.refl _ _).grown hgrow (Nat.le_refl _) (by simp)
      rw [toList_madeCells_one] at hown
      have ho3 : OwnN w3 W1.heap.size (.slice (some ⟨W1.heap.size, 0, none⟩) n n) (List.replicate n 0) := by
        unfold OwnN natVals
        rw [List.map_replicate, List.length_replicate]
        exact hown
      have HO3 := Lib.hid ho3.rdn
      have HB3 := Lib.hid hb3
      clear hown hgrow ho3 hb3
      go_wp2_with fail
      refine (HTX.out _ _ HO3.out).mono ?_; rintro e w4 ⟨rfl, hb4⟩
      have HB4 := Lib.hid (HB3.out.trans (hb4.mono HB3.out.size))
      clear hb4
      go_wp2_with fail
      refine (HD2.out _ (HK1.out.keep HB4.out) (HR1.out.keep HB4.out)).mono ?_; rintro e w5 ⟨rfl, hb5⟩
      have HB5 := Lib.hid (HB1.out.trans ((HB4.out.trans (hb5.mono HB4.out.size)).mono HB1.out.size))
      clear hb5
      go_wp2_with fail
      go_ret2
      exact ⟨rfl, HB5.out⟩
    · rw [decide_eq_false hc] at hE
      rw [wbV_no hE, hE]
      have HC := Lib.hid hc
      clear hE hok HDE hc
      go_enter Try.func17, Try.ntmps17
      go_wp2_with fail
      refine HI.out.mono ?_; rintro e w1 ⟨rfl, q, rfl⟩
      go_wp2_with fail
      refine (l00In_no _ _ _ _ HC.out).mono ?_; rintro e w2 ⟨rfl, rfl⟩
      go_wp2_with fail
      go_ret2
      exact ⟨rfl, below_drewN HB.out q⟩
end Go.Proofs.Ytddlpbpcdjddpaa

namespace Go.Proofs.Ytddlpbpcdjddpaa
set_option linter.unusedVariables false
open Go Go.RowKit

/-- Scrambled bits are descrambled. -/
theorem sc_fwd (l : List Int) (q bs : List Nat) : (scF true l q (scF false l q bs).2).2 = bs := by
  refine snoc_ind (P := fun bs => (scF true l q (scF false l q bs).2).2 = bs) (by simp [scF]) ?_ bs
  intro bs b ih
  have h1 := scF_made l q bs
  have h2 := (scF_given l q (scF false l q bs).2).1
  rw [scF_snoc]
  show (scF true l q ((scF false l q bs).2 ++ [b ^^^ sm l (scF false l q bs).1])).2 = _
  rw [scF_snoc]
  show (scF true l q (scF false l q bs).2).2 ++ [(b ^^^ sm l (scF false l q bs).1) ^^^ sm l (scF true l q (scF false l q bs).2).1] = _
  rw [ih, h2, h1, Nat.xor_assoc, Nat.xor_self, Nat.xor_zero]
theorem xor_four (a b x y : Nat) : (a ^^^ b) ^^^ (x ^^^ y) = (a ^^^ x) ^^^ (b ^^^ y) := by
  apply Nat.eq_of_testBit_eq
  intro i
  simp only [Nat.testBit_xor]
  cases a.testBit i <;> cases b.testBit i <;> cases x.testBit i <;> cases y.testBit i <;> rfl
theorem xor_six (a e s1 s2 : Nat) : ((a ^^^ e) ^^^ (s1 ^^^ s2)) ^^^ (a ^^^ s1) = e ^^^ s2 := by
  apply Nat.eq_of_testBit_eq
  intro i
  simp only [Nat.testBit_xor]
  cases a.testBit i <;> cases e.testBit i <;> cases s1.testBit i <;> cases s2.testBit i <;> rfl
theorem smF_lin {PQ P Q : List Nat} : ∀ (l : List Int) (a b : Nat), (∀ t ∈ l, bk PQ t = bk P t ^^^ bk Q t) → smF l PQ (a ^^^ b) = smF l P a ^^^ smF l Q b
  | [], a, b, _ => rfl
  | t :: l, a, b, h => by
    show smF l PQ ((a ^^^ b) ^^^ bk PQ t) = smF l P (a ^^^ bk P t) ^^^ smF l Q (b ^^^ bk Q t)
    rw [h t (List.mem_cons_self ..), xor_four]
    exact smF_lin l _ _ (fun t ht => h t (List.mem_cons_of_mem _ ht))
theorem mx_all {K G : List Nat} {i : Nat} (h : i < K.length) : (mx K G K.length).getD i 0 = K.getD i 0 ^^^ G.getD i 0 := by rw [mx_get _ _ _ _ h, if_pos h]
theorem take_getD (M : List Nat) (i j : Nat) (h : j < i) : (M.take i).getD j 0 = M.getD j 0 := by rw [List.getD, List.getElem?_take_of_lt h, ← List.getD]
theorem getD_left (a b : List Nat) (j : Nat) (h : j < a.length) : (a ++ b).getD j 0 = a.getD j 0 := by rw [List.getD, List.getElem?_append_left h, ← List.getD]
theorem getD_right (a b : List Nat) (j : Nat) (h : a.length ≤ j) : (a ++ b).getD j 0 = b.getD (j - a.length) 0 := by rw [List.getD, List.getElem?_append_right h, ← List.getD]
theorem sm_lin {l : List Int} {q A E : List Nat} (hl : ∀ t ∈ l, 1 ≤ t ∧ t ≤ (q.length : Int)) (hAE : A.length = E.length) (i : Nat) (hi : i < A.length) :
    sm l (q ++ (mx A E A.length).take i) = sm l (q ++ A.take i) ^^^ sm l (List.replicate q.length 0 ++ E.take i) := by
  have h := smF_lin (PQ := q ++ (mx A E A.length).take i) (P := q ++ A.take i) (Q := List.replicate q.length 0 ++ E.take i) l 0 0 (fun t ht => by
    obtain ⟨ht1, ht2⟩ := hl t ht
    have e1 : (q ++ (mx A E A.length).take i).length = q.length + i := by rw [List.length_append, List.length_take, mx_len]; omega
    have e2 : (q ++ A.take i).length = q.length + i := by rw [List.length_append, List.length_take]; omega
    have e3 : (List.replicate q.length 0 ++ E.take i).length = q.length + i := by rw [List.length_append, List.length_take, List.length_replicate]; omega
    unfold bk
    rw [e1, e2, e3]
    obtain ⟨j, hj⟩ : ∃ j, j = q.length + i - t.toNat := ⟨_, rfl⟩
    rw [← hj]
    by_cases hlt : j < q.length
    · rw [getD_left _ _ _ hlt, getD_left _ _ _ hlt, getD_left _ _ _ (by rw [List.length_replicate]; exact hlt), show (List.replicate q.length 0).getD j 0 = 0 from by rw [List.getD, List.getElem?_replicate, if_pos hlt]; rfl, Nat.xor_zero]
    · have hjj : j < q.length + i := by omega
      rw [getD_right _ _ _ (by omega), getD_right _ _ _ (by omega), getD_right _ _ _ (by rw [List.length_replicate]; omega), List.length_replicate, take_getD _ _ _ (by omega), take_getD _ _ _ (by omega), take_getD _ _ _ (by omega), mx_all (by omega)])
  rw [Nat.xor_self] at h
  exact h
theorem given_at (l : List Int) (q bs : List Nat) (i : Nat) (h : i < bs.length) : (scF true l q bs).2.getD i 0 = bs.getD i 0 ^^^ sm l (q ++ bs.take i) := by
  rw [(scF_given l q bs).2, List.getD, List.getElem?_map, List.getElem?_range h]; rfl
/-- Errors in scrambled bits make just those bits wrong that errors alone make. -/
theorem lin_back {l : List Int} {q B E : List Nat} (hl : ∀ t ∈ l, 1 ≤ t ∧ t ≤ (q.length : Int)) (hBE : B.length = E.length) (hA : (scF false l q B).2.length = B.length) :
    mx (scF true l q (mx (scF false l q B).2 E (scF false l q B).2.length)).2 B B.length = (scF true l (List.replicate q.length 0) E).2 := by
  have hb := sc_fwd l q B
  generalize (scF false l q B).2 = A at *
  have l1 : (scF true l q (mx A E A.length)).2.length = B.length := by rw [(scF_given l q _).2]; simp [mx_len, hA]
  have l2 : (scF true l (List.replicate q.length 0) E).2.length = B.length := by rw [(scF_given l _ _).2]; simp [hBE]
  refine List.ext_getElem (by rw [mx_len, l1, l2]) fun i h1 h2 => ?_
  have hi : i < B.length := by omega
  have e1 : (mx (scF true l q (mx A E A.length)).2 B B.length).getD i 0 = (scF true l (List.replicate q.length 0) E).2.getD i 0 := by
    rw [mx_get _ _ _ _ (by omega), if_pos hi, given_at _ _ _ _ (by rw [mx_len]; omega), given_at _ _ _ _ (by omega), mx_all (by omega), sm_lin hl (by omega) i (by omega)]
    have e2 : B.getD i 0 = A.getD i 0 ^^^ sm l (q ++ A.take i) := by rw [← given_at l q A i (by omega), hb]
    rw [e2, xor_six]
  rw [List.getD, List.getElem?_eq_getElem h1, List.getD, List.getElem?_eq_getElem h2] at e1
  exact e1
theorem xorB_comm (a b : List UInt8) (k : Nat) : xorB a b k = xorB b a k := by
  unfold xorB
  apply List.map_congr_left
  intro j _
  by_cases h : a[j]? = b[j]?
  · rw [if_pos h, if_pos h.symm]
  · rw [if_neg h, if_neg (fun e => h e.symm)]
/-- How many of the first k places are in a set. -/
def cB (f : Int → Bool) : Nat → Nat
  | 0 => 0
  | k + 1 => cB f k + b2n (f k)
theorem cB_le (f : Int → Bool) : ∀ k, cB f k ≤ k
  | 0 => Nat.le_refl _
  | k + 1 => by
    have := cB_le f k
    unfold cB b2n
    split <;> omega
theorem cB_flip (f : Int → Bool) (x : Nat) (hf : f x = false) : ∀ k, cB (fun y => Bool.xor (f y) (decide (y = (x : Int)))) k = cB f k + (if x < k then 1 else 0)
  | 0 => rfl
  | k + 1 => by
    show cB _ k + b2n (Bool.xor (f k) (decide ((k : Int) = (x : Int)))) = cB f k + b2n (f k) + _
    rw [cB_flip f x hf k]
    by_cases e : k = x
    · subst e
      rw [hf, decide_eq_true rfl, if_neg (Nat.lt_irrefl _), if_pos (Nat.lt_succ_self _)]; rfl
    · rw [decide_eq_false (by omega), Bool.xor_false]
      by_cases h : x < k
      · rw [if_pos h, if_pos (by omega)]; omega
      · rw [if_neg h, if_neg (by omega)]; omega
/-- One error, at the third of eleven bits. -/
def e11 : List UInt8 := [48, 48, 49, 48, 48, 48, 48, 48, 48, 48, 48]
theorem eb11 (y : Int) : eb e11 11 y = decide (y = 2) := by
  unfold eb
  by_cases h : 0 ≤ y ∧ y < 11
  · obtain ⟨n, rfl⟩ := Int.eq_ofNat_of_zero_le h.1
    have hn : n < 11 := by omega
    rw [decide_eq_true (by omega)]
    rcases (show n = 0 ∨ n = 1 ∨ n = 2 ∨ n = 3 ∨ n = 4 ∨ n = 5 ∨ n = 6 ∨ n = 7 ∨ n = 8 ∨ n = 9 ∨ n = 10 by omega) with rfl | rfl | rfl | rfl | rfl | rfl | rfl | rfl | rfl | rfl | rfl <;> decide
  · rw [decide_eq_false (show ¬ (0 ≤ y ∧ y < ((11 : Nat) : Int)) by omega), decide_eq_false (show ¬ y = 2 by omega)]; rfl
def f11 (l : List Int) (x : Int) : Bool := l.foldl (fun a t => Bool.xor a (decide (x - t = 2))) (decide (x = 2))
theorem fB11 (l : List Int) : fB l e11 11 = f11 l := by
  funext x
  unfold fB f11
  simp only [eb11]
theorem f11_no : ∀ (l : List Int) (x : Int) (b : Bool), (∀ t ∈ l, x - t ≠ 2) → l.foldl (fun a t => Bool.xor a (decide (x - t = 2))) b = b
  | [], x, b, _ => rfl
  | t :: l, x, b, h => by
    show l.foldl _ (Bool.xor b (decide (x - t = 2))) = b
    rw [decide_eq_false (h t (List.mem_cons_self ..)), Bool.xor_false]
    exact f11_no l x b (fun t ht => h t (List.mem_cons_of_mem _ ht))
theorem count11 (l : List Int) (hi : inc l = true) (hr : ∀ j (h : j < l.length), 1 ≤ l[j] ∧ l[j] ≤ 7) : ∀ k, k ≤ l.length → cB (f11 (l.take k)) 11 = k + 1
  | 0, _ => by
    rw [List.take_zero]
    have : f11 [] = fun x => decide (x = 2) := rfl
    rw [this]; decide
  | k + 1, hk => by
    have ih := count11 l hi hr k (by omega)
    obtain ⟨h1, h7⟩ := hr k (by omega)
    obtain ⟨n, hn⟩ : ∃ n : Nat, (n : Int) = 2 + l[k] := ⟨(2 + l[k]).toNat, by omega⟩
    have e : f11 (l.take (k + 1)) = fun y => Bool.xor (f11 (l.take k) y) (decide (y = (n : Int))) := by
      funext y
      unfold f11
      rw [List.take_succ_eq_append_getElem (by omega), List.foldl_append]
      show Bool.xor _ (decide (y - l[k] = 2)) = _
      rw [decide_eq_decide.2 (show y - l[k] = 2 ↔ y = (n : Int) by omega)]
    have hf : f11 (l.take k) n = false := by
      unfold f11
      rw [f11_no, decide_eq_false (by omega)]
      intro t ht
      obtain ⟨j, hj, rfl⟩ := List.getElem_of_mem ht
      rw [List.length_take] at hj
      rw [List.getElem_take]
      have := inc_far hi (k - j) j (by omega)
      simp only [show j + (k - j) = k from by omega] at this
      omega
    rw [e, cB_flip _ _ hf, ih, if_pos (by omega)]
end Go.Proofs.Ytddlpbpcdjddpaa

