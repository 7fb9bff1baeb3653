/- The model's sequences of bits: l06Before, l06Sum, l06Text. -/
import Derived.Test.YtddlpbpcdjddpaaOwn
import Derived.Test.YtddlpbpcdjddpaaScS
import Derived.Test.YtddlpbpcdjddpaaRd
import Derived.StillTailTactics
namespace Go.Proofs.Ytddlpbpcdjddpaa
open Go Go.RowKit
set_option linter.unusedVariables false
/-- Bits as cells. -/
def natVals (q : List Nat) : List Value := q.map fun (x : Nat) => Value.int .u8 (x : Int)
theorem natVals_length (q : List Nat) : (natVals q).length = q.length := by simp [natVals]
theorem natVals_snoc (q : List Nat) (x : Nat) : natVals q ++ [.int .u8 (x : Int)] = natVals (q ++ [x]) := by simp [natVals]
/-- A row of the call's own reads as bits. -/
def OwnN (w : World) (base : Nat) (v : Value) (q : List Nat) : Prop := w.ownsRow base 5 1 v q.length (natVals q)
theorem ownN_snoc {w : World} {base : Nat} {v : Value} {q : List Nat} {x : Nat} (h : w.ownsRow base 5 1 v (q.length + 1) (natVals q ++ [.int .u8 (x : Int)])) : OwnN w base v (q ++ [x]) := by
  unfold OwnN
  rw [← natVals_snoc, List.length_append]
  exact h
/-- A slice reads as bits. -/
def RdN (w : World) (v : Value) (q : List Nat) : Prop :=
  ∃ (A : Option Addr) (c : Nat), v = .slice A q.length c ∧ q.length ≤ c ∧ q.length ≤ maxLen ∧
    (0 < q.length → ∃ b o, A = some ⟨b, o, none⟩ ∧ b < w.heap.size ∧ ∀ i, i < q.length → w.cell? ⟨b, o + i, none⟩ = some (.int .u8 (q.getD i 0 : Nat)))
theorem RdN.keep {w w' : World} {v : Value} {q : List Nat} (h : RdN w v q) (hb : Below w.heap.size w w') : RdN w' v q := by
  obtain ⟨A, c, e, h1, h2, h3⟩ := h
  refine ⟨A, c, e, h1, h2, fun h0 => ?_⟩
  obtain ⟨b, o, ea, hlt, hc⟩ := h3 h0
  exact ⟨b, o, ea, Nat.lt_of_lt_of_le hlt hb.size, fun i hi => (hb.cell (p := ⟨b, o + i, none⟩) hlt).trans (hc i hi)⟩
theorem OwnN.rdn {w : World} {base : Nat} {v : Value} {q : List Nat} (h : OwnN w base v q) : RdN w v q := by
  rcases h.2 with ⟨rfl, h0⟩ | ⟨g, cap, cur, rfl, h1, hg, h2, h3, h4, h5⟩
  · have : q = [] := by
      have := h.1
      rw [natVals_length] at this
      exact List.length_eq_zero_iff.1 (by omega)
    subst this
    exact ⟨none, 0, rfl, Nat.le_refl _, by unfold maxLen; simp, fun h => by simp at h⟩
  · refine ⟨_, _, rfl, h2, by omega, fun _ => ⟨g, 0, rfl, ?_, fun i hi => ?_⟩⟩
    · rcases Nat.lt_or_ge g w.heap.size with h' | h'
      · exact h'
      · rw [Array.getElem?_eq_none h'] at hg; cases hg
    · have := (World.ownsRow.cellAt (w := w) (base := base) h i (by omega))
      rw [Nat.zero_add, this]
      simp [natVals, List.getD, List.getElem?_eq_getElem hi]
theorem OwnN.keep {w w' : World} {base : Nat} {v : Value} {q : List Nat} (h : OwnN w base v q) (hb : Below w.heap.size w w') : OwnN w' base v q := by
  refine ⟨h.1, ?_⟩
  rcases h.2 with h' | ⟨g, cap, cur, rfl, h1, hg, h2, h3, h4, h5⟩
  · exact .inl h'
  · have hlt : g < w.heap.size := by
      rcases Nat.lt_or_ge g w.heap.size with h' | h'
      · exact h'
      · rw [Array.getElem?_eq_none h'] at hg; cases hg
    exact .inr ⟨g, cap, cur, rfl, h1, by rw [hb.block g hlt]; exact hg, h2, h3, h4, h5⟩
theorem OwnN.low {w : World} {base base' : Nat} {v : Value} {q : List Nat} (h : OwnN w base v q) (hle : base' ≤ base) : OwnN w base' v q := by
  refine ⟨h.1, ?_⟩
  rcases h.2 with h' | ⟨g, cap, cur, h1, h2, h3⟩
  · exact .inl h'
  · exact .inr ⟨g, cap, cur, h1, by omega, h3⟩

set_option maxRecDepth 100000 in
set_option maxHeartbeats 1000000 in
theorem l06Before_any (w : World) (s : ByteArray) (hs : s.size ≤ 400) (hin : inR 48 49 s.data.toList = true) :
    Calls Try.prog 49 #[.string s] w fun e w' => ∃ v, e = .returned v ∧ OwnN w' w.heap.size v (stQ s.data.toList) ∧ Below w.heap.size w w' := by
  obtain ⟨i0, hi, hz0, hz1, hz2⟩ := info_parts Try.infoByte
  have HIN := Lib.hid (fun k hk => inR_at 48 49 s k hk hin)
  have HSQ := Lib.hid (fun k hk => stQ_at s k hk)
  have HQL : Hid ((stQ s.data.toList).length = s.size) := by show _ = _; rw [stQ_len]; simp
  have HST := Lib.hid (fun k (hk : k < (stQ s.data.toList).length) => List.take_succ_eq_append_getElem hk)
  have HW : Hid (IntKind.i64.wrap ((s.size : Int) - 1) = (s.size : Int) - 1) := IntWalk.i64_in _ (by omega)
  have hw := HW.out
  clear hin
  go_enter Try.func49, Try.ntmps49
  go_wp2_with fail
  clear hw
  go_loopw [3, 4] (fun v i wr => ∃ k : Nat, k ≤ s.size ∧ i = .int .i64 ((s.size : Int) - 1 - (k : Int)) ∧ OwnN wr w.heap.size v ((stQ s.data.toList).take k) ∧ Below w.heap.size w wr) (fun _ i _ => (intOf i + 1).toNat)
  case atStart => exact ⟨0, Nat.zero_le _, by simp, (World.ownsRow_made w #[] 0 (Nat.le_refl _) (by decide) rfl : OwnN _ _ _ []), (Below.refl _ _).alloc (Nat.le_refl _) _⟩
  case round =>
    obtain ⟨k, hk, rfl, hown, hb⟩ := hrel
    have hkl : ((stQ s.data.toList).take k).length = k := by rw [List.length_take, HQL.out]; omega
    by_cases hlt : k < s.size
    · have hi0 : (0 : Int) ≤ (s.size : Int) - 1 - (k : Int) := by omega
      have hi1 : (s.size : Int) - 1 - (k : Int) < (s.size : Int) := by omega
      have hi2 : ((s.size : Int) - 1 - (k : Int)).toNat = s.size - 1 - k := by omega
      have hi3 : s.size - 1 - k < s.size := by omega
      have hi4 : (k : Int) ≤ (s.size : Int) - 1 := by omega
      have hwr : IntKind.i64.wrap ((s.size : Int) - 1 - (k : Int) - 1) = (s.size : Int) - 1 - (k : Int) - 1 := IntWalk.i64_in _ (by omega)
      have hS := HST.out k (by rw [HQL.out]; exact hlt)
      rw [HSQ.out k hlt] at hS
      have HS := Lib.hid hS
      have HY := Lib.hid (HIN.out (s.size - 1 - k) hi3)
      unfold OwnN at hown
      rw [hkl] at hown
      clear hS
      go_wp2_with (at_builtin; refine wpList_append_own _ rfl _ _ 41 rfl w.heap.size 5 i0 (.int .u8 0) 1 1 Try.underlying41 hi hz0 hz1 hz2 rfl (by decide) _ _ _ rfl (hown.alloc _) ⟨wr.heap.size, 0, none⟩ 1 1 [.int .u8 ((((s[s.size - 1 - k]'hi3).toNat : Int) - 48) % 256)] rfl rfl ?c1 ?c2 ?c3 ?c4 ?c5 ?_)
      case c1 => exact c1_one _ _ _
      case c2 => intro u hu; simp at hu; subst hu; rfl
      case c3 => unfold maxLen; omega
      case c4 => omega
      case c5 => have := hb.size; simp at this ⊢; omega
      intro v1 w1 hown1 hgrow1 _
      have hb1 := below_app hb hb.size hown hgrow1
      have ho1 : OwnN w1 w.heap.size v1 ((stQ s.data.toList).take (k + 1)) := by
        rw [HS.out]
        refine ownN_snoc ?_
        rw [hkl, show (((s[s.size - 1 - k]'hi3).toNat - 48 : Nat) : Int) = (((s[s.size - 1 - k]'hi3).toNat : Int) - 48) % 256 from by have := HY.out; omega]
        exact hown1
      clear hown hgrow1 hb hown1
      go_wp2_with fail
      go_roundw
      case rel => exact ⟨k + 1, by omega, by go_num, ho1, hb1⟩
      case measure => simp [intOf]; omega
    · obtain rfl : k = s.size := by omega
      have hfull : (stQ s.data.toList).take s.size = stQ s.data.toList := List.take_of_length_le (by rw [HQL.out]; omega)
      rw [hfull] at hown
      have hneg : ¬ (0 : Int) ≤ (s.size : Int) - 1 - (s.size : Int) := by omega
      have hneg2 : (s.size : Int) - 1 - (s.size : Int) < 0 := by omega
      have hneg3 : (s.size : Int) - 1 - (s.size : Int) = -1 := by omega
      go_wp2_with fail
      go_ret
      exact ⟨_, rfl, hown, hb⟩

set_option maxRecDepth 100000 in
set_option maxHeartbeats 1000000 in
theorem l06Sum_any (w : World) (v u : Value) (l : List Int) (q : List Nat) (ht : tpOk l = true) (hq : bitsN q) (hw : wid l ≤ (q.length : Int)) (h : Rd w v l) (h2 : RdN w u q) :
    Calls Try.prog 51 #[v, u] w fun e w' => e = .returned (.int .u8 (sm l q : Nat)) ∧ w' = w := by
  have HTP := Lib.hid (fun k hk => tpOk_le ht k hk)
  have hl16 := tp_len (tpOk_parts ht).2.1 (tpOk_parts ht).2.2
  have hl0 := (tpOk_parts ht).1
  have hw0 := (tpOk_wid ht).1
  have HSM := Lib.hid (fun k hk => smF_take l q k hk)
  have HLE := Lib.hid (fun k => smF_le hq (l.take k) 0 (by omega))
  have HBK := Lib.hid (fun t => bk_le hq t)
  obtain ⟨A, n, c, rfl, hn, -, -, r⟩ := h
  obtain ⟨b, o, rfl, hlt0, hc⟩ := r (by omega)
  obtain ⟨A2, c2, rfl, hc2, hm2, r2⟩ := h2
  obtain ⟨b2, o2, rfl, hlt2, hcc⟩ := r2 (by omega)
  have HN := Lib.hid hn
  have HC := Lib.hid hc
  have HCC := Lib.hid hcc
  have HWQ := Lib.hid hw
  have HSE : Hid (smF (l.take l.length) q 0 = sm l q) := by show _ = _; rw [List.take_length]; rfl
  have hnl : n ≤ 16 := by omega
  unfold maxLen at hm2
  obtain ⟨m, hm⟩ : ∃ m, q.length = m := ⟨_, rfl⟩
  rw [hm] at hm2 ⊢
  have HM := Lib.hid hm
  clear r r2 hc hcc hw ht hn hm hl0 hl16
  go_enter Try.func51, Try.ntmps51
  go_wp2_with fail
  go_loop [5, 6] (fun a i => ∃ k : Nat, k ≤ n ∧ i = .int .i64 k ∧ a = .int .u8 (smF (l.take k) q 0 : Nat)) (fun _ i => n - (intOf i).toNat)
  case atStart => exact ⟨0, Nat.zero_le _, rfl, rfl⟩
  case round =>
    obtain ⟨k, hk, rfl, rfl⟩ := hrel
    by_cases hlt : k < n
    · have hkl : k < l.length := by have := HN.out; omega
      have hc0 := HC.out k hkl
      have htp := HTP.out k hkl
      have hwq := HWQ.out
      have hmq := HM.out
      have hS := HSM.out k hkl
      have hle := HLE.out k
      have hbk := HBK.out l[k]
      have hcc0 := HCC.out (q.length - l[k].toNat) (by omega)
      rw [show q.getD (q.length - l[k].toNat) 0 = bk q l[k] from rfl, hmq] at hcc0
      generalize l[k] = t at *
      have hk0 : (0 : Int) ≤ (k : Int) := by omega
      have hk1 : (k : Int) < (n : Int) := by omega
      have hw1 : IntKind.i64.wrap ((m : Int) - t) = (m : Int) - t := IntWalk.i64_in _ (by omega)
      have hi0 : t ≤ (m : Int) := by omega
      have hi1 : (m : Int) - t < (m : Int) := by omega
      have hi2 : ((m : Int) - t).toNat = m - t.toNat := by omega
      have HX := Lib.hid (u8_xor hle hbk)
      rw [← hS] at HX
      clear htp hwq hmq hS
      generalize smF (l.take k) q 0 = a at *
      obtain ⟨a', ha'⟩ : ∃ a', smF (l.take (k + 1)) q 0 = a' := ⟨_, rfl⟩
      have HA := Lib.hid ha'
      rw [ha'] at HX
      generalize bk q t = z at *
      clear ha' hle hbk
      go_wp2_with fail
      go_round
      case rel => exact ⟨k + 1, by omega, by go_num, by rw [HX.out, HA.out]⟩
      case measure => simp [intOf]; omega
    · obtain rfl : k = n := by omega
      have HE : Hid (smF (l.take k) q 0 = sm l q) := by show _ = _; rw [← HN.out]; exact HSE.out
      go_wp2_with fail
      go_ret
      exact ⟨ret_int (by rw [HE.out]), rfl⟩

theorem tx_take (M : List Nat) (k : Nat) (hk : k < M.length) : tx (M.take (k + 1)) = tx (M.take k) ++ [UInt8.ofNat (48 + M.getD k 0)] := by
  rw [List.take_succ_eq_append_getElem hk, tx_snoc, List.getD, List.getElem?_eq_getElem hk]
  rfl
set_option maxRecDepth 100000 in
set_option maxHeartbeats 1000000 in
theorem l06Text_any (w : World) (v : Value) (M : List Nat) (hM : bitsN M) (hl : M.length ≤ 4000) (h : RdN w v M) :
    Calls Try.prog 39 #[v] w fun e w' => e = .returned (.string ⟨(tx M).toArray⟩) ∧ Below w.heap.size w w' := by
  obtain ⟨i0, hi, hz0, hz1, hz2⟩ := info_parts Try.infoByte
  have HTX := Lib.hid (fun k hk => tx_take M k hk)
  have HMB : Hid (∀ k, M.getD k 0 ≤ 1) := by
    show ∀ _, _
    intro k
    rw [List.getD]
    cases e : M[k]?
    · simp
    · exact hM _ (List.mem_of_getElem? e)
  have HFU : Hid (tx (M.take M.length) = tx M) := by show _ = _; rw [List.take_length]
  have HTL := Lib.hid (fun k => (by rw [tx_len] : (tx (M.take k)).length = (M.take k).length))
  obtain ⟨A, c, rfl, hc, hm, r⟩ := h
  obtain ⟨n, hn⟩ : ∃ n, M.length = n := ⟨_, rfl⟩
  have HN := Lib.hid hn
  have HR := Lib.hid r
  rw [hn] at hl ⊢
  clear hc hm hn r hM
  go_enter Try.func39, Try.ntmps39
  go_wp2_with fail
  go_loopw [3, 4] (fun v i wr => ∃ k : Nat, k ≤ n ∧ i = .int .i64 k ∧ wr.ownsRow w.heap.size 5 1 v k (byteVals (tx (M.take k))) ∧ Below w.heap.size w wr) (fun _ i _ => n - (intOf i).toNat)
  case atStart => exact ⟨0, Nat.zero_le _, rfl, World.ownsRow_made w #[] 0 (Nat.le_refl _) (by decide) rfl, (Below.refl _ _).alloc (Nat.le_refl _) _⟩
  case round =>
    obtain ⟨k, hk, rfl, hown, hb⟩ := hrel
    by_cases hlt : k < n
    · obtain ⟨b, o, rfl, hlt0, hcc⟩ := HR.out (by have := HN.out; omega)
      have hc0 := (hb.cell (p := ⟨b, o + k, none⟩) hlt0).trans (hcc k (by have := HN.out; omega))
      have hT := HTX.out k (by have := HN.out; omega)
      have hz := HMB.out k
      generalize M.getD k 0 = z at *
      have HT := Lib.hid hT
      have HZ : Hid (((UInt8.ofNat (48 + z)).toNat : Int) = 48 + (z : Int)) := by show _ = _; rw [tx_byte hz]
      have hk0 : (0 : Int) ≤ (k : Int) := by omega
      have hk1 : (k : Int) < (n : Int) := by omega
      clear hcc hT
      go_wp2_with (at_builtin; refine wpList_append_own _ rfl _ _ 41 rfl w.heap.size 5 i0 (.int .u8 0) 1 1 Try.underlying41 hi hz0 hz1 hz2 rfl (by decide) _ _ _ rfl (hown.alloc _) ⟨wr.heap.size, 0, none⟩ 1 1 [.int .u8 (48 + (z : Int))] rfl rfl ?c1 ?c2 ?c3 ?c4 ?c5 ?_)
      case c1 => exact c1_one _ _ _
      case c2 => intro u hu; simp at hu; subst hu; rfl
      case c3 => unfold maxLen; omega
      case c4 => omega
      case c5 => have := hb.size; simp at this ⊢; omega
      intro v1 w1 hown1 hgrow1 _
      have hb1 := below_app hb hb.size hown hgrow1
      have ho1 : w1.ownsRow w.heap.size 5 1 v1 (k + 1) (byteVals (tx (M.take (k + 1)))) := by
        rw [HT.out, ← byteVals_snoc, HZ.out]
        exact hown1
      clear hown hgrow1 hb hown1
      go_wp2_with fail
      go_roundw
      case rel => exact ⟨k + 1, by omega, by go_num, ho1, hb1⟩
      case measure => simp [intOf]; omega
    · obtain rfl : k = n := by omega
      have hC := conv_own hown
      have HE : Hid (tx (M.take k) = tx M) := by show _ = _; rw [← HN.out]; exact HFU.out
      go_wp2_with fail
      go_ret
      exact ⟨by rw [HE.out]; rfl, hb⟩
end Go.Proofs.Ytddlpbpcdjddpaa
