/- Readers: the program's readOn, the model's l05Read and l05Ends. -/
import Derived.Test.YtijmfienaoeboaaFl5
import Derived.Test.YtijmfienaoeboaaTri
import Derived.Test.YtijmfienaoeboaaInts
import Derived.Test.YtijmfienaoeboaaFlx
import Derived.Test.YtijmfienaoeboaaCmi
namespace Go.Proofs.Ytijmfienaoeboaa
open Go Go.RowKit Go.Maps
set_option linter.unusedVariables false

theorem cm_cmp {l : List ByteArray} (h : cmOk l = true) : Cmp (pth l) := by
  unfold cmOk at h
  obtain ⟨h1, h2⟩ := Bool.and_eq_true_iff.1 h
  obtain ⟨h3, h4⟩ := Bool.and_eq_true_iff.1 h2
  have hk := of_decide_eq_true h4
  obtain ⟨c1, c2, c3, c4⟩ := cdOk_parts h1
  refine ⟨pth_bits h1, ?_, ?_, ?_, h3, ?_⟩
  · intro w hw
    obtain ⟨x, hx, rfl⟩ := List.mem_map.1 hw
    have := (cwOk_parts (c4 x hx)).2.1
    simpa using this
  · intro w hw
    obtain ⟨x, hx, rfl⟩ := List.mem_map.1 hw
    intro e
    have h5 := (cwOk_parts (c4 x hx)).1
    have h6 : x.size = x.data.toList.length := by simp
    rw [e, List.length_nil] at h6
    omega
  · unfold pth
    rw [List.nodup_iff_pairwise_ne, List.pairwise_map]
    exact (List.nodup_iff_pairwise_ne.1 c3).imp fun hne e => hne (toList_inj e)
  · show kb (pth l) [] = _
    rw [← show kr l = kb (pth l) [] from kr_kb l, hk]
    rfl
def RdPost (w : World) (ps ws : List Bs) (r : Bs) (c : UInt8) (e : Ending) (w' : World) : Prop :=
  ∃ j : Nat, e = .returned (.int .i64 (j : Int)) ∧ ps[j]? = some (rdOn ws r c) ∧ w = w'

set_option maxHeartbeats 1600000 in
theorem readOn_any (w : World) (base g n cap i : Nat) (ps ws : List Bs) (r : Bs) (h : TrieV w base g n cap ps ws) (C : Cmp ws) (hr : Rdr ws r) (hi : ps[i]? = some r) (c : UInt8) (d : Nat) (hd : d < 2) (hc : c = if d = 0 then 48 else 49) (x : Int) (hx : x = 48 + d) :
    Calls Try.prog 87 #[.slice (some ⟨g, 0, none⟩) n cap, .int .i64 (i : Int), .int .i32 x] w (RdPost w ps ws r c) := by
  obtain ⟨hil, hie⟩ := List.getElem?_eq_some_iff.1 hi
  have hcc : c = 48 ∨ c = 49 := by rw [hc]; split; exact .inl rfl; exact .inr rfl
  obtain ⟨⟨v, hv, hpv⟩, hr2⟩ := C.on hr c hcc
  obtain ⟨m, hm, em, hme⟩ := ix_at (pre_in h.tr hv hpv)
  have q1 := h.at i d hil (by omega)
  have e1 : (nod ps ws ps[i])[d]? = some (.int .i64 (m : Int)) := by
    rw [hie, ← em]
    rcases (show d = 0 ∨ d = 1 from by omega) with rfl | rfl
    · simp at hc; subst hc; rfl
    · simp at hc; subst hc; rfl
  rw [e1] at q1
  have q2 := h.at m 2 hm (by decide)
  have e2 : (nod ps ws ps[m])[2]? = some (.int .i64 (ix ws (r ++ [c]))) := by rw [hme]; rfl
  rw [e2] at q2
  rw [show 3 * m + 2 = m * 3 + 2 from by omega] at q2
  have hn := h.len
  have h193 := h.small
  have i0 : (0 : Int) ≤ (i : Int) := by omega
  have i1 : (i : Int) < (n : Int) := by omega
  have m0 : (0 : Int) ≤ (m : Int) := by omega
  have m1 : (m : Int) < (n : Int) := by omega
  by_cases hin : r ++ [c] ∈ ws
  · have HP : Hid (ps[0]? = some (rdOn ws r c)) := by show _ = _; unfold rdOn; rw [if_pos hin]; exact h.tr.root
    have s1 : (ix ws (r ++ [c]) != -1) = true := bne_t (ix_ne.2 hin)
    generalize ix ws (r ++ [c]) = X at *
    clear hin e1 e2 hme em hpv hv hie hi hcc hr2 hr C h hn
    rcases (show d = 0 ∨ d = 1 from by omega) with rfl | rfl
    · rw [show 3 * i + 0 = i * 3 from by omega] at q1
      obtain rfl : x = 48 := by omega
      clear hc hd hx
      go_enter Try.func87, Try.ntmps87
      go_wp2_with fail
      go_ret
      exact ⟨0, rfl, HP.out, rfl⟩
    · rw [show 3 * i + 1 = i * 3 + 1 from by omega] at q1
      obtain rfl : x = 49 := by omega
      clear hc hd hx
      go_enter Try.func87, Try.ntmps87
      go_wp2_with fail
      go_ret
      exact ⟨0, rfl, HP.out, rfl⟩
  · have HP : Hid (ps[m]? = some (rdOn ws r c)) := by show _ = _; unfold rdOn; rw [if_neg hin, List.getElem?_eq_getElem hm, hme]
    have s1 : (ix ws (r ++ [c]) != -1) = false := bne_f (ix_out hin)
    generalize ix ws (r ++ [c]) = X at *
    clear hin e1 e2 hme em hpv hv hie hi hcc hr2 hr C h hn
    rcases (show d = 0 ∨ d = 1 from by omega) with rfl | rfl
    · rw [show 3 * i + 0 = i * 3 from by omega] at q1
      obtain rfl : x = 48 := by omega
      clear hc hd hx
      go_enter Try.func87, Try.ntmps87
      go_wp2_with fail
      go_ret
      exact ⟨m, rfl, HP.out, rfl⟩
    · rw [show 3 * i + 1 = i * 3 + 1 from by omega] at q1
      obtain rfl : x = 49 := by omega
      clear hc hd hx
      go_enter Try.func87, Try.ntmps87
      go_wp2_with fail
      go_ret
      exact ⟨m, rfl, HP.out, rfl⟩

/-- Bits as a text. -/
def tx (l : Bs) : ByteArray := ⟨l.toArray⟩
theorem tx_list (l : Bs) : (tx l).data.toList = l := rfl
theorem tx_size (l : Bs) : (tx l).size = l.length := by simp [tx, ByteArray.size]
theorem tx_add (a b : Bs) : tx a ++ tx b = tx (a ++ b) := by
  apply toList_inj
  simp [tx]
theorem tx_in {l : List ByteArray} {x : Bs} : tx x ∈ l ↔ x ∈ pth l := by rw [← @pth_mem l (tx x), tx_list]

set_option maxHeartbeats 1600000 in
theorem l05Read_any (w : World) (v : Value) (l : List ByteArray) (r : Bs) (c : UInt8) (h : RdS w v l) (hr : r.length ≤ 400) :
    Calls Try.prog 130 #[v, .string (tx r), .string (tx [c])] w fun e w' => e = .returned (.string (tx (rdOn (pth l) r c))) ∧ w = w' := by
  have hsum : ∀ W : World, (Op.stringOp .add (tx r) (tx [c])).run Try.prog W = .ok (.string (tx (r ++ [c]))) W := fun W => by
    rw [← tx_add]
    exact run_string_add_sum W _ _ (by rw [tx_size, tx_size]; simp; omega)
  have HI := Lib.hid (fun W h => l03Index_any W v l (tx (r ++ [c])) h)
  have HH := Lib.hid h
  have hf := fnd_nonneg l (tx (r ++ [c]))
  by_cases hin : r ++ [c] ∈ pth l
  · have HE : Hid (rdOn (pth l) r c = []) := by show _ = _; unfold rdOn; rw [if_pos hin]
    rw [inW_t (tx_in.2 hin)] at hf
    clear h hin
    generalize fnd l (tx (r ++ [c])) 0 = F at *
    generalize tx (r ++ [c]) = Z at *
    go_enter Try.func130, Try.ntmps130
    go_wp2_with fail
    refine (HI.out _ HH.out).mono ?_; rintro e w' ⟨rfl, rfl⟩
    go_wp2_with fail
    go_ret
    exact ⟨by rw [HE.out]; rfl, rfl⟩
  · have HE : Hid (rdOn (pth l) r c = r ++ [c]) := by show _ = _; unfold rdOn; rw [if_neg hin]
    rw [inW_f (fun e => hin (tx_in.1 e))] at hf
    clear h hin
    generalize fnd l (tx (r ++ [c])) 0 = F at *
    obtain ⟨Z, hZ⟩ : ∃ Z, Z = tx (r ++ [c]) := ⟨_, rfl⟩
    rw [← hZ] at hsum HI
    have HZ := Lib.hid hZ
    clear hZ
    go_enter Try.func130, Try.ntmps130
    go_wp2_with fail
    refine (HI.out _ HH.out).mono ?_; rintro e w' ⟨rfl, rfl⟩
    go_wp2_with fail
    go_ret
    exact ⟨by rw [HE.out]; first | rfl | (rw [← HZ.out]; rfl), rfl⟩

theorem run_slice_tx (W : World) (s : Bs) (k : Nat) (hk : k < s.length) (h : s.length ≤ 400) : (tx s).extract k (k + 1) = tx [s[k]] := by
  apply toList_inj
  simp only [tx, ByteArray.data_extract, Array.toList_extract]
  apply List.ext_getElem
  · simp; omega
  · intro i h1 h2
    simp at h2
    subst h2
    simp

set_option maxHeartbeats 1600000 in
set_option maxRecDepth 100000 in
theorem l05Ends_any (w : World) (v : Value) (l : List ByteArray) (s : Bs) (h : RdS w v l) (C : Cmp (pth l)) (hs : s.length ≤ 400) (hb : bt s) :
    Calls Try.prog 82 #[v, .string (tx s)] w fun e w' => ∃ u, e = .returned u ∧ Own w' w.heap.size u (endsP (endB (pth l) s) 0 s.length) ∧ Below w.heap.size w w' := by
  obtain ⟨i0, hi, hz0, hz1, hz2⟩ := info_parts Try.infoInt
  have HH := Lib.hid h
  have HC := Lib.hid C
  have HB := Lib.hid hb
  have hsz : (tx s).size = s.length := tx_size s
  have HSZ := Lib.hid hsz
  clear h C hb
  obtain ⟨X, hX⟩ : ∃ X, X = tx s := ⟨_, rfl⟩
  rw [← hX] at hsz HSZ ⊢
  have HX := Lib.hid hX
  clear hX
  have hX400 : X.size ≤ 400 := by omega
  clear hsz
  go_enter Try.func82, Try.ntmps82
  go_wp2_with fail
  go_loopw [5, 6, 7] (fun o rd i wr => ∃ k : Nat, k ≤ X.size ∧ i = .int .i64 k ∧ rd = .string (tx (stt (pth l) (s.take k))) ∧ wr.ownsRow w.heap.size 2 1 o (endsP (endB (pth l) s) 0 k).length (intVals (endsP (endB (pth l) s) 0 k)) ∧ Below w.heap.size w wr) (fun _ _ i _ => X.size - (intOf i).toNat)
  case atStart => exact ⟨0, Nat.zero_le _, rfl, rfl, World.ownsRow_made w #[] 0 (Nat.le_refl _) (by decide) rfl, (Below.refl _ _).alloc (Nat.le_refl _) _⟩
  case round =>
    obtain ⟨k, hk, rfl, rfl, hown, hb⟩ := hrel
    have HO := Lib.hid hown
    have HBW := Lib.hid hb
    clear hown hb
    by_cases hlt : k < X.size
    · have hks : k < s.length := by have := HSZ.out; omega
      have hex : X.extract k (k + 1) = tx [s[k]] := by rw [HX.out]; exact run_slice_tx w s k hks hs
      have hst : stt (pth l) (s.take (k + 1)) = rdOn (pth l) (stt (pth l) (s.take k)) s[k] := by rw [List.take_succ_eq_append_getElem hks, stt_snoc]
      have hrd := stt_rdr HC.out _ (s.take k) rfl (take_len_bt HB.out k)
      have hrl : (stt (pth l) (s.take k)).length ≤ 400 := by
        obtain ⟨v', hv, hp⟩ := hrd.2
        have := hp.length_le
        have := HC.out.short v' hv
        omega
      have hen := endsP_snoc (endB (pth l) s) 0 k
      rw [Nat.zero_add] at hen
      have hle := endsP_len (endB (pth l) s) 0 k
      have HRD := Lib.hid (fun W h => l05Read_any W v l (stt (pth l) (s.take k)) s[k] h hrl)
      rw [← hst] at HRD
      have hk0 : (0 : Int) ≤ (k : Int) := by omega
      have hk1 : (k : Int) < (X.size : Int) := by omega
      have hk2 : (k : Int) + 1 ≤ (X.size : Int) := by omega
      have hk3 : (0 : Int) ≤ (k : Int) + 1 := by omega
      have hk4 : ((k : Int) + 1).toNat = k + 1 := by omega
      have hEB : endB (pth l) s k = decide (stt (pth l) (s.take (k + 1)) = []) := rfl
      have HST : Hid (stt (pth l) (s.take k) = stt (pth l) (s.take k)) := Lib.hid rfl
      clear hst hrd hrl
      generalize hT : stt (pth l) (s.take (k + 1)) = T at *
      generalize stt (pth l) (s.take k) = R at *
      have HT := Lib.hid hT
      clear hT HST
      by_cases he : T = []
      · rw [decide_eq_true he] at hEB
        rw [hEB, if_pos rfl] at hen
        have HEN := Lib.hid hen
        have s1 : (tx T).toList = [] := by rw [he, ByteArray.toList_eq]; rfl
        have HE := Lib.hid he
        obtain ⟨Y, hY⟩ : ∃ Y, Y = tx T := ⟨_, rfl⟩
        rw [← hY] at HRD s1
        have HY := Lib.hid hY
        clear hEB hen he hY
        go_wp2_with fail
        refine (HRD.out _ (HH.out.keep HBW.out)).mono ?_; rintro e w' ⟨rfl, rfl⟩
        clear hex
        go_wp2_with (at_builtin; refine wpList_append_own _ rfl _ _ 32 rfl w.heap.size 2 i0 (.int .i64 0) 1 8 Try.underlying32 hi hz0 hz1 hz2 rfl (by decide) _ _ _ rfl (World.ownsRow.alloc HO.out _) ⟨wr.heap.size, 0, none⟩ 1 1 [.int .i64 ((k : Int) + 1)] rfl rfl ?c1 ?c2 ?c3 ?c4 ?c5 ?_)
        case c1 => exact c1_one _ _ _
        case c2 => intro u hu; simp at hu; subst hu; rfl
        case c3 => unfold maxLen; omega
        case c4 => omega
        case c5 => have := HBW.out.size; simp; omega
        intro v' w1 hown' hgrow _
        have HB1 := Lib.hid (below_app HBW.out HBW.out.size HO.out hgrow)
        have HO1 : Hid (w1.ownsRow w.heap.size 2 1 v' (endsP (endB (pth l) s) 0 (k + 1)).length (intVals (endsP (endB (pth l) s) 0 (k + 1)))) := by
          show World.ownsRow _ _ _ _ _ _ _
          rw [HEN.out, List.length_append, ← intVals_snoc]
          exact hown'
        clear hgrow hown'
        go_wp2_with fail
        go_roundw
        case rel => exact ⟨k + 1, by omega, by go_num, by rw [HT.out, ← HY.out], HO1.out, HB1.out⟩
        case measure => simp [intOf]; omega
      · rw [decide_eq_false he] at hEB
        rw [hEB, if_neg (by decide)] at hen
        have HEN := Lib.hid hen
        have s1 : ¬ (tx T).toList = [] := by
          rw [ByteArray.toList_eq]; exact he
        have s2 : (!(tx T).toList.isEmpty) = true := by
          rw [ByteArray.toList_eq]
          cases T with
          | nil => exact absurd rfl he
          | cons a t => rfl
        have s3 : (tx T).toList.isEmpty = false := by
          rw [ByteArray.toList_eq]
          cases T with
          | nil => exact absurd rfl he
          | cons a t => rfl
        obtain ⟨Y, hY⟩ : ∃ Y, Y = tx T := ⟨_, rfl⟩
        rw [← hY] at HRD s1 s2 s3
        have HY := Lib.hid hY
        clear hEB hen he hY
        go_wp2_with fail
        refine (HRD.out _ (HH.out.keep HBW.out)).mono ?_; rintro e w' ⟨rfl, rfl⟩
        clear hex
        go_wp2_with fail
        go_roundw
        case rel => exact ⟨k + 1, by omega, by go_num, by rw [HT.out, ← HY.out], by rw [HEN.out]; exact HO.out, HBW.out⟩
        case measure => simp [intOf]; omega
    · have hke : k = s.length := by have := HSZ.out; omega
      subst hke
      go_wp2_with fail
      go_ret
      exact ⟨_, rfl, HO.out, HBW.out⟩
end Go.Proofs.Ytijmfienaoeboaa
