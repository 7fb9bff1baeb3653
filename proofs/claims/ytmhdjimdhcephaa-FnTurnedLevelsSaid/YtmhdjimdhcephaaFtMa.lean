/- Several texts in one: Plain: what turned levels are read as. | Both ReadLevels. | The walk of the law FnTurnedLevels. | Levels that are turned twice are what they were, and those of four kinds are read as before when they are turned, from the second bit on. | Levels that are turned twice are what they were, and those of four kinds are read as before when they are turned, from the second bit on. -/
import Derived.Test.YtmhdjimdhcephaaLvR
import Derived.Test.YtmhdjimdhcephaaLvM
import Derived.Test.YtmhdjimdhcephaaLvO
import Derived.Test.YtmhdjimdhcephaaR8b
import Derived.Test.YtmhdjimdhcephaaR8a
import Derived.Test.YtmhdjimdhcephaaR8n
import Derived.Test.YtmhdjimdhcephaaRows
import Derived.Test.YtmhdjimdhcephaaLvg
import Derived.ProofKit
import Derived.OpenShut
import Derived.ShutString
import Derived.ChangeOld
import Derived.Below
import Derived.Carry
import Derived.Test.YtmhdjimdhcephaaSrc
import Derived.Test.YtmhdjimdhcephaaJFnTurnedLevels
namespace Go.Proofs.Ytmhdjimdhcephaa
open Go Go.RowKit
set_option linter.unusedVariables false

theorem ngL_app (a b : List Int) : ngL (a ++ b) = ngL a ++ ngL b := by simp [ngL]
theorem ngL_ngL (l : List Int) : ngL (ngL l) = l := by
  unfold ngL
  rw [List.map_map]
  conv => rhs; rw [← List.map_id l]
  exact List.map_congr_left (fun x _ => by simp)
theorem ngL_tri {l : List Int} (h : ∀ x ∈ l, tri x) : ∀ x ∈ ngL l, tri x := by
  intro x hx
  obtain ⟨y, hy, rfl⟩ := List.mem_map.1 hx
  exact tri_neg (h y hy)
/-- The levels of the first bits are a beginning. -/
theorem lvL_take (κ : Nat) (l : List UInt8) (k : Nat) : ∀ j, ∃ r, lvL κ l (k + j) = lvL κ l k ++ r
  | 0 => ⟨[], by simp⟩
  | j + 1 => by
    obtain ⟨r, hr⟩ := lvL_take κ l k j
    refine ⟨r ++ lsK κ (l.getD (k + j) 0 == 49) (lvS κ l (k + j)).1 (lvS κ l (k + j)).2, ?_⟩
    rw [show k + (j + 1) = (k + j) + 1 from rfl, lvL, hr, List.append_assoc]
/-- A block of turned levels. -/
theorem blk_turned (κ : Nat) (l : List UInt8) (n k : Nat) (h : k < n) : blkI (ngL (lvL κ l n)) (wdK κ) k = ngL (lsK κ (l.getD k 0 == 49) (lvS κ l k).1 (lvS κ l k).2) := by
  obtain ⟨j, rfl⟩ := Nat.exists_eq_add_of_le (show k + 1 ≤ n by omega)
  obtain ⟨r, hr⟩ := lvL_take κ l (k + 1) j
  have h1 : (ngL (lvL κ l k)).length = k * wdK κ := by rw [ngL_len, lvL_len]
  have h2 : (ngL (lsK κ (l.getD k 0 == 49) (lvS κ l k).1 (lvS κ l k).2)).length = wdK κ := by rw [ngL_len, lsK_len]
  unfold blkI
  rw [hr, lvL, ngL_app, ngL_app, List.append_assoc, ← h1, List.drop_left, ← h2, List.take_left]
theorem psE_last : ∀ (l : List Int) (e : Int × Int) (h : l ≠ []), (psE l e).1 = l.getLast h
  | [x], e, _ => rfl
  | x :: y :: t, e, _ => by rw [psE, psE_last (y :: t) _ (by simp)]; rfl
theorem ngL_last {l : List Int} (h : l ≠ []) (h2 : ngL l ≠ []) : (ngL l).getLast h2 = -(l.getLast h) := by
  unfold ngL at *
  rw [List.getLast_map]
/-- The last level behind k blocks of turned levels. -/
theorem turned_last (κ : Nat) (l : List UInt8) (n : Nat) : ∀ k, k < n → (rdK κ (ngL (lvL κ l n)) (wdK κ) (k + 1)).2.1 = -(lvS κ l (k + 1)).1 := by
  intro k hk
  have hwd := wdK_bd κ
  have hln := lsK_len κ (l.getD k 0 == 49) (lvS κ l k).1 (lvS κ l k).2
  have h1 : lsK κ (l.getD k 0 == 49) (lvS κ l k).1 (lvS κ l k).2 ≠ [] := fun e => by
    have := congrArg List.length e
    rw [hln] at this; simp at this; omega
  have h2 : ngL (lsK κ (l.getD k 0 == 49) (lvS κ l k).1 (lvS κ l k).2) ≠ [] := fun e => by
    have := congrArg List.length e
    rw [ngL_len, hln] at this; simp at this; omega
  rw [rdK, stepR]
  dsimp only
  rw [blk_turned κ l n k hk, psE_last _ _ h2, lvS, psE_last _ _ h1, ngL_last h1 h2]
def pm (x : Int) : Prop := x = 1 ∨ x = -1
theorem pm_sg (b : Bool) : pm (sg b) := by cases b <;> simp [pm, sg]
theorem pm_mul {x y : Int} (h : pm x) (h2 : pm y) : pm (x * y) := by
  unfold pm at *
  rcases h with rfl | rfl <;> rcases h2 with rfl | rfl <;> simp
theorem pm_neg {x : Int} (h : pm x) : pm (-x) := by unfold pm at *; omega
/-- What never is 0: the last level of two kinds, the last mark of two others. -/
theorem never0 (l : List UInt8) : ∀ k, pm (lvS 1 l k).1 ∧ pm (lvS 3 l k).1 ∧ pm (lvS 4 l k).2 ∧ pm (lvS 5 l k).2
  | 0 => ⟨.inr rfl, .inr rfl, .inr rfl, .inr rfl⟩
  | k + 1 => by
    obtain ⟨h1, h3, h4, h5⟩ := never0 l k
    have nz : ∀ x : Int, pm x → ¬ x = 0 := fun x h => by unfold pm at h; omega
    refine ⟨?_, ?_, ?_, ?_⟩
    · show pm (-sg _ * (lvS 1 l k).1)
      exact pm_mul (pm_neg (pm_sg _)) h1
    · show pm (-(sg _ * (lvS 3 l k).1))
      exact pm_neg (pm_mul (pm_sg _) h3)
    · rw [lvS]
      cases hb : (l.getD k 0 == 49)
      · exact h4
      · show pm (if -(lvS 4 l k).2 = 0 then (lvS 4 l k).2 else -(lvS 4 l k).2)
        rw [if_neg (nz _ (pm_neg h4))]
        exact pm_neg h4
    · rw [lvS]
      cases hb : (l.getD k 0 == 49)
      · show pm (if (lvS 5 l k).1 = 0 then (lvS 5 l k).2 else (lvS 5 l k).1)
        split
        · exact h5
        · rename_i hne
          have := (lvS_tri 5 l k).1
          unfold tri at this
          unfold pm
          omega
      · by_cases h0 : (lvS 5 l k).1 = 0
        · have e : lsK 5 true (lvS 5 l k).1 (lvS 5 l k).2 = [-(lvS 5 l k).2] := by show (if (lvS 5 l k).1 = 0 then _ else _) = _; rw [if_pos h0]
          rw [e]
          show pm (if -(lvS 5 l k).2 = 0 then (lvS 5 l k).2 else -(lvS 5 l k).2)
          rw [if_neg (nz _ (pm_neg h5))]
          exact pm_neg h5
        · have e : lsK 5 true (lvS 5 l k).1 (lvS 5 l k).2 = [0] := by show (if (lvS 5 l k).1 = 0 then _ else _) = _; rw [if_neg h0]
          rw [e]
          exact h5
/-- A turned bit as it is read. -/
theorem turned_bit {κ : Nat} (hκ : κ ≤ 5) (l : List UInt8) (n k : Nat) (hk : k < n) (h : κ = 0 ∨ κ = 2 ∨ 0 < k) :
    oneK κ (blkI (ngL (lvL κ l n)) (wdK κ) k) (rdK κ (ngL (lvL κ l n)) (wdK κ) k).2.1 = (if κ = 0 ∨ κ = 2 then !(l.getD k 0 == 49) else (l.getD k 0 == 49)) := by
  rw [blk_turned κ l n k hk]
  obtain ⟨n1, n3, n4, n5⟩ := never0 l k
  have hcase : κ = 0 ∨ κ = 1 ∨ κ = 2 ∨ κ = 3 ∨ κ = 4 ∨ κ = 5 := by omega
  have nz : ∀ x : Int, pm x → ¬ x = 0 := fun x h => by unfold pm at h; omega
  rcases hcase with rfl | rfl | rfl | rfl | rfl | rfl
  · cases (l.getD k 0 == 49) <;> rfl
  · obtain ⟨j, rfl⟩ : ∃ j, k = j + 1 := ⟨k - 1, by omega⟩
    rw [turned_last 1 l n j (by omega)]
    rcases n1 with e | e <;> rw [e] <;> cases (l.getD (j + 1) 0 == 49) <;> rfl
  · cases (l.getD k 0 == 49) <;> rfl
  · obtain ⟨j, rfl⟩ : ∃ j, k = j + 1 := ⟨k - 1, by omega⟩
    rw [turned_last 3 l n j (by omega)]
    rcases n3 with e | e <;> rw [e] <;> cases (l.getD (j + 1) 0 == 49) <;> rfl
  · rcases n4 with e | e <;> rw [e] <;> cases (l.getD k 0 == 49) <;> rfl
  · obtain ⟨j, rfl⟩ : ∃ j, k = j + 1 := ⟨k - 1, by omega⟩
    rw [turned_last 5 l n j (by omega)]
    have ht := (lvS_tri 5 l (j + 1)).1
    unfold tri at ht
    rcases n5 with e | e <;> rw [e] <;> rcases ht with e2 | e2 | e2 <;> rw [e2] <;> cases (l.getD (j + 1) 0 == 49) <;> rfl
theorem rdK_at (κ : Nat) (l : List Int) (T : Nat) : ∀ n k, k < n → (rdK κ l T n).1.getD k 0 = if oneK κ (blkI l T k) (rdK κ l T k).2.1 then 49 else 48
  | 0, k, h => by omega
  | n + 1, k, h => by
    rw [rdK, stepR]
    dsimp only
    by_cases hk : k = n
    · subst hk
      rw [List.getD_eq_getElem?_getD, List.getElem?_append_right (by rw [rdK_len]; exact Nat.le_refl _), rdK_len, Nat.sub_self]
      rfl
    · have ih := rdK_at κ l T n k (by omega)
      rw [List.getD_eq_getElem?_getD] at ih ⊢
      rw [List.getElem?_append_left (by rw [rdK_len]; omega)]
      exact ih
end Go.Proofs.Ytmhdjimdhcephaa

namespace Go.Proofs.Ytmhdjimdhcephaa
open Go Go.RowKit
set_option linter.unusedVariables false

def rdT (kind : Int) (l : List Int) : ByteArray := ⟨(rdV kind l).toArray⟩
theorem ret_sbL {a b : ByteArray} {c d : Bool} (h : a = b) (h2 : c = d) : Ending.returned (.tuple #[.string a, .bool c]) = .returned (.tuple #[.string b, .bool d]) := by rw [h, h2]
theorem rdT_no {kind : Int} {l : List Int} (h : rdOk kind l = false) : rdT kind l = ⟨#[]⟩ := by unfold rdT rdV; rw [h]; rfl
theorem wd_two {κ : Nat} : wdK κ = 1 ∨ wdK κ = 2 := by have := wdK_bd κ; omega
set_option maxRecDepth 100000 in
set_option maxHeartbeats 1000000 in
theorem l10Whole_any (kind : Int) (w : World) (v : Value) (l : List Int) (h : Rd w v l) :
    Calls Try.prog 60 #[.int .i64 kind, v] w fun e w' => e = .returned (.bool (rdOk kind l)) ∧ w = w' := by
  have HK := Lib.hid (l10Kind_any kind w)
  have HI := Lib.hid (l10Is_any w v l h)
  have hlen := h.len
  unfold maxLen at hlen
  obtain ⟨A, cp, rfl⟩ := rd_sh h
  clear h
  cases g0 : kdB kind
  · have e : rdOk kind l = false := (rd_no (.inl (by unfold rmB; rw [g0]; rfl))).1
    rw [e]
    rw [g0] at HK
    clear g0 e HI
    go_enter Try.func60, Try.ntmps60
    go_wp2_with fail
    refine HK.out.mono ?_; rintro e w' ⟨rfl, rfl⟩
    go_wp2_with fail
    go_ret
    exact ⟨ret_bool (by first | rfl | exact decide_eq_false (by omega)), rfl⟩
  cases g1 : lvB l
  · have e : rdOk kind l = false := (rd_no (.inl (by unfold rmB; rw [g0, g1]; rfl))).1
    rw [e]
    rw [g0] at HK
    rw [g1] at HI
    clear g0 g1 e
    go_enter Try.func60, Try.ntmps60
    go_wp2_with fail
    refine HK.out.mono ?_; rintro e w' ⟨rfl, rfl⟩
    go_wp2_with fail
    refine HI.out.mono ?_; rintro e w' ⟨rfl, rfl⟩
    go_wp2_with fail
    go_ret
    exact ⟨ret_bool (by first | rfl | exact decide_eq_false (by omega)), rfl⟩
  obtain ⟨κ, rfl, hκ, hn⟩ := kd_nat g0
  have HD := Lib.hid (fun W => l10Double_any κ hκ W)
  have hE : rdOk (κ : Int) l = (decide (l.length ≤ 400 * wdK κ) && decide (l.length % wdK κ = 0)) := by
    unfold rdOk rmB; rw [g0, g1, hn]; rfl
  rw [hE]
  rw [g0] at HK
  rw [g1] at HI
  clear g0 g1 hE hn hκ
  rcases wd_two (κ := κ) with hT | hT
  · rw [hT] at HD ⊢
    have HD' : Hid (∀ W : World, Calls Try.prog 68 #[.int .i64 κ] W fun e w' => e = .returned (.bool false) ∧ W = w') := HD.out
    have e2 : decide (l.length % 1 = 0) = true := decide_eq_true (by omega)
    rw [e2, Nat.mul_one]
    clear HD e2 hT
    by_cases hl : l.length ≤ 400
    · have e3 : (decide (l.length ≤ 400) && true) = true := by rw [decide_eq_true hl]; rfl
      rw [e3]
      have hl2 : (l.length : Int) ≤ 400 := by omega
      clear e3 hl
      generalize l.length = n at *
      go_enter Try.func60, Try.ntmps60
      go_wp2_with fail
      refine HK.out.mono ?_; rintro e w' ⟨rfl, rfl⟩
      go_wp2_with fail
      refine HI.out.mono ?_; rintro e w' ⟨rfl, rfl⟩
      go_wp2_with fail
      refine (HD'.out _).mono ?_; rintro e w' ⟨rfl, rfl⟩
      go_wp2_with fail
      go_ret
      exact ⟨ret_bool (by first | rfl | exact decide_eq_false (by omega)), rfl⟩
    · have e3 : (decide (l.length ≤ 400) && true) = false := by rw [decide_eq_false hl]; rfl
      rw [e3]
      have hl2 : ¬ (l.length : Int) ≤ 400 := by omega
      clear e3 hl
      generalize l.length = n at *
      go_enter Try.func60, Try.ntmps60
      go_wp2_with fail
      refine HK.out.mono ?_; rintro e w' ⟨rfl, rfl⟩
      go_wp2_with fail
      refine HI.out.mono ?_; rintro e w' ⟨rfl, rfl⟩
      go_wp2_with fail
      refine (HD'.out _).mono ?_; rintro e w' ⟨rfl, rfl⟩
      go_wp2_with fail
      refine (HD'.out _).mono ?_; rintro e w' ⟨rfl, rfl⟩
      go_wp2_with fail
      go_ret
      exact ⟨ret_bool (by first | rfl | exact decide_eq_false (by omega)), rfl⟩
  · rw [hT] at HD ⊢
    have HD' : Hid (∀ W : World, Calls Try.prog 68 #[.int .i64 κ] W fun e w' => e = .returned (.bool true) ∧ W = w') := HD.out
    clear HD hT
    have hmt : (l.length : Int).tmod 2 = ((l.length % 2 : Nat) : Int) := by
      rw [Int.tmod_eq_emod_of_nonneg (by omega)]; omega
    have hm0 : (l.length : Int) % 2 = ((l.length % 2 : Nat) : Int) := by omega
    have hw : IntKind.i64.wrap ((l.length % 2 : Nat) : Int) = ((l.length % 2 : Nat) : Int) := IntWalk.i64_in _ (by omega)
    by_cases hm : l.length % 2 = 0
    · rw [hm] at hmt hm0 hw ⊢
      by_cases hl : l.length ≤ 800
      · have e3 : (decide (l.length ≤ 400 * 2) && decide (0 = 0)) = true := by rw [decide_eq_true (show l.length ≤ 400 * 2 by omega)]; rfl
        rw [e3]
        have hl2 : (l.length : Int) ≤ 800 := by omega
        clear e3 hl hm
        generalize l.length = n at *
        go_enter Try.func60, Try.ntmps60
        go_wp2_with fail
        refine HK.out.mono ?_; rintro e w' ⟨rfl, rfl⟩
        go_wp2_with fail
        refine HI.out.mono ?_; rintro e w' ⟨rfl, rfl⟩
        go_wp2_with fail
        refine (HD'.out _).mono ?_; rintro e w' ⟨rfl, rfl⟩
        go_wp2_with fail
        refine (HD'.out _).mono ?_; rintro e w' ⟨rfl, rfl⟩
        go_wp2_with fail
        go_ret
        exact ⟨ret_bool (by first | rfl | exact decide_eq_false (by omega)), rfl⟩
      · have e3 : (decide (l.length ≤ 400 * 2) && decide (0 = 0)) = false := by rw [decide_eq_false (show ¬ l.length ≤ 400 * 2 by omega)]; rfl
        rw [e3]
        have hl2 : ¬ (l.length : Int) ≤ 800 := by omega
        clear e3 hl hm
        generalize l.length = n at *
        go_enter Try.func60, Try.ntmps60
        go_wp2_with fail
        refine HK.out.mono ?_; rintro e w' ⟨rfl, rfl⟩
        go_wp2_with fail
        refine HI.out.mono ?_; rintro e w' ⟨rfl, rfl⟩
        go_wp2_with fail
        refine (HD'.out _).mono ?_; rintro e w' ⟨rfl, rfl⟩
        go_wp2_with fail
        refine (HD'.out _).mono ?_; rintro e w' ⟨rfl, rfl⟩
        go_wp2_with fail
        go_ret
        exact ⟨ret_bool (by first | rfl | exact decide_eq_false (by omega)), rfl⟩
    · have e3 : (decide (l.length ≤ 400 * 2) && decide (l.length % 2 = 0)) = false := by rw [decide_eq_false hm]; simp
      rw [e3]
      have hz : (((l.length % 2 : Nat) : Int) == 0) = false := beq_f (by omega)
      clear e3 hm
      generalize l.length % 2 = r at *
      generalize l.length = n at *
      go_enter Try.func60, Try.ntmps60
      go_wp2_with fail
      refine HK.out.mono ?_; rintro e w' ⟨rfl, rfl⟩
      go_wp2_with fail
      refine HI.out.mono ?_; rintro e w' ⟨rfl, rfl⟩
      go_wp2_with fail
      refine (HD'.out _).mono ?_; rintro e w' ⟨rfl, rfl⟩
      go_wp2_with fail
      refine (HD'.out _).mono ?_; rintro e w' ⟨rfl, rfl⟩
      go_wp2_with fail
      go_ret
      exact ⟨ret_bool (by first | rfl | exact decide_eq_false (by omega)), rfl⟩
theorem l10Read_any {κ : Nat} (hκ : κ ≤ 5) (w : World) (v : Value) (l : List Int) (hr : Rd w v l) (hl : l.length ≤ 800) (hm : l.length % wdK κ = 0) :
    Calls Try.prog 61 #[.int .i64 (κ : Int), v] w fun e w' => e = .returned (.string ⟨(rdK κ l (wdK κ) (l.length / wdK κ)).1.toArray⟩) ∧ Below w.heap.size w w' := by
  have hK : l.length = l.length / wdK κ * wdK κ := (Nat.div_mul_cancel (Nat.dvd_of_mod_eq_zero hm)).symm
  rcases six hκ with rfl | rfl | rfl | rfl | rfl | rfl
  · exact readM_0 w v l hr hl _ hK
  · exact readM_1 w v l hr hl _ hK
  · exact readM_2 w v l hr hl _ hK
  · exact readM_3 w v l hr hl _ hK
  · exact readM_4 w v l hr hl _ hK
  · exact readM_5 w v l hr hl _ hK
theorem rd_parts {kind : Int} {l : List Int} (h : rdOk kind l = true) : kdB kind = true ∧ lvB l = true ∧ l.length ≤ 400 * wdK kind.toNat ∧ l.length % wdK kind.toNat = 0 := by
  unfold rdOk rmB at h
  obtain ⟨h1, h2⟩ := Bool.and_eq_true_iff.1 h
  obtain ⟨h3, h4⟩ := Bool.and_eq_true_iff.1 h1
  obtain ⟨h5, h6⟩ := Bool.and_eq_true_iff.1 h4
  exact ⟨h3, h5, of_decide_eq_true h6, of_decide_eq_true h2⟩
set_option maxRecDepth 100000 in
theorem reads_spec (kind : Int) (w : World) (v : Value) (l : List Int) (h : Rd w v l) :
    Calls Try.prog 31 #[.int .i64 kind, v] w fun e w' => e = .returned (.tuple #[.string (rdT kind l), .bool (rdOk kind l)]) ∧ Below w.heap.size w w' := by
  have HW := Lib.hid (l10Whole_any kind w v l h)
  cases g0 : rdOk kind l
  · rw [rdT_no g0]
    rw [g0] at HW
    obtain ⟨A, cp, rfl⟩ := rd_sh h
    clear g0 h
    go_enter Try.func31, Try.ntmps31
    go_wp2_with fail
    refine HW.out.mono ?_; rintro e w' ⟨rfl, rfl⟩
    go_wp2_with fail
    go_ret2
    exact ⟨rfl, Below.refl _ _⟩
  · obtain ⟨g1, g2, g3, g4⟩ := rd_parts g0
    obtain ⟨κ, rfl, hκ, hn⟩ := kd_nat g1
    rw [hn] at g3 g4
    have HT : Hid (rdT (κ : Int) l = ⟨(rdK κ l (wdK κ) (l.length / wdK κ)).1.toArray⟩) := by show _ = _; unfold rdT rdV; rw [g0, hn]; rfl
    have HR := Lib.hid (l10Read_any hκ w v l h (lvB_parts g2).1 g4)
    rw [HT.out]
    rw [g0] at HW
    obtain ⟨A, cp, rfl⟩ := rd_sh h
    clear g0 g1 g2 g3 g4 hn hκ h HT
    generalize (rdK κ l (wdK κ) (l.length / wdK κ)).1.toArray = B at *
    go_enter Try.func31, Try.ntmps31
    go_wp2_with fail
    refine HW.out.mono ?_; rintro e w' ⟨rfl, rfl⟩
    go_wp2_with fail
    refine HR.out.mono ?_; rintro e w' ⟨rfl, hb⟩
    go_wp2_with fail
    go_ret2
    exact ⟨rfl, hb⟩
set_option maxRecDepth 100000 in
set_option maxHeartbeats 1000000 in
theorem reads_impl (kind : Int) (w : World) (v : Value) (l : List Int) (h : Rd w v l) :
    Calls Try.prog 32 #[.int .i64 kind, v] w fun e w' => e = .returned (.tuple #[.string (rdT kind l), .bool (rdOk kind l)]) ∧ Below w.heap.size w w' := by
  cases g0 : kdB kind
  · have e : rdOk kind l = false := (rd_no (.inl (by unfold rmB; rw [g0]; rfl))).1
    rw [rdT_no e, e]
    have HK := Lib.hid (wire_no kind g0 w)
    obtain ⟨A, cp, rfl⟩ := rd_sh h
    clear g0 e h
    go_enter Try.func32, Try.ntmps32
    go_wp2_with fail
    refine HK.out.mono ?_; rintro e w1 ⟨rfl, hb1⟩
    have HB := Lib.hid (hb1.alloc hb1.size (.cells #[.nilIface, .int .i64 0, .int .i64 0] 60))
    clear hb1
    go_wp2_with fail
    go_ret2
    exact ⟨rfl, HB.out⟩
  obtain ⟨κ, rfl, hκ, hn⟩ := kd_nat g0
  have HW := Lib.hid (fun W => wire_yes hκ W)
  have HWD := Lib.hid (fun W g e (h : WrE W g κ e) t1 t2 => width_any hκ W g e h t1 t2)
  have HRM := Lib.hid (fun W g e (h : WrE W g κ e) t1 t2 (hr : Rd W v l) => room_any hκ W g e h t1 t2 v l hr)
  have HT0 := Lib.hid (stE_tri κ)
  have hwd := wdK_bd κ
  have hlen := h.len
  unfold maxLen at hlen
  cases g1 : (lvB l && decide (l.length ≤ 400 * wdK κ))
  · have e : rdOk (κ : Int) l = false := (rd_no (.inl (by unfold rmB; rw [g0, hn, g1]; rfl))).1
    rw [rdT_no e, e]
    rw [g1] at HRM
    have HR := Lib.hid h
    obtain ⟨A, cp, rfl⟩ := rd_sh h
    clear g0 g1 e h hκ hn HWD
    go_enter Try.func32, Try.ntmps32
    go_wp2_with fail
    refine (HW.out _).mono ?_; rintro e w1 ⟨rfl, hb1⟩
    have X2 : Hid (WrE (w1.alloc (.cells #[.iface (kT κ) (.agg #[]), .int .i64 (stE κ).1, .int .i64 (stE κ).2] 60)) w1.heap.size κ (stE κ)) := Bk.new w1 [.iface (kT κ) (.agg #[]), .int .i64 (stE κ).1, .int .i64 (stE κ).2] 60 w1.heap.size rfl
    have B2 : Hid (Below w.heap.size w (w1.alloc (.cells #[.iface (kT κ) (.agg #[]), .int .i64 (stE κ).1, .int .i64 (stE κ).2] 60))) := hb1.alloc hb1.size _
    obtain ⟨W2, hW2⟩ : ∃ W2, W2 = w1.alloc (.cells #[.iface (kT κ) (.agg #[]), .int .i64 (stE κ).1, .int .i64 (stE κ).2] 60) := ⟨_, rfl⟩
    rw [← hW2] at X2 B2
    have HW2 := Lib.hid hW2
    clear hW2 hb1
    go_wp2_with fail
    rw [← HW2.out]
    refine (HRM.out _ _ _ X2.out HT0.out.1 HT0.out.2 (HR.out.keep B2.out)).mono ?_; rintro e w3 ⟨rfl, hb3⟩
    have B3 := Lib.hid (B2.out.trans (hb3.mono B2.out.size))
    clear hb3
    go_wp2_with fail
    go_ret2
    exact ⟨rfl, B3.out⟩
  by_cases g2 : l.length % wdK κ = 0
  · have g3 : rdOk (κ : Int) l = true := (rd_yes (by unfold rmB; rw [g0, hn, g1]; rfl) (by rw [hn]; exact g2)).1
    have HT : rdT (κ : Int) l = ⟨(rdK κ l (wdK κ) (l.length / wdK κ)).1.toArray⟩ := by unfold rdT rdV; rw [g3, hn]; rfl
    rw [HT, g3]
    obtain ⟨a1, a2⟩ := Bool.and_eq_true_iff.1 g1
    exact reads_main hκ v l w h a1 (of_decide_eq_true a2) g2
  · have e : rdOk (κ : Int) l = false := (rd_no (.inr (by rw [hn]; exact g2))).1
    rw [rdT_no e, e]
    rw [g1] at HRM
    have HR := Lib.hid h
    obtain ⟨A, cp, rfl⟩ := rd_sh h
    have hmt : (l.length : Int).tmod (wdK κ : Int) = ((l.length % wdK κ : Nat) : Int) := by
      rw [Int.tmod_eq_emod_of_nonneg (by omega)]; exact (Int.natCast_emod _ _).symm
    have hm0 : (l.length : Int) % (wdK κ : Int) = ((l.length % wdK κ : Nat) : Int) := (Int.natCast_emod _ _).symm
    have hw : IntKind.i64.wrap ((l.length % wdK κ : Nat) : Int) = ((l.length % wdK κ : Nat) : Int) := IntWalk.i64_in _ (by have := Nat.mod_le l.length (wdK κ); omega)
    have hz : (((l.length % wdK κ : Nat) : Int) != 0) = true := bne_t (by omega)
    have hT1 : ¬ (wdK κ : Int) = 0 := by omega
    have hT2 : ((wdK κ : Int) == 0) = false := beq_f hT1
    clear g0 g1 g2 e h hκ hn hlen
    generalize l.length % wdK κ = r at *
    generalize wdK κ = T at *
    generalize l.length = n at *
    go_enter Try.func32, Try.ntmps32
    go_wp2_with fail
    refine (HW.out _).mono ?_; rintro e w1 ⟨rfl, hb1⟩
    have X2 : Hid (WrE (w1.alloc (.cells #[.iface (kT κ) (.agg #[]), .int .i64 (stE κ).1, .int .i64 (stE κ).2] 60)) w1.heap.size κ (stE κ)) := Bk.new w1 [.iface (kT κ) (.agg #[]), .int .i64 (stE κ).1, .int .i64 (stE κ).2] 60 w1.heap.size rfl
    have B2 : Hid (Below w.heap.size w (w1.alloc (.cells #[.iface (kT κ) (.agg #[]), .int .i64 (stE κ).1, .int .i64 (stE κ).2] 60))) := hb1.alloc hb1.size _
    obtain ⟨W2, hW2⟩ : ∃ W2, W2 = w1.alloc (.cells #[.iface (kT κ) (.agg #[]), .int .i64 (stE κ).1, .int .i64 (stE κ).2] 60) := ⟨_, rfl⟩
    rw [← hW2] at X2 B2
    have HW2 := Lib.hid hW2
    clear hW2 hb1
    go_wp2_with fail
    rw [← HW2.out]
    refine (HRM.out _ _ _ X2.out HT0.out.1 HT0.out.2 (HR.out.keep B2.out)).mono ?_; rintro e w3 ⟨rfl, hb3⟩
    have X3 : Hid (WrE w3 w1.heap.size κ (stE κ)) := X2.out.keep hb3
    have B3 := Lib.hid (B2.out.trans (hb3.mono B2.out.size))
    clear hb3
    go_wp2_with fail
    refine (HWD.out _ _ _ X3.out HT0.out.1 HT0.out.2).mono ?_; rintro e w4 ⟨rfl, hb4⟩
    have B4 := Lib.hid (B3.out.trans (hb4.mono B3.out.size))
    clear hb4
    go_wp2_with fail
    go_ret2
    exact ⟨rfl, B4.out⟩
end Go.Proofs.Ytmhdjimdhcephaa

namespace Go.Proofs.Ytmhdjimdhcephaa
open Go Go.RowKit
set_option linter.unusedVariables false

theorem rdv_keepB {w w' : World} {v : Value} {l : List Value} (h : RdV (· < w.heap.size) w v l) (hb : Below w.heap.size w w') : RdV (· < w'.heap.size) w' v l := by
  obtain ⟨A, n, c, e, hn, h1, h2, h3⟩ := h.keep hb
  refine ⟨A, n, c, e, hn, h1, h2, fun h0 => ?_⟩
  obtain ⟨b, o, ea, hK, hlt, hc⟩ := h3 h0
  exact ⟨b, o, ea, hlt, hlt, hc⟩
theorem bits_at {L : List UInt8} (h : inR 48 49 L = true) {k : Nat} (hk : k < L.length) : L.getD k 0 = 48 ∨ L.getD k 0 = 49 := by
  unfold inR at h
  rw [List.all_eq_true] at h
  have h1 := of_decide_eq_true (h _ (List.getElem_mem hk))
  have e : L.getD k 0 = L[k] := by rw [List.getD_eq_getElem?_getD, List.getElem?_eq_getElem hk]; rfl
  rw [e]
  have : L[k].toNat = 48 ∨ L[k].toNat = 49 := by omega
  rcases this with h | h
  · exact .inl (UInt8.toNat_inj.1 h)
  · exact .inr (UInt8.toNat_inj.1 h)
/-- What the law asks of turned levels. -/
theorem turned_all {κ : Nat} (hκ : κ ≤ 5) {L : List UInt8} (hL : inR 48 49 L = true) {k : Nat} (hk : k < L.length) :
    ((κ = 0 ∨ κ = 2) → ¬ (rdK κ (ngL (lvL κ L L.length)) (wdK κ) L.length).1.getD k 0 = L.getD k 0) ∧ (¬ (κ = 0 ∨ κ = 2) → 0 < k → (rdK κ (ngL (lvL κ L L.length)) (wdK κ) L.length).1.getD k 0 = L.getD k 0) := by
  rw [rdK_at κ _ _ L.length k hk]
  constructor
  · intro h
    rw [turned_bit hκ L L.length k hk (by rcases h with h | h; exact .inl h; exact .inr (.inl h)), if_pos h]
    rcases bits_at hL hk with e | e <;> rw [e] <;> decide
  · intro h h0
    rw [turned_bit hκ L L.length k hk (.inr (.inr h0)), if_neg h]
    rcases bits_at hL hk with e | e <;> rw [e] <;> decide
theorem byte_getD (s : ByteArray) (k : Nat) (h : k < s.size) : s.data.toList.getD k 0 = s[k] := by
  rw [List.getD_eq_getElem?_getD, List.getElem?_eq_getElem (by simpa using h)]; rfl

set_option maxHeartbeats 4000000 in
set_option maxRecDepth 100000 in
theorem law_FnTurnedLevels (v0 : Value) (l0 : List Value) (k0 : ∀ x ∈ l0, ∃ y : Int, x = .int .u8 y ∧ 0 ≤ y ∧ y ≤ 255) (v1 : Value) (l1 : List Value) (k1 : ∀ x ∈ l1, ∃ y : Int, x = .int .u8 y ∧ 0 ≤ y ∧ y ≤ 255) (w : World) (r0 : RdV (· < w.heap.size) w v0 l0) (r1 : RdV (· < w.heap.size) w v1 l1) :
    Calls Try.prog 14 #[v0, v1] w fun e w' => e = .returned (.bool true) ∧ Below w.heap.size w w' := by
  have HR0 := Lib.hid r0
  have HR1 := Lib.hid r1
  have HK1 := Lib.hid k1
  obtain ⟨x, hx, HAT⟩ := r8At_is w v0 l0 0 6 (by decide) r0 k0
  obtain ⟨κ, rfl⟩ := Int.eq_ofNat_of_zero_le hx.1
  have hκ : κ ≤ 5 := by omega
  have HA : Hid (∀ W, Below w.heap.size w W → Calls Try.prog 44 #[v0, .int .i64 0, .int .i64 6] W fun e w' => e = .returned (.int .i64 (κ : Int)) ∧ W = w') := HAT
  obtain ⟨A0, n0, c0, rfl, hn0, -⟩ := r0
  obtain ⟨A1, n1, c1, rfl, hn1, -⟩ := r1
  clear k0 k1 hn0 hn1 HAT
  have HL := Lib.hid (fun W => r8Long_any W A0 A1 n0 c0 n1 c1)
  by_cases hz : 48 < n0 ∨ 48 < n1
  · have hz' : (decide (48 < n0) || decide (48 < n1)) = true := by rcases hz with h | h <;> simp [h]
    rw [hz'] at HL
    clear hz hz'
    go_enter Try.func14, Try.ntmps14
    go_wp2_with fail
    refine (HL.out _).mono ?_; rintro e w1 ⟨rfl, q, rfl⟩
    go_wp2_with fail
    go_ret
    exact ⟨rfl, below_dn (Below.refl _ _) q⟩
  · have hz' : (decide (48 < n0) || decide (48 < n1)) = false := by simp; omega
    rw [hz'] at HL
    clear hz hz' hx
    have hkd : kdB (κ : Int) = true := decide_eq_true (by omega)
    have HKD := Lib.hid hkd
    have HKK := Lib.hid hκ
    clear hkd hκ
    go_enter Try.func14, Try.ntmps14
    go_wp2_with fail
    refine (HL.out _).mono ?_; rintro e w1 ⟨rfl, q, rfl⟩
    have B1 : Hid (Below w.heap.size w (w.drewN q)) := below_dn (Below.refl _ _) q
    go_wp2_with fail
    refine (HA.out _ B1.out).mono ?_; rintro e w' ⟨rfl, rfl⟩
    go_wp2_with fail
    refine (r8Bits_any _ _ _ 30 (by decide) (rdv_keepB HR1.out B1.out) HK1.out).mono ?_; rintro e w2 ⟨L, rfl, ⟨hL40, hLin⟩, hb2⟩
    have B2 := Lib.hid (B1.out.trans (hb2.mono B1.out.size))
    have hLB : isB L = true := by unfold isB; rw [hLin, decide_eq_true (by omega)]; rfl
    obtain ⟨s, hs⟩ : ∃ s : ByteArray, s = ⟨L.toArray⟩ := ⟨_, rfl⟩
    have hsl : s.data.toList = L := by rw [hs]
    have hss : s.size = L.length := by rw [← hsl]; simp
    rw [← hs]
    obtain ⟨e1, e2⟩ := lo_yes (kind := (κ : Int)) HKD.out hLB
    rw [Int.toNat_natCast] at e2
    have HLI := Lib.hid (fun W => levels_impl (κ : Int) s W (by rw [hss]; unfold maxLen; omega))
    rw [hsl, e1, e2] at HLI
    have htri := lvL_tri κ L L.length
    have hlen := lvL_len κ L L.length
    have hwd := wdK_bd κ
    have h60 : L.length * wdK κ ≤ 60 := Nat.le_trans (Nat.mul_le_mul hL40 hwd.2) (by decide)
    have hv1 : lvB (lvL κ L L.length) = true := lvB_mk (by omega) (fun x hx => tri_bd (htri x hx))
    have hv2 : lvB (ngL (lvL κ L L.length)) = true := lvB_mk (by rw [ngL_len]; omega) (fun x hx => tri_bd (ngL_tri htri x hx))
    have HT1 := Lib.hid (fun W v h => turn_impl W v (lvL κ L L.length) h)
    have HT2 := Lib.hid (fun W v h => turn_impl W v (ngL (lvL κ L L.length)) h)
    rw [hv1, ng_yes hv1] at HT1
    rw [hv2, ng_yes hv2, ngL_ngL] at HT2
    have hrm : rmB (κ : Int) (ngL (lvL κ L L.length)) = true := by
      unfold rmB
      rw [HKD.out, hv2, Int.toNat_natCast, ngL_len, hlen, decide_eq_true (Nat.mul_le_mul_right _ (show L.length ≤ 400 by omega))]; rfl
    obtain ⟨g1, g2⟩ := rd_yes hrm (by rw [Int.toNat_natCast, ngL_len, hlen]; exact Nat.mul_mod_left _ _)
    rw [Int.toNat_natCast, ngL_len, hlen, Nat.mul_div_cancel _ (by omega)] at g2
    have HRI := Lib.hid (fun W v h => reads_impl (κ : Int) W v (ngL (lvL κ L L.length)) h)
    rw [g1] at HRI
    obtain ⟨RT, hRT⟩ : ∃ RT : ByteArray, RT = rdT (κ : Int) (ngL (lvL κ L L.length)) := ⟨_, rfl⟩
    have hRl : RT.data.toList = (rdK κ (ngL (lvL κ L L.length)) (wdK κ) L.length).1 := by rw [hRT]; unfold rdT; rw [g2]
    have hRs : RT.size = s.size := by
      have : RT.data.toList.length = L.length := by rw [hRl, rdK_len]
      rw [hss, ← this]; simp
    rw [← hRT] at HRI
    have HF : Hid (∀ k (h1 : k < s.size) (h2 : k < RT.size), ((κ = 0 ∨ κ = 2) → ¬ RT[k] = s[k]) ∧ (¬ (κ = 0 ∨ κ = 2) → 0 < k → RT[k] = s[k])) := by
      show ∀ k _ _, _
      intro k h1 h2
      have := turned_all HKK.out hLin (k := k) (by omega)
      rw [← hRl, byte_getD RT k h2, ← hsl, byte_getD s k h1] at this
      exact this
    have HSR := Lib.hid hRs
    have hs40 : s.size ≤ 400 := by omega
    clear hb2 B1 HA hL40 hLin hLB hs hsl hss e1 e2 htri hlen hwd h60 hv1 hv2 hrm g1 g2 hRT hRl hRs
    generalize lvL κ L L.length = X at *
    generalize ngL X = Y at *
    go_wp2_with fail
    refine (HLI.out _).mono ?_; rintro e w3 ⟨u1, rfl, ho1, hb3⟩
    have B3 := Lib.hid (B2.out.trans (hb3.mono B2.out.size))
    have O1 := Lib.hid ho1.rd
    obtain ⟨P1, d1, hv1⟩ := own_shape ho1
    subst hv1
    clear ho1 hb3 B2
    go_wp2_with fail
    refine (HT1.out _ _ O1.out).mono ?_; rintro e w4 ⟨u2, rfl, ho2, hb4⟩
    have B4 := Lib.hid (B3.out.trans (hb4.mono B3.out.size))
    have O14 := Lib.hid (O1.out.keep hb4)
    have O2 := Lib.hid ho2.rd
    obtain ⟨P2, d2, hv2⟩ := own_shape ho2
    subst hv2
    clear ho2 hb4 B3 O1
    go_wp2_with fail
    refine (HT2.out _ _ O2.out).mono ?_; rintro e w5 ⟨u3, rfl, ho3, hb5⟩
    have B5 := Lib.hid (B4.out.trans (hb5.mono B4.out.size))
    have O15 := Lib.hid (O14.out.keep hb5)
    have O25 := Lib.hid (O2.out.keep hb5)
    have O3 := Lib.hid ho3.rd
    obtain ⟨P3, d3, hv3⟩ := own_shape ho3
    subst hv3
    clear ho3 hb5 B4 O14 O2
    go_wp2_with fail
    refine (HRI.out _ _ O25.out).mono ?_; rintro e w6 ⟨rfl, hb6⟩
    have B6 := Lib.hid (B5.out.trans (hb6.mono B5.out.size))
    have O16 := Lib.hid (O15.out.keep hb6)
    have O36 := Lib.hid (O3.out.keep hb6)
    clear hb6 B5 O15 O25 O3
    have hne : ((RT.size : Int) != (s.size : Int)) = false := bne_f (by have := HSR.out; omega)
    go_wp2_with fail
    refine (r8Nums_any _ _ _ X X O36.out O16.out).mono ?_; rintro e w7 ⟨rfl, q7, rfl⟩
    have hXX : decide (X = X) = true := decide_eq_true rfl
    rw [hXX]
    clear hXX O16 O36
    go_wp2_with fail
    go_loopw [15] (fun i wr => ∃ k q : Nat, k ≤ s.size ∧ i = .int .i64 k ∧ wr = w6.drewN q) (fun i _ => s.size - (intOf i).toNat)
    case atStart => exact ⟨0, q7, Nat.zero_le _, rfl, rfl⟩
    case round =>
      obtain ⟨k, q8, hk, rfl, rfl⟩ := hrel
      by_cases hlt : k < s.size
      · have hk0 : (0 : Int) ≤ (k : Int) := by omega
        have hk1 : (k : Int) < (s.size : Int) := by omega
        have hk2 : (k : Int) < (RT.size : Int) := by have := HSR.out; omega
        have hk3 : k < RT.size := by have := HSR.out; omega
        obtain ⟨f1, f2⟩ := HF.out k hlt hk3
        by_cases hc : κ = 0 ∨ κ = 2
        · have f3 : ((RT[k].toNat : Int) == (s[k].toNat : Int)) = false := beq_f (fun e => f1 hc (UInt8.toNat_inj.1 (by omega)))
          clear f1 f2
          rcases hc with hc | hc
          · have hc0 : ((κ : Int) == 0) = true := by rw [hc]; rfl
            clear hc
            go_wp2_with fail
            go_quiet (fail)
            go_wp2_with fail
            go_roundw
            case rel => exact ⟨k + 1, _, by omega, by go_num, rfl⟩
            case measure => simp [intOf]; omega
          · have hc0 : ((κ : Int) == 0) = false := beq_f (by omega)
            have hc2 : ((κ : Int) == 2) = true := by rw [hc]; rfl
            clear hc
            go_wp2_with fail
            go_quiet (fail)
            go_wp2_with fail
            go_roundw
            case rel => exact ⟨k + 1, _, by omega, by go_num, rfl⟩
            case measure => simp [intOf]; omega
        · have hc0 : ((κ : Int) == 0) = false := beq_f (by omega)
          have hc2 : ((κ : Int) == 2) = false := beq_f (by omega)
          rcases Nat.eq_zero_or_pos k with hz | hz
          · subst hz
            have h0 : decide ((0 : Int) < 0) = false := rfl
            clear f1 f2 hc
            go_wp2_with fail
            go_quiet (fail)
            go_wp2_with fail
            go_roundw
            case rel => exact ⟨1, _, by omega, by go_num, rfl⟩
            case measure => simp [intOf]; omega
          · have f4 : ((RT[k].toNat : Int) != (s[k].toNat : Int)) = false := bne_f (by rw [f2 hc hz])
            clear f1 f2 hc
            obtain ⟨j, rfl⟩ : ∃ j, k = j + 1 := ⟨k - 1, by omega⟩
            have i1 : (0 : Int) ≤ (j : Int) := by omega
            have i3 : (j : Int) + 1 < (s.size : Int) := by omega
            have i4 : (j : Int) + 1 < (RT.size : Int) := by have := HSR.out; omega
            have h00 : (0 : Int) < (j : Int) + 1 := by omega
            have w2 : ((j : Int) + 1).toNat = j + 1 := by omega
            have w3 : (0 : Int) ≤ (j : Int) + 1 := by omega
            clear hz hk0 hk1 hk2
            go_wp2_with fail
            go_quiet (fail)
            go_wp2_with fail
            go_roundw
            case rel => exact ⟨j + 1 + 1, _, by omega, by go_num, rfl⟩
            case measure => simp [intOf]; omega
      · obtain rfl : k = s.size := by omega
        go_wp2_with fail
        go_ret
        exact ⟨rfl, below_dn B6.out _⟩
end Go.Proofs.Ytmhdjimdhcephaa

namespace Go.Proofs.Ytmhdjimdhcephaa.fnTurnedLevels
open Go.ChangeShapes Go.WideShapes Go.ChangeAt Go.RowKit
open Go.ChangeMaps (open_string shut_string)
set_option linter.unusedVariables false

theorem laid : laidOutB Try.prog = true := by kernel_rfl
theorem own : ownKnob Try.prog.godebug = none := by kernel_rfl
set_option maxRecDepth 100000 in
theorem lifted (os : Os) (started : os.Started) (H : Type) (enc : TypeId × Value → H) :
    ReturnsInHanded {} Try.checked os 14 .any (Rows.fnTurnedLevelsSpec.pre6 enc Try.prog Try.f14 Rows.fnTurnedLevelsRow.domain false) (Rows.fnTurnedLevelsSpec.post enc Try.prog Try.f14 false true false false) := by
  refine returnsInHanded_of_change (C := Try.checked) own started (by kernel_rfl) Try.func14
    (ChangeSpec.witness6 (enc := enc) (C := Try.checked) false ⟨#[], #[.slice none 0 0, .slice none 0 0], []⟩ 8 (by kernel_rfl) (by kernel_rfl) (by kernel_rfl) (by kernel_rfl)) ?_
  intro W base args ds gs before hval0 hW hcnd _
  have hval : ∀ (j : Nat) t v, Try.f14.params[j]? = some t → args[j]? = some v → Value.okWide Try.prog W .any base t v := hval0
  have hW' := hW
  obtain ⟨p, q, hA0, hV, rfl, hfz, hnd⟩ := hW
  have hA : DataW.TrodAll enc Try.prog W 0 (fun _ => true) true Try.f14.params.toList args.toList ds p := hA0
  rw [Try.params14] at hA hval
  obtain ⟨v0, vs0, d0, ds0, p0, q0, hargs, rfl, rfl, h0, r0⟩ := trodAll_cons hA
  obtain ⟨v1, vs1, d1, ds1, p1, q1, rfl, rfl, rfl, h1, r1⟩ := trodAll_cons r0
  obtain ⟨rfl, rfl, rfl⟩ := trodAll_nil r1
  obtain rfl : args = #[v0, v1] := by cases args; simp_all
  obtain ⟨rfl, rfl⟩ := trodVars_none hV
  have kk0 := h0
  obtain ⟨ao0, len0, cap0, rfl⟩ := okWide_slice Try.underlying45 (hval 0 45 v0 rfl rfl)
  obtain ⟨fuel0, hf0⟩ := h0
  obtain ⟨l0, R0, F0⟩ := bytes_open (v := .slice ao0 len0 cap0) (by simpa [Value.cells] using hf0)
  have kk1 := h1
  obtain ⟨ao1, len1, cap1, rfl⟩ := okWide_slice Try.underlying45 (hval 1 45 v1 rfl rfl)
  obtain ⟨fuel1, hf1⟩ := h1
  obtain ⟨l1, R1, F1⟩ := bytes_open (v := .slice ao1 len1 cap1) (by simpa [Value.cells] using hf1)
  clear hA0 hval0
  refine (law_FnTurnedLevels _ l0 F0 _ l1 F1 W R0 R1).mono fun e W' ⟨he, bel⟩ => ?_
  subst he
  exact ⟨_, rfl, _, _, _, [], _, [], hW', trodAll_mk1 (shut_bool Try.underlying4 _), (trodAll_cons_mk (Go.RowKit.Below.trod laid (by kernel_rfl) (of_decide_eq_true (by kernel_rfl)) kk0 bel (fun x hx => DataW.trod_lt _ _ _ _ kk0.choose_spec x hx)) (trodAll_cons_mk (Go.RowKit.Below.trod laid (by kernel_rfl) (of_decide_eq_true (by kernel_rfl)) kk1 bel (fun x hx => DataW.trod_lt _ _ _ _ kk1.choose_spec x hx)) trodAll_mk0)), rfl, bel.frame _, fun h => by cases h⟩
end Go.Proofs.Ytmhdjimdhcephaa.fnTurnedLevels

namespace Go.Proofs.Ytmhdjimdhcephaa.fnTurnedLevels
open Go.ChangeShapes Go.WideShapes Go.ChangeAt Go.RowKit
open Go.ChangeMaps (open_string shut_string)
set_option linter.unusedVariables false

theorem proved : Rows.FnTurnedLevelsSaid := over_of lifted
#print axioms proved
end Go.Proofs.Ytmhdjimdhcephaa.fnTurnedLevels

