/- The walk of the law FnFramed. -/
import Derived.Test.YtllkojakeoennaaFrq
import Derived.Test.YtllkojakeoennaaFri
import Derived.Deep.RegionHeld3
namespace Go.Proofs.Ytllkojakeoennaa
open Go Go.RowKit
set_option linter.unusedVariables false

theorem rdv_keepB {w w' : World} {v : Value} {l : List Value} (h : RdV (· < w.heap.size) w v l) (hb : Below w.heap.size w w') : RdV (· < w'.heap.size) w' v l := by
  obtain ⟨A, n, c, e, hn, h1, h2, h3⟩ := h.keep hb
  refine ⟨A, n, c, e, hn, h1, h2, fun h0 => ?_⟩
  obtain ⟨b, o, ea, hK, hlt, hc⟩ := h3 h0
  exact ⟨b, o, ea, hlt, hlt, hc⟩
theorem c_fb {a b : Int} {fs : List ByteArray} {BS : List UInt8} (h1 : fbOk a b fs = true) (h2 : fbV a b fs = ⟨BS.toArray⟩) (hm : ∀ f ∈ fs, goodF f) (W : World) (v : Value) (h : RdS W v fs) :
    Calls Try.prog 26 #[.agg #[.int .i64 a, .int .i64 b], v] W fun e w' => e = .returned (.tuple #[.string ⟨BS.toArray⟩, .bool true]) ∧ Below W.heap.size W w' := by
  have h3 := frameBits_impl W a b v fs h (fun s hs => by
    have := (hm s hs).2.2
    have e : s.size = s.data.toList.length := by simp
    rw [e]; unfold maxLen; omega)
  rwa [h1, h2] at h3
theorem c_df {a b : Int} {X : List UInt8} {V : List ByteArray} (hx : X.length ≤ 400) (h1 : dfOk a b X = true) (h2 : dfV a b X = V) (W : World) (mx : Int) (hmx : W.cell? ⟨0, 0, none⟩ = some (.int .i64 mx)) :
    Calls Try.prog 29 #[.agg #[.int .i64 a, .int .i64 b], .string ⟨X.toArray⟩] W fun e w' => ∃ u, e = .returned (.tuple #[u, .bool true]) ∧ RdS w' u V ∧ Below W.heap.size W w' := by
  have h3 := deframeBits_impl W a b ⟨X.toArray⟩ (by simp [ByteArray.size]; unfold maxLen; omega) mx hmx
  rw [show (⟨X.toArray⟩ : ByteArray).data.toList = X from rfl, h1, h2] at h3
  exact h3.mono fun e w' ⟨u, he, ho, hb⟩ => ⟨u, he, ho.rds, hb⟩
theorem c_st {a b : Int} {L : List UInt8} (hl : L.length ≤ 9) (h1 : stOk a b L = true) (h2 : stV a b L = ⟨(stL a b L).toArray⟩) (W : World) :
    Calls Try.prog 18 #[.agg #[.int .i64 a, .int .i64 b], .string ⟨L.toArray⟩] W fun e w' => e = .returned (.tuple #[.string ⟨(stL a b L).toArray⟩, .bool true]) ∧ Below W.heap.size W w' := by
  have h3 := stuffBits_impl W a b ⟨L.toArray⟩ (by simp [ByteArray.size]; unfold maxLen; omega)
  rw [show (⟨L.toArray⟩ : ByteArray).data.toList = L from rfl, h1, h2] at h3
  exact h3
theorem below_app2 {B n : Nat} {w wr w1 : World} {e : TypeId} {v : Value} {xs : List Value} (hb : Below B w wr) (hB : B ≤ wr.heap.size) (hown : wr.ownsRow B e 1 v n xs) (hg : wr.grownBy w1 v.ownBlock) : Below B w w1 :=
  hb.grown hg hB (fun k hk => (hown.lt k hk).1)
theorem rds_same (W : World) (v1 v2 : Value) (l : List ByteArray) (h1 : RdS W v1 l) (h2 : RdS W v2 l) :
    Calls Try.prog 46 #[v1, v2] W fun e w' => e = .returned (.bool true) ∧ ∃ q, w' = W.drewN q := r8Same_rd W v1 v2 l h1 h2

set_option maxHeartbeats 4000000 in
set_option maxRecDepth 100000 in
theorem law_FnFramed (v0 : Value) (l0 : List Value) (k0 : ∀ x ∈ l0, ∃ y : Int, x = .int .u8 y ∧ 0 ≤ y ∧ y ≤ 255) (v1 : Value) (l1 : List Value) (k1 : ∀ x ∈ l1, ∃ y : Int, x = .int .u8 y ∧ 0 ≤ y ∧ y ≤ 255) (w : World) (mx : Int) (hmx : w.cell? ⟨0, 0, none⟩ = some (.int .i64 mx)) (r0 : RdV (· < w.heap.size) w v0 l0) (r1 : RdV (· < w.heap.size) w v1 l1) :
    Calls Try.prog 12 #[v0, v1] w fun e w' => e = .returned (.bool true) ∧ Below w.heap.size w w' := by
  obtain ⟨i0, hi, hz0, hz1, hz2⟩ := info_parts Try.infoByte
  obtain ⟨i1, hj, hy0, hy1, hy2⟩ := info_parts Try.infoStr
  have HR0 := Lib.hid r0
  have HR1 := Lib.hid r1
  have HK0 := Lib.hid k0
  have HK1 := Lib.hid k1
  have HMX : Hid (∀ W, Below w.heap.size w W → W.cell? ⟨0, 0, none⟩ = some (.int .i64 mx)) := by
    show ∀ W, Below w.heap.size w W → _
    exact fun W hb => (hb.cell (World.block_lt_of_cell? w _ hmx)).trans hmx
  clear hmx
  obtain ⟨A0, n0, c0, rfl, hn0, -⟩ := r0
  obtain ⟨A1, n1, c1, rfl, hn1, -⟩ := r1
  have HN1 := Lib.hid hn1
  clear k0 k1 hn0 hn1
  have HL := Lib.hid (fun W => r8Long_any W A0 A1 n0 c0 n1 c1)
  by_cases hz : 48 < n0 ∨ 48 < n1
  · have hz' : (decide (48 < n0) || decide (48 < n1)) = true := by rcases hz with h | h <;> simp [h]
    rw [hz'] at HL
    clear hz hz'
    go_enter Try.func12, Try.ntmps12
    go_wp2_with fail
    refine (HL.out _).mono ?_; rintro e w1 ⟨rfl, q, rfl⟩
    go_wp2_with fail
    go_ret
    exact ⟨rfl, below_drewN (Below.refl _ _) q⟩
  · have hz' : (decide (48 < n0) || decide (48 < n1)) = false := by simp; omega
    rw [hz'] at HL
    have hn48 : n1 ≤ 48 := by omega
    clear hz hz'
    go_enter Try.func12, Try.ntmps12
    go_wp2_with fail
    refine (HL.out _).mono ?_; rintro e w1 ⟨rfl, q, rfl⟩
    have B1 : Hid (Below w.heap.size w (w.drewN q)) := below_drewN (Below.refl _ _) q
    go_wp2_with fail
    refine (r8Stuffer_any _ _ _ (rdv_keepB HR0.out B1.out) HK0.out).mono ?_; rintro e w2 ⟨a, b, rfl, hab, hb2⟩
    have AB := Lib.hid hab
    have B2 := Lib.hid (B1.out.trans (hb2.mono B1.out.size))
    clear hab hb2 B1
    obtain ⟨w3, hw3⟩ : ∃ w3, w3 = (w2.alloc (.cells #[.int .i64 a, .int .i64 b] 25)).alloc (.cells #[] 9) := ⟨_, rfl⟩
    have HW3 := Lib.hid hw3
    have k3 : Below w2.heap.size w2 w3 := by rw [hw3]; exact ((Below.refl _ _).alloc (Nat.le_refl _) _).alloc (by simp) _
    have T3 : Hid (Blk w3 w2.heap.size 25 (sV a b)) := by show Blk _ _ _ _; rw [hw3]; exact (Blk.new w2 (sV a b) _ _ rfl).alloc _
    have F3 : Hid (OwnT w3 w.heap.size (.slice (some ⟨w2.heap.size + 1, 0, none⟩) 0 0) []) := by
      show OwnT _ _ _ _
      rw [hw3]
      have e : (w2.alloc (.cells #[.int .i64 a, .int .i64 b] 25)).heap.size = w2.heap.size + 1 := by simp
      rw [← e]
      exact World.ownsRow_made _ #[] 0 (by have := B2.out.size; simp; omega) (by decide) rfl
    have B3 := Lib.hid (B2.out.trans (k3.mono B2.out.size))
    clear k3 hw3
    go_wp2_with fail
    rw [← HW3.out]
    obtain ⟨N, hN⟩ : ∃ N : Nat, r8N l0 3 4 = (N : Int) ∧ N ≤ 3 := by
      have h : 0 ≤ r8N l0 3 4 ∧ r8N l0 3 4 < 4 := by
        unfold r8N
        split <;> (constructor <;> first | omega | exact Int.emod_nonneg _ (by decide) | exact Int.emod_lt_of_pos _ (by decide))
      exact ⟨(r8N l0 3 4).toNat, by omega, by omega⟩
    have HAT : Hid (∀ W, Below w.heap.size w W → Calls Try.prog 44 #[.slice A0 n0 c0, .int .i64 3, .int .i64 4] W fun e w' => e = .returned (.int .i64 (N : Int)) ∧ W = w') := by
      show ∀ W, _
      intro W hb
      refine (r8At_any W _ l0 3 4 (by decide) (HR0.out.keep hb) HK0.out).mono ?_
      rintro e w' ⟨rfl, -, rfl⟩
      exact ⟨by rw [hN.1], rfl⟩
    obtain ⟨-, hN3⟩ := hN
    go_loopw [6, 7] (fun fr i wr => ∃ (k : Nat) (fs : List ByteArray), k ≤ N + 1 ∧ i = .int .i64 k ∧ fs.length = k ∧ (∀ f ∈ fs, goodF f) ∧ OwnT wr w.heap.size fr fs ∧ Blk wr w2.heap.size 25 (sV a b) ∧ Below w.heap.size w wr) (fun _ i _ => N + 1 - (intOf i).toNat)
    case atStart => exact ⟨0, [], Nat.zero_le _, rfl, rfl, by simp, F3.out, T3.out, B3.out⟩
    case round =>
      obtain ⟨k, fs, hk, rfl, hfl, hgood, hown, hbk, hbw⟩ := hrel
      have HO := Lib.hid hown
      have HT := Lib.hid hbk
      have HB := Lib.hid hbw
      have HG := Lib.hid hgood
      have HFL := Lib.hid hfl
      clear hown hbk hbw hgood hfl F3 T3 B3
      go_wp2_with fail
      refine (HAT.out _ HB.out).mono ?_; rintro e w' ⟨rfl, rfl⟩
      by_cases hlt : k ≤ N
      · have hlt' : (k : Int) ≤ (N : Int) := by omega
        have wk : IntKind.u8.wrap (k : Int) = (k : Int) := IntWalk.u8_in _ (by omega)
        have HLIT : Hid ((wr.alloc (.cells #[.int .u8 (k : Int)] 5)).ownsRow wr.heap.size 5 1 (.slice (some ⟨wr.heap.size, 0, none⟩) 1 1) 1 [.int .u8 (k : Int)]) := World.ownsRow_lit wr #[.int .u8 (k : Int)] 1 (Nat.le_refl _) (by decide) rfl
        have kl : Below wr.heap.size wr (wr.alloc (.cells #[.int .u8 (k : Int)] 5)) := (Below.refl _ _).alloc (Nat.le_refl _) _
        have HSRC := Lib.hid (rdv_src (HR1.out.keep (HB.out.trans (kl.mono HB.out.size))))
        have KL := Lib.hid kl
        have h1c : ∀ u ∈ l1, u.oneCell' = true := fun u hu => by obtain ⟨y, rfl, -⟩ := HK1.out u hu; rfl
        have H1C := Lib.hid h1c
        clear kl h1c
        go_wp2_with (at_builtin; refine wpList_append_wn _ rfl _ _ 53 rfl wr.heap.size 5 i0 (.int .u8 0) 1 1 Try.underlying53 hi hz0 hz1 hz2 rfl (by decide) _ _ _ rfl HLIT.out A1 n1 c1 l1 rfl (by rw [HSRC.out.2.2, Nat.mul_one]) HSRC.out.1 HSRC.out.2.1.2 H1C.out (by unfold maxLen; omega) (by omega) (by simp) ?_)
        intro v5 w5 hown5 hgrow5
        have hb5 : Below wr.heap.size wr w5 := KL.out.grown hgrow5 (by simp) (fun j hj => by simp [Value.ownBlock] at hj; omega)
        have R5 := Lib.hid (own_rdv hown5)
        have B5 := Lib.hid (HB.out.trans (hb5.mono HB.out.size))
        have T5 := Lib.hid (HT.out.keep hb5)
        have F5 := Lib.hid (HO.out.keep hb5)
        have K5 : Hid (∀ x ∈ [Value.int .u8 (k : Int)] ++ l1, ∃ y : Int, x = .int .u8 y ∧ 0 ≤ y ∧ y ≤ 255) := by
          show ∀ x ∈ _, _
          intro x hx
          rcases List.mem_append.1 hx with hx | hx
          · simp at hx; exact ⟨k, hx, by omega, by omega⟩
          · exact HK1.out x hx
        clear hown5 hgrow5 hb5 HLIT HSRC KL H1C HO HT HB
        go_wp2_with fail
        refine (r8Bits_any _ _ _ 12 (by decide) R5.out K5.out).mono ?_; rintro e w6 ⟨L, rfl, ⟨hL1, hL2⟩, hb6⟩
        have B6 := Lib.hid (B5.out.trans (hb6.mono B5.out.size))
        have T6 := Lib.hid (T5.out.keep hb6)
        have F6 := Lib.hid (F5.out.keep hb6)
        have GT := Lib.hid (goodF_of L hL1 hL2)
        have hsum : ∀ W : World, (Op.stringOp .add ⟨L.toArray⟩ ⟨#[49]⟩).run Try.prog W = .ok (.string (⟨L.toArray⟩ ++ ⟨#[49]⟩)) W := fun W => run_string_add_sum W _ _ (by simp [ByteArray.size]; omega)
        clear hb6 B5 T5 F5 R5 K5 hL1 hL2
        generalize (⟨L.toArray⟩ ++ ⟨#[49]⟩ : ByteArray) = X at *
        have hown : w6.ownsRow w.heap.size 9 1 u6 fs.length (strVals fs) := F6.out
        obtain ⟨Av, cv, rfl⟩ := ownt_shape hown
        have hfs : fs.length ≤ 4 := by have := HFL.out; omega
        go_wp2_with (at_builtin; refine wpList_append_own _ rfl _ _ 32 rfl w.heap.size 9 i1 (.string ByteArray.empty) 1 16 Try.underlying32 hj hy0 hy1 hy2 rfl (by decide) _ _ _ rfl (hown.alloc _) ⟨w6.heap.size, 0, none⟩ 1 1 [.string X] rfl rfl ?_ ?_ ?_ ?_ ?_ ?_)
        all_goals first | exact c1_one _ _ _ | rfl | (intro u hu; simp at hu; subst hu; rfl) | (unfold maxLen; first | omega | (simp; omega)) | (first | omega | (simp; omega)) | (have := B6.out.size; simp at this ⊢; omega) | skip
        intro v7 w7 hown7 hgrow7 _
        have B7 := Lib.hid (below_app B6.out B6.out.size hown hgrow7)
        have F7 : Hid (OwnT w7 w.heap.size v7 (fs ++ [X])) := by
          show OwnT _ _ _ _
          unfold OwnT; rw [List.length_append, ← strVals_snoc]; exact hown7
        have T7 : Hid (Blk w7 w2.heap.size 25 (sV a b)) := by
          show Blk _ _ _ _
          exact (T6.out.alloc _).grown hgrow7 (Lib.ownBlock_ne hown T6.out (by decide))
        have G7 : Hid (∀ f ∈ fs ++ [X], goodF f) := by
          show ∀ f ∈ _, _
          intro f hf
          rcases List.mem_append.1 hf with hf | hf
          · exact HG.out f hf
          · simp at hf; subst hf; exact GT.out
        clear hown hown7 hgrow7 B6 T6 F6 hsum
        go_wp2_with fail
        go_roundw
        case rel => exact ⟨k + 1, fs ++ [X], by omega, by go_num, by simp; exact HFL.out, G7.out, F7.out, T7.out, B7.out⟩
        case measure => simp [intOf]; omega
      · have hlt' : ¬ (k : Int) ≤ (N : Int) := by omega
        have hp1 : 0 < fs.length := by have := HFL.out; omega
        have hp2 : fs.length ≤ 4 := by have := HFL.out; omega
        obtain ⟨⟨⟨f1, f2⟩, ⟨f3, f4⟩, -⟩, f5, -⟩ := framed_all AB.out hp1 hp2 HG.out (L := []) (by decide) rfl
        have HFB := Lib.hid (c_fb f1 f2 HG.out)
        have HD1 := Lib.hid (c_df (show (bsL a b fs).length ≤ 400 by omega) f3 f4)
        have HALL := Lib.hid (fun (L : List UInt8) h1 h2 => framed_all AB.out hp1 hp2 HG.out (L := L) h1 h2)
        have HBS := Lib.hid f5
        clear f1 f2 f3 f4 f5
        have FR := Lib.hid HO.out.rds
        clear HO
        have HR8 : Hid (∀ W, Below w.heap.size w W → Calls Try.prog 45 #[.slice A0 n0 c0, .int .i64 9] W fun e w' => ∃ L : List UInt8, e = .returned (.string ⟨L.toArray⟩) ∧ (L.length ≤ 9 ∧ inR 48 49 L = true) ∧ Below W.heap.size W w') := by
          show ∀ W, _
          exact fun W hb => r8Bits_any W _ l0 9 (by decide) (rdv_keepB HR0.out hb) HK0.out
        have HSF : Hid (∀ (L : List UInt8), (L.length ≤ 9 ∧ inR 48 49 L = true) → ∀ W, Calls Try.prog 18 #[.agg #[.int .i64 a, .int .i64 b], .string ⟨L.toArray⟩] W fun e w' => e = .returned (.tuple #[.string ⟨(stL a b L).toArray⟩, .bool true]) ∧ Below W.heap.size W w') := by
          show ∀ (L : List UInt8), _
          intro L hL W
          obtain ⟨⟨-, -, ⟨s1, s2⟩, -⟩, -⟩ := HALL.out L hL.1 hL.2
          exact c_st hL.1 s1 s2 W
        obtain ⟨q0, q1⟩ := sbl_two HT.out
        go_wp2_with fail
        refine (HFB.out _ _ FR.out).mono ?_; rintro e w8 ⟨rfl, hb8⟩
        have B8 := Lib.hid (HB.out.trans (hb8.mono HB.out.size))
        have T8 := Lib.hid (HT.out.keep hb8)
        have FR8 := Lib.hid (FR.out.keep hb8)
        clear q0 q1 hb8 HB HT FR HFB
        obtain ⟨q0, q1⟩ := sbl_two T8.out
        go_wp2_with fail
        refine (HD1.out _ _ (HMX.out _ B8.out)).mono ?_; rintro e w9 ⟨vl, rfl, hl9, hb9⟩
        have LL9 := Lib.hid hl9
        have B9 := Lib.hid (B8.out.trans (hb9.mono B8.out.size)).drew
        have FR9 := Lib.hid (FR8.out.keep hb9)
        have t0 := (T8.out.keep hb9).drew
        clear q0 q1 hb9 hl9 B8 T8 FR8 HD1
        obtain ⟨q0, q1⟩ := sbl_two t0
        go_wp2_with fail
        go_region_held3 (fun w' => w'.cell? ⟨w2.heap.size, 0, none⟩ = some (.int .i64 a) ∧ w'.cell? ⟨w2.heap.size, 1, none⟩ = some (.int .i64 b)) ((first | with_reducible exact sbl_two ta | with_reducible exact sbl_two t7 | with_reducible exact sbl_two t0 | fail))
          (first
            | (go_at_call 45; refine (HR8.out _ B9.out).mono ?_; rintro e u7 ⟨L, rfl, hL, hb7⟩; have HLL := Lib.hid hL; have t7 := t0.keep hb7; have B7 := Lib.hid (B9.out.trans (hb7.mono B9.out.size)); have LL7 := Lib.hid (RdS.keep (w := w9.drew) LL9.out hb7); have FR7 := Lib.hid (RdS.keep (w := w9.drew) FR9.out hb7); obtain ⟨q0, q1⟩ := sbl_two t7; clear hb7 hL)
            | (go_at_call 18; refine (HSF.out L HLL.out _).mono ?_; rintro e ua ⟨rfl, hba⟩; have ta := t7.keep hba; have BA := Lib.hid (B7.out.trans (hba.mono B7.out.size)); have LLA := Lib.hid (LL7.out.keep hba); have FRA := Lib.hid (FR7.out.keep hba); obtain ⟨q0, q1⟩ := sbl_two ta; clear hba)
            | fail)
        all_goals
          obtain ⟨⟨-, -, -, ⟨f6, f7⟩, ⟨f8, f9⟩⟩, -, f10⟩ := HALL.out L HLL.out.1 HLL.out.2
          have hbs := HBS.out
          have HD2 := Lib.hid (c_df (show (stL a b L ++ bsL a b fs).length ≤ 400 by rw [List.length_append]; omega) f6 f7)
          have HD3 := Lib.hid (c_df (show (stL a b L).length ≤ 400 by omega) f8 f9)
          have hsum : ∀ W : World, (Op.stringOp .add ⟨(stL a b L).toArray⟩ ⟨(bsL a b fs).toArray⟩).run Try.prog W = .ok (.string ⟨(stL a b L ++ bsL a b fs).toArray⟩) W := fun W => add_lists W _ _ (by omega)
          clear f6 f7 f8 f9 f10 hbs HALL HR8 HSF t0 t7 B9 B7 LL9 LL7 FR9 FR7
          go_wp2_with fail
          refine (HD2.out _ _ (HMX.out _ BA.out)).mono ?_; rintro e wb ⟨vo, rfl, hob, hbb⟩
          have OBb := Lib.hid hob
          have Bb := Lib.hid (BA.out.trans (hbb.mono BA.out.size))
          have tb := ta.keep hbb
          have LLb := Lib.hid (LLA.out.keep hbb)
          have FRb := Lib.hid (FRA.out.keep hbb)
          clear hob hbb q0 q1 ta BA LLA FRA HD2 hsum
          obtain ⟨q0, q1⟩ := sbl_two tb
          go_wp2_with fail
          refine (HD3.out _ _ (HMX.out _ Bb.out)).mono ?_; rintro e wc ⟨ve, rfl, hec, hbc⟩
          have Bc := Lib.hid (Bb.out.trans (hbc.mono Bb.out.size))
          have LLc := Lib.hid (LLb.out.keep hbc)
          have FRc := Lib.hid (FRb.out.keep hbc)
          have OBc := Lib.hid (OBb.out.keep hbc)
          obtain ⟨Ae, ce, rfl⟩ := rds_sh hec
          clear hec hbc q0 q1 tb Bb LLb FRb OBb HD3
          go_wp2_with fail
          refine (rds_same _ _ _ fs LLc.out FRc.out).mono ?_; rintro e wd ⟨rfl, qd, rfl⟩
          go_wp2_with fail
          refine (rds_same _ _ _ fs (OBc.out.drewN qd) (FRc.out.drewN qd)).mono ?_; rintro e we ⟨rfl, qe, rfl⟩
          go_wp2_with fail
          go_ret
          exact ⟨rfl, by first | exact below_drewN Bc.out _ | exact below_drewN (below_drewN Bc.out _) _⟩
end Go.Proofs.Ytllkojakeoennaa
