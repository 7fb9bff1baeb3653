/- The model's l06Descramble and SelfDescramble. -/
import Derived.Test.YtddlpbpcdjddpaaSbs
import Derived.Test.YtddlpbpcdjddpaaApp
namespace Go.Proofs.Ytddlpbpcdjddpaa
open Go Go.RowKit
set_option linter.unusedVariables false
theorem apN_other {wr w1 : World} {base : Nat} {u v : Value} {q : List Nat} {o : Obj} (hu : OwnN wr base u q) (ha : Apart u v) (hg : (wr.alloc o).grownBy w1 v.ownBlock) : OwnN w1 base u q := by
  refine World.ownsRow.kept (World.ownsRow.alloc hu o) hg ?_
  cases hb : u.ownBlock with
  | none => exact .inl rfl
  | some k => exact .inr fun e => ha k hb e.symm
theorem apN_apart {wr : World} {base H g n cap : Nat} {u v : Value} {q : List Nat} (hu : OwnN wr base u q) (ha : Apart u v) (hat : v.ownBlock = some g ∨ g = H) (hH : wr.heap.size ≤ H) : Apart u (.slice (some ⟨g, 0, none⟩) n cap) := by
  intro k h1 h2
  simp [Value.ownBlock] at h2
  subst h2
  rcases hat with h | h
  · exact ha g h1 h
  · have := (World.ownsRow.lt hu g h1).2
    omega
set_option maxRecDepth 100000 in
set_option maxHeartbeats 2000000 in
theorem l06Descramble_any (w : World) (b0 : Nat) (v : Value) (l : List Int) (s g : ByteArray) (hok : scOk l s.data.toList = true) (hok2 : isB g.data.toList = true) (hbk : Bk w b0 (scV v s)) (h : Rd w v l) :
    Calls Try.prog 40 #[.pointer (some ⟨b0, 0, none⟩), .string g] w fun e w' => e = .returned (.string ⟨(scbL true l s.data.toList g.data.toList).toArray⟩) ∧ Below w.heap.size w w' := by
  obtain ⟨i0, hi, hz0, hz1, hz2⟩ := info_parts Try.infoByte
  have HBK := Lib.hid hbk
  have HRD := Lib.hid h
  obtain ⟨A1, c1, rfl⟩ := rd_shp h
  obtain ⟨n1, hn1⟩ : ∃ n1, n1 = l.length := ⟨_, rfl⟩
  rw [← hn1] at HBK HRD
  clear h hbk hn1
  obtain ⟨hp1, hp2, hp3⟩ := scOk_parts hok
  obtain ⟨hp4, hp5⟩ := isB_r hp2
  have hwid : wid l ≤ ((stQ s.data.toList).length : Int) := by rw [stQ_len]; omega
  have hQ := stQ_bits hp5
  have hsz : (stQ s.data.toList).length = s.size := by rw [stQ_len]; simp
  have hpw := tpOk_wid hp1
  have hs16 : s.size ≤ 16 := by
    have : (s.data.toList.length : Int) = s.size := by simp
    omega
  obtain ⟨hp6, hp7⟩ := isB_r hok2
  have hgs : g.size ≤ 400 := by simpa using hp6
  have HBF := Lib.hid (fun W => l06Before_any W s (by omega) hp5)
  have HIN := Lib.hid (fun k hk => inR_at 48 49 g k hk hp7)
  have HOK := Lib.hid (fun k => scF_ok true l (stQ s.data.toList) hQ (gb (g.data.toList.take k)) (gb_bits (inR_take 48 49 g k hp7)))
  have HST := Lib.hid (fun k hk => scF_take true l (stQ s.data.toList) g k hk)
  have HALL := Lib.hid (fun k hk => take_all g k hk)
  have HSU := Lib.hid (fun W v u (q : List Nat) hq hw h h2 => l06Sum_any W v u l q hp1 hq hw h h2)
  have HSL := Lib.hid (fun (q : List Nat) (hq : bitsN q) => sm_le hq l)
  have HWI := Lib.hid hwid
  have HTX := Lib.hid (fun W v (M : List Nat) hM hl h => l06Text_any W v M hM hl h)
  have HL : Hid (scbL true l s.data.toList g.data.toList = tx (scF true l (stQ s.data.toList) (gb g.data.toList)).2) := rfl
  have HSZ := Lib.hid hsz
  generalize scbL true l s.data.toList g.data.toList = LL at *
  clear hok hok2 hp1 hp2 hp3 hp4 hp5 hp6 hp7 hwid hQ hpw hsz
  generalize stQ s.data.toList = Q at *
  go_enter Try.func40, Try.ntmps40
  obtain ⟨q0, q1⟩ := sc_all HBK.out
  go_wp2_with fail
  refine (HBF.out _).mono ?_; rintro e w3 ⟨v3, rfl, ho3, hb3⟩
  clear q0 q1
  have HO3 := Lib.hid ho3
  have HB3 := Lib.hid hb3
  have HLU : Hid (b0 < w.heap.size) := HBK.out.2.2
  clear ho3 hb3
  go_wp2_with fail
  have HAP0 : Hid (Apart v3 (.slice (some ⟨w3.heap.size, 0, none⟩) 0 0)) := by
    show Apart _ _
    intro k h1 h2
    have := (World.ownsRow.lt HO3.out k h1).2
    simp [Value.ownBlock] at h2
    omega
  have ho30 : OwnN (w3.alloc (.cells #[] 5)) w.heap.size v3 Q := World.ownsRow.alloc HO3.out _
  have hou : OwnN (w3.alloc (.cells #[] 5)) w.heap.size (.slice (some ⟨w3.heap.size, 0, none⟩) 0 0) [] := own_low (World.ownsRow_made w3 #[] 0 (Nat.le_refl _) (by decide) rfl : OwnN _ _ _ []) HB3.out.size
  have hbo : Below w.heap.size w (w3.alloc (.cells #[] 5)) := HB3.out.alloc HB3.out.size _
  have HOI := Lib.hid (And.intro ho30 (And.intro hou hbo))
  clear ho30 hou hbo
  go_loopw [5, 6, 7] (fun u t i wr => ∃ (k : Nat) (q M : List Nat), k ≤ g.size ∧ i = .int .i64 k ∧ scF true l Q (gb (g.data.toList.take k)) = (q, M) ∧ OwnN wr w.heap.size u q ∧ OwnN wr w.heap.size t M ∧ Apart u t ∧ Below w.heap.size w wr) (fun _ _ i _ => g.size - (intOf i).toNat)
  case atStart => exact ⟨0, Q, [], Nat.zero_le _, rfl, rfl, HOI.out.1, HOI.out.2.1, HAP0.out, HOI.out.2.2⟩
  case round =>
    obtain ⟨k, q, M, hk, rfl, hst, hown, hout, hap, hbw⟩ := hrel
    have hok := HOK.out k
    rw [hst] at hok
    obtain ⟨o1, o2, o3, o4⟩ := hok
    simp only at o1 o2 o3 o4
    rw [gb_len] at o3 o4
    have HM := Lib.hid hst
    have hlen : q.length ≤ 416 := by rw [o3, List.length_take, HSZ.out]; simp; omega
    have hlenM : M.length ≤ 416 := by rw [o4, List.length_take]; omega
    have HO1 := Lib.hid o1
    have HO2 := Lib.hid o2
    have HO3L := Lib.hid o3
    have HO4L := Lib.hid o4
    have HWL : Hid (wid l ≤ (q.length : Int)) := by show _ ≤ _; have := HWI.out; omega
    have hz := HSL.out q o1
    clear hst o1 o2 o3 o4 HOI
    by_cases hlt : k < g.size
    · have hST := HST.out k hlt
      rw [HM.out] at hST
      have hIN := HIN.out k hlt
      have hk0 : (0 : Int) ≤ (k : Int) := by omega
      have hk1 : (k : Int) < (g.size : Int) := by omega
      obtain ⟨y, hy⟩ : ∃ y, g[k].toNat = y := ⟨_, rfl⟩
      rw [hy] at hST hIN
      obtain ⟨x, rfl⟩ : ∃ x, y = x + 48 := ⟨y - 48, by omega⟩
      have hx : x ≤ 1 := by omega
      rw [show x + 48 - 48 = x from by omega] at hST
      have HT := Lib.hid hST
      have hcv : (((x + 48 : Nat) : Int) - 48) % 256 = (x : Int) := by omega
      obtain ⟨z, hz2⟩ : ∃ z, sm l q = z := ⟨_, rfl⟩
      have HZ := Lib.hid hz2
      rw [hz2] at hz
      have hxo := u8_xor hx hz
      obtain ⟨m, hm⟩ : ∃ m, x ^^^ z = m := ⟨_, rfl⟩
      have HMM := Lib.hid hm
      rw [hm] at hxo
      have hwx : IntKind.u8.wrap (x : Int) = (x : Int) := by simp [IntKind.wrap, IntKind.signed, IntKind.bits]; omega
      have hbd : Below w.heap.size w wr.drew := hbw.drew
      have hkd := HBK.out.keep hbd
      have hrd := HRD.out.keep hbd
      obtain ⟨q0, q1⟩ := sc_all hkd
      have HC := Lib.hid (HSU.out wr.drew _ _ q HO1.out HWL.out hrd (OwnN.rdn (w := wr.drew) hown))
      rw [HZ.out] at HC
      have HBD := Lib.hid hbd
      have HOD : Hid (OwnN wr.drew w.heap.size u5 q) := hown
      have HUD : Hid (OwnN wr.drew w.heap.size u6 M) := hout
      have HAP := Lib.hid hap
      clear hkd hrd hbd hbw hST hIN hz2 hm hown hout hap
      go_wp2_with fail
      go_region_law ((first
        | (go_simp; go_at_call 51; refine (HC.out).mono ?_; rintro e w' ⟨rfl, rfl⟩)
        | (refine step_append_lies _ rfl _ _ 41 (by rfl) w.heap.size 5 i0 (.int .u8 0) 1 1 Try.underlying41 hi hz0 hz1 hz2 rfl (by decide) _ M.length _ (by rfl) (World.ownsRow.alloc HUD.out _) ⟨wr.heap.size, 0, none⟩ 1 1 [.int .u8 (m : Int)] (by rfl) rfl (by exact c1_one _ _ _) (by intro u hu; simp at hu; subst hu; rfl) (by decide) (by unfold maxLen; omega) (by omega) (by have := HBD.out.size; simp at this ⊢; omega) (wr.heap.size + 1) (by simp) ?_; intro g9 cap w9 hown9 hgrow hat hlt9)))
      all_goals
        have HB9 := Lib.hid (below_app (w1 := w9) HBD.out HBD.out.size HUD.out hgrow)
        have HM9 : Hid (OwnN w9 w.heap.size (.slice (some ⟨g9, 0, none⟩) (M.length + 1) cap) (M ++ [m])) := ownN_snoc hown9
        have HQ9 : Hid (OwnN w9 w.heap.size u5 q) := apN_other HOD.out HAP.out hgrow
        have HA9 : Hid (Apart u5 (.slice (some ⟨g9, 0, none⟩) (M.length + 1) cap)) := apN_apart (wr := wr.drew) HOD.out HAP.out hat (by simp)
        clear hown9 hgrow hat hlt9 hxo q0 q1
        go_wp2_with (at_builtin; refine wpList_append_lies _ rfl _ _ 41 rfl w.heap.size 5 i0 (.int .u8 0) 1 1 Try.underlying41 hi hz0 hz1 hz2 rfl (by decide) _ _ _ rfl (World.ownsRow.alloc HQ9.out _) ⟨w9.heap.size, 0, none⟩ 1 1 [.int .u8 (x : Int)] rfl rfl ?c1 ?c2 (by decide) ?c3 ?c4 ?c5 (w9.heap.size + 1) (by simp) ?_)
        case c1 => exact c1_one _ _ _
        case c2 => intro u hu; simp at hu; subst hu; rfl
        case c3 => unfold maxLen; omega
        case c4 => omega
        case c5 => have := HB9.out.size; simp; omega
        intro g8 cap8 w8 hown8 hgrow8 hat8 hlt8
        have HB8 := Lib.hid (below_app (w1 := w8) HB9.out HB9.out.size HQ9.out hgrow8)
        have HQ8 : Hid (OwnN w8 w.heap.size (.slice (some ⟨g8, 0, none⟩) (q.length + 1) cap8) (q ++ [x])) := ownN_snoc hown8
        have HM8 : Hid (OwnN w8 w.heap.size (.slice (some ⟨g9, 0, none⟩) (M.length + 1) cap) (M ++ [m])) := apN_other HM9.out HA9.out.symm hgrow8
        have HA8 : Hid (Apart (.slice (some ⟨g8, 0, none⟩) (q.length + 1) cap8) (.slice (some ⟨g9, 0, none⟩) (M.length + 1) cap)) := (apN_apart HM9.out HA9.out.symm hat8 (by simp)).symm
        clear hown8 hgrow8 hat8 hlt8 hcv hwx
        go_wp2_with fail
        go_roundw
        case rel =>
          refine ⟨k + 1, q ++ [x], M ++ [m], by omega, by go_num, ?_, HQ8.out, HM8.out, HA8.out, HB8.out⟩
          rw [HT.out]
          unfold scG
          simp only [HZ.out, HMM.out]
          rfl
        case measure => simp [intOf]; omega
    · have hst := HM.out
      rw [HALL.out k hlt] at hst
      have hll := HL.out
      rw [hst] at hll
      simp only at hll
      have HLL := Lib.hid hll
      have HUD := Lib.hid hout.rdn
      have HBW := Lib.hid hbw
      clear hst hll hown hout hap hbw
      go_wp2_with fail
      refine (HTX.out _ _ M HO2.out (by omega) HUD.out).mono ?_; rintro e w9 ⟨rfl, hb9⟩
      have B9 := Lib.hid (HBW.out.trans (hb9.mono HBW.out.size))
      clear hb9
      go_wp2_with fail
      go_ret
      exact ⟨by rw [HLL.out]; rfl, B9.out⟩
end Go.Proofs.Ytddlpbpcdjddpaa
