/- The program's LevelsOf. -/
import Derived.Test.YtmhdjimdhcephaaLvC
import Derived.Test.YtmhdjimdhcephaaBits
import Derived.Deep.RegionHeld3
namespace Go.Proofs.Ytmhdjimdhcephaa
open Go Go.RowKit
set_option linter.unusedVariables false

theorem lo_no {kind : Int} {l : List UInt8} (h : kdB kind = false ∨ isB l = false) : loOk kind l = false ∧ loV kind l = [] := by
  have e : loOk kind l = false := by
    unfold loOk
    rcases h with h | h
    · rw [h]; rfl
    · unfold isB at h; rw [h]; simp
  exact ⟨e, by unfold loV; rw [e]; rfl⟩
theorem lo_yes {kind : Int} {l : List UInt8} (h1 : kdB kind = true) (h2 : isB l = true) : loOk kind l = true ∧ loV kind l = lvL kind.toNat l l.length := by
  have e : loOk kind l = true := by
    unfold loOk
    unfold isB at h2
    rw [h1, h2]; rfl
  exact ⟨e, by unfold loV; rw [e]; rfl⟩
theorem isB_lenL {s : ByteArray} (h : isB s.data.toList = true) : s.size ≤ 400 := by
  unfold isB at h
  have h2 := of_decide_eq_true (Bool.and_eq_true_iff.1 h).1
  simpa using h2
theorem isB_at {s : ByteArray} (h : isB s.data.toList = true) (i : Nat) (hi : i < s.size) : s[i] = 48 ∨ s[i] = 49 := by
  unfold isB at h
  have h2 := (Bool.and_eq_true_iff.1 h).2
  obtain ⟨h4, h5⟩ := inR_at 48 49 s i hi h2
  generalize s[i] = b at h4 h5 ⊢
  have : b.toNat = 48 ∨ b.toNat = 49 := by
    omega
  rcases this with h | h
  · exact .inl (UInt8.toNat_inj.1 h)
  · exact .inr (UInt8.toNat_inj.1 h)
theorem byte_49 (b : UInt8) : ((b.toNat : Int) == 49) = (b == 49) := by
  by_cases h : b = 49
  · subst h; rfl
  · have h1 : ((b.toNat : Int) == 49) = false := beq_f (by intro e; apply h; apply UInt8.toNat_inj.1; show b.toNat = 49; omega)
    have h2 : (b == 49) = false := by simpa using h
    rw [h1, h2]
set_option maxRecDepth 100000 in
set_option maxHeartbeats 4000000 in
theorem levels_main {κ : Nat} (hκ : κ ≤ 5) (s : ByteArray) (w : World) (hs : s.size ≤ maxLen) (hB : isB s.data.toList = true) :
    Calls Try.prog 30 #[.int .i64 (κ : Int), .string s] w fun e w' => ∃ u, e = .returned (.tuple #[u, .bool true]) ∧ Own w' w.heap.size u (lvL κ s.data.toList s.size) ∧ Below w.heap.size w w' := by
  obtain ⟨i0, hi, hz0, hz1, hz2⟩ := info_parts Try.infoInt
  have hsz : s.size ≤ 400 := isB_lenL hB
  have HBS : Hid (∀ i (h : i < s.size), s[i] = 48 ∨ s[i] = 49) := fun i h => isB_at hB i h
  have HW := Lib.hid (fun W => wire_yes hκ W)
  have HIB := Lib.hid (fun W => isBits_any s W hs)
  rw [hB] at HIB
  have HLK := Lib.hid (kL_look hκ)
  have HLO := Lib.hid (kL_of hκ)
  have HLE := Lib.hid (kL_enter hκ)
  clear hB hs hκ
  generalize kT κ = T at *
  generalize kLF κ = F at *
  go_enter Try.func30, Try.ntmps30
  go_wp2_with fail
  refine (HW.out _).mono ?_; rintro e w1 ⟨rfl, hb1⟩
  have BX := Lib.hid (Bk.new w1 [.iface T (.agg #[]), .int .i64 (stE κ).1, .int .i64 (stE κ).2] 60 w1.heap.size rfl)
  have BB := Lib.hid (hb1.alloc hb1.size (.cells #[.iface T (.agg #[]), .int .i64 (stE κ).1, .int .i64 (stE κ).2] 60))
  have HSZ := Lib.hid hb1.size
  obtain ⟨W2, hW2⟩ : ∃ W2, W2 = w1.alloc (.cells #[.iface T (.agg #[]), .int .i64 (stE κ).1, .int .i64 (stE κ).2] 60) := ⟨_, rfl⟩
  have HE : Hid (w1.heap.size < W2.heap.size) := by show _ < _; rw [hW2]; simp
  rw [← hW2] at BB
  have BX2 : Hid (Bk W2 w1.heap.size [.iface T (.agg #[]), .int .i64 (stE κ).1, .int .i64 (stE κ).2]) := by show Bk _ _ _; rw [hW2]; exact BX.out
  have HW2 := Lib.hid hW2
  clear hW2 hb1 BX
  go_wp2_with fail
  rw [← HW2.out]
  refine (HIB.out _).mono ?_; rintro e w3 ⟨rfl, hb3⟩
  have B3 := Lib.hid (BB.out.trans (hb3.mono BB.out.size))
  have X3 := Lib.hid (BX2.out.keep hb3)
  have E3 := Lib.hid (Nat.lt_of_lt_of_le HE.out hb3.size)
  clear hb3 BB BX2 HE
  generalize hg : w1.heap.size = g at *
  go_wp2_with fail
  go_loopw [8, 25] (fun v i wr => ∃ k : Nat, k ≤ s.size ∧ i = .int .i64 k ∧ Own wr w3.heap.size v (lvL κ s.data.toList k) ∧ Bk wr g [.iface T (.agg #[]), .int .i64 (lvS κ s.data.toList k).1, .int .i64 (lvS κ s.data.toList k).2] ∧ Below w.heap.size w wr ∧ w3.heap.size ≤ wr.heap.size) (fun _ i _ => s.size - (intOf i).toNat)
  case atStart => exact ⟨0, Nat.zero_le _, rfl, World.ownsRow_nil _ _ _ _, X3.out, B3.out, Nat.le_refl _⟩
  case round =>
    obtain ⟨k, hk, rfl, ho, hx, hb, hz⟩ := hrel
    have HO := Lib.hid ho
    have HX := Lib.hid hx
    have HB := Lib.hid hb
    have HZ := Lib.hid hz
    clear ho hx hb hz
    by_cases hlt : k < s.size
    · have hk0 : (0 : Int) ≤ (k : Int) := by omega
      have hk1 : (k : Int) < (s.size : Int) := by omega
      have c0 := HX.out.c 0 _ rfl
      have c1 := HX.out.c 1 _ rfl
      have c2 := HX.out.c 2 _ rfl
      have hm := HLK.out
      have hen := HLE.out
      have hgd : s.data.toList.getD k 0 = s[k] := by
        rw [List.getD_eq_getElem?_getD, List.getElem?_eq_getElem (by simpa using hlt)]; rfl
      have hbit : ((s[k].toNat : Int) = 48 ∨ (s[k].toNat : Int) = 49) := by
        rcases HBS.out k hlt with h | h
        · rw [h]; exact .inl rfl
        · rw [h]; exact .inr rfl
      obtain ⟨t1, t2⟩ := lvS_tri κ s.data.toList k
      have HCC := Lib.hid (fun W => HLO.out (s[k].toNat : Int) _ _ W hbit t1 t2)
      have HLS : Hid (lvL κ s.data.toList (k + 1) = lvL κ s.data.toList k ++ lsK κ ((s[k].toNat : Int) == 49) (lvS κ s.data.toList k).1 (lvS κ s.data.toList k).2) := by
        show _ = _
        rw [lvL, hgd, byte_49]
      have HSS : Hid (lvS κ s.data.toList (k + 1) = psE (lsK κ ((s[k].toNat : Int) == 49) (lvS κ s.data.toList k).1 (lvS κ s.data.toList k).2) ((lvS κ s.data.toList k).1, (lvS κ s.data.toList k).2)) := by
        show _ = _
        rw [lvS, hgd, byte_49]
      have hln := lsK_len κ ((s[k].toNat : Int) == 49) (lvS κ s.data.toList k).1 (lvS κ s.data.toList k).2
      have hwd := wdK_bd κ
      have hll := lvL_len κ s.data.toList k
      have hl8 : k * wdK κ ≤ 800 := Nat.le_trans (Nat.mul_le_mul (show k ≤ 400 by omega) hwd.2) (by decide)
      obtain ⟨A1, cc1, hv1⟩ := own_shape HO.out
      subst hv1
      clear hgd hbit t1 t2
      generalize lsK κ ((s[k].toNat : Int) == 49) (lvS κ s.data.toList k).1 (lvS κ s.data.toList k).2 = ls at *
      generalize (lvS κ s.data.toList k).1 = a at *
      generalize (lvS κ s.data.toList k).2 = m at *
      generalize hL : lvL κ s.data.toList k = L at *
      clear hL
      have HLN : Hid (1 ≤ ls.length ∧ ls.length ≤ 2 ∧ L.length ≤ 800) := ⟨by omega, by omega, by omega⟩
      clear hln hwd hll hl8
      go_wp2_with fail
      go_region_with (refine (HCC.out _).mono ?_; rintro e w4 ⟨u, rfl, hu, hb4⟩; have HU := Lib.hid hu; have O4 := Lib.hid ((HO.out.keep ((Below.refl _ _).drew)).keep hb4); have X4 := Lib.hid ((HX.out.keep ((Below.refl _ _).drew)).keep hb4); have B4 := Lib.hid (HB.out.drew.trans (hb4.mono HB.out.drew.size)); have Z4 : Hid (wr.heap.size ≤ w4.heap.size) := Nat.le_trans ((Below.refl wr.heap.size wr).drew).size hb4.size; have D4 : Hid (wr.heap.size ≤ wr.drew.heap.size) := ((Below.refl wr.heap.size wr).drew).size; clear hu hb4)
      all_goals
        obtain ⟨g2, cp2, hv, h2a, h2b, -, -⟩ := own_some HU.out (by have := HLN.out; omega)
        subst hv
        have hzz := HZ.out
        have hz4 := Z4.out
        have hd4 := D4.out
        have he3 := E3.out
        have hls := HLN.out
        have hvb : ∀ k, (Value.slice A1 L.length cc1).ownBlock = some k → w3.heap.size ≤ k ∧ k < wr.heap.size := fun k hk => World.ownsRow.lt HO.out k hk
        have HVB := Lib.hid hvb
        clear hvb
        go_wp2_with (at_builtin; refine wpList_append_lies _ rfl _ _ 22 rfl w3.heap.size 2 i0 (.int .i64 0) 1 8 Try.underlying22 hi hz0 hz1 hz2 rfl (by decide) _ _ _ rfl O4.out ⟨g2, 0, none⟩ ls.length cp2 (intVals ls) rfl (by rw [intVals_length, Nat.mul_one]) (own_cellsL HU.out) (intVals_one ls) (by omega) (by unfold maxLen; omega) (by omega) (by omega) w4.heap.size rfl ?_)
        intro g5 cap5 w5 hown5 hgrow5 hat5 hlt5
        have HO5 : Hid (Own w5 w3.heap.size (.slice (some ⟨g5, 0, none⟩) (L.length + ls.length) cap5) (lvL κ s.data.toList (k + 1))) := by
          show Own _ _ _ _
          unfold Own
          rw [HLS.out, List.length_append, intVals_app]; exact hown5
        have HB5 := Lib.hid (B4.out.grown hgrow5 B4.out.size (fun k hk => by have := (HVB.out k hk).1; have := B3.out.size; omega))
        have HX5 := Lib.hid (X4.out.gb hgrow5 (fun k hk => by have := (HVB.out k hk).1; omega))
        have HU5 := Lib.hid (own_gb HU.out hgrow5 (fun k hk e => by have := (HVB.out k e).2; simp [Value.ownBlock] at hk; omega))
        have HZ5 : Hid (w3.heap.size ≤ w5.heap.size) := Nat.le_trans (Nat.le_trans hzz hz4) hgrow5.size
        have HAW : Hid (Aw (.slice (some ⟨g2, 0, none⟩) ls.length cp2) g) := by
          show Aw _ _
          intro b o n c e
          injection e with e _ _
          injection e with e
          injection e with e _ _
          omega
        clear hown5 hgrow5 hat5 hlt5 O4 X4 B4
        go_wp2_with fail
        refine (pass_any _ g _ _ _ _ ls HX5.out HU5.out.rd HAW.out hls.2.1).mono ?_; rintro e w6 ⟨rfl, hx6, hg6⟩
        rw [← HSS.out] at hx6
        have HO6 := Lib.hid (own_gb HO5.out hg6 (fun k hk e => by have := (World.ownsRow.lt HO5.out k hk).1; injection e with e; omega))
        have HX6 := Lib.hid hx6
        have HB6 := Lib.hid (HB5.out.grown hg6 HB5.out.size (fun k hk => by injection hk with hk; have := HSZ.out; omega))
        have HZ6 : Hid (w3.heap.size ≤ w6.heap.size) := Nat.le_trans HZ5.out hg6.size
        clear hx6 hg6 HO5 HX5 HB5 HU5
        go_wp2_with fail
        go_roundw
        case rel => exact ⟨k + 1, by omega, by go_num, HO6.out, HX6.out, HB6.out, HZ6.out⟩
        case measure => simp [intOf]; omega
    · obtain rfl : k = s.size := by omega
      go_wp2_with fail
      go_ret2
      exact ⟨_, rfl, HO.out.base B3.out.size, HB.out⟩
end Go.Proofs.Ytmhdjimdhcephaa
