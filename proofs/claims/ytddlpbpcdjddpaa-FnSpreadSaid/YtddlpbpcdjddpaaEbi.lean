/- The program's ErrorsBehind. -/
import Derived.Test.YtddlpbpcdjddpaaEbP
import Derived.Test.YtddlpbpcdjddpaaScd
import Derived.Lib.OthersKept
namespace Go.Proofs.Ytddlpbpcdjddpaa
open Go Go.RowKit
set_option linter.unusedVariables false

theorem fB_pos {l : List Int} (hl : ∀ t ∈ l, 0 ≤ t) (g : List UInt8) (k : Nat) : ∀ x, fB l g k x = true → 0 ≤ x := by
  intro x hx
  refine Classical.byContradiction fun hn => ?_
  have e : ∀ y, y < 0 → eb g k y = false := fun y hy => by unfold eb; rw [decide_eq_false (by omega)]; rfl
  have : ∀ (l : List Int) (a : Bool), (∀ t ∈ l, 0 ≤ t) → l.foldl (fun a t => Bool.xor a (eb g k (x - t))) a = a := by
    intro l
    induction l with
    | nil => intro a _; rfl
    | cons t l ih =>
      intro a h
      show l.foldl _ (Bool.xor a (eb g k (x - t))) = a
      have := h t (List.mem_cons_self ..)
      rw [e (x - t) (by omega), Bool.xor_false]
      exact ih a (fun t ht => h t (List.mem_cons_of_mem _ ht))
  unfold fB at hx
  rw [this l _ hl, e x (by omega)] at hx
  cases hx
def erV (l : List Int) (s g : List UInt8) : ByteArray := if scbOk l s g then ⟨(pbL (fB l g g.length) g.length).toArray⟩ else ⟨#[]⟩
theorem erV_no {l : List Int} {s g : List UInt8} (h : scbOk l s g = false) : erV l s g = ⟨#[]⟩ := by unfold erV; rw [h]; rfl
theorem erV_yes {l : List Int} {s g : List UInt8} (h : scbOk l s g = true) : erV l s g = ⟨(pbL (fB l g g.length) g.length).toArray⟩ := by unfold erV; rw [h]; rfl
theorem bk_grown {W W' : World} {b m : Nat} {cs : List Value} (h : Bk W b cs) (hg : W.grownBy W' (some m)) (hn : b ≠ m) : Bk W' b cs := by
  have e := hg.block b h.2.2 (fun x => hn (by injection x))
  exact ⟨fun i x hx => (World.cell?_of_block (a := ⟨b, i, none⟩) e).trans (h.1 i x hx), fun i hi => (World.frozen?_of_block (a := ⟨b, i, none⟩) e).trans (h.2.1 i hi), Nat.lt_of_lt_of_le h.2.2 hg.size⟩
theorem iter_gb (w : World) (k : Nat) (s : ByteArray) (p : Nat) : w.grownBy (w.iterAt k s p) (some k) :=
  ⟨rfl, rfl, rfl, by rw [Lib.iterAt_size]; exact Nat.le_refl _, fun j _ hn => Lib.iterAt_other w k j s p (fun e => hn (by rw [e]))⟩
/-- What the loops hold: an iterator behind the map mb, the set of places, the box of the scrambler. -/
structure EI (w : World) (v : Value) (s g : ByteArray) (mb pos n : Nat) (S : Int → Bool) (wr : World) : Prop where
  it : wr.heap[mb + 1]? = some (.stringIter g pos)
  ps : PS wr mb n S
  bx : Bk wr w.heap.size (scV v s)
  bel : Below w.heap.size w wr
  low : w.heap.size < mb
  siz : mb + 2 ≤ wr.heap.size
theorem EI.next {w wr : World} {v : Value} {s g : ByteArray} {mb pos n : Nat} {S : Int → Bool} (h : EI w v s g mb pos n S wr) (p : Nat) : EI w v s g mb p n S (wr.iterAt (mb + 1) g p) :=
  ⟨Lib.iterAt_heap _ _ _ _ _ h.it, h.ps.kept (iter_gb _ _ _ _) (fun e => by injection e with e; omega), bk_grown h.bx (iter_gb _ _ _ _) (by have := h.low; omega), Lib.below_iterAt h.bel (by have := h.low; omega) _ _, h.low, by rw [Lib.iterAt_size]; exact h.siz⟩
theorem EI.chg {w wr w' : World} {v : Value} {s g : ByteArray} {mb pos n n' : Nat} {S S' : Int → Bool} (h : EI w v s g mb pos n S wr) (hp : PS w' mb n' S') (hg : wr.grownBy w' (some mb)) : EI w v s g mb pos n' S' w' :=
  ⟨(hg.block (mb + 1) (by have := h.siz; omega) (fun e => by injection e with e; omega)).trans h.it, hp, bk_grown h.bx hg (by have := h.low; omega), h.bel.grown hg h.bel.size (fun j hj => by injection hj with hj; have := h.low; omega), h.low, Nat.le_trans h.siz hg.size⟩
theorem EI.start {w w1 : World} {v : Value} {s : ByteArray} (g : ByteArray) (hb : Bk w1 w.heap.size (scV v s)) (h : Below w.heap.size w w1) : EI w v s g w1.heap.size 0 0 (fun _ => false) ((w1.alloc (.map #[] 0)).alloc (.stringIter g 0)) := by
  refine ⟨?_, ?_, (hb.alloc _).alloc _, (h.alloc h.size _).alloc (by simp; have := h.size; omega) _, hb.2.2, by simp⟩
  · have := heap_alloc_new (w1.alloc (.map #[] 0)) (.stringIter g 0)
    simpa using this
  · exact (PS.made w1).kept (World.grownBy_alloc _ _ none) (by simp)
theorem isB_two {l : List UInt8} (h : isB l = true) : l.length ≤ 400 ∧ inR 48 49 l = true := by
  unfold isB at h
  have h' := Bool.and_eq_true_iff.1 h
  exact ⟨of_decide_eq_true h'.1, h'.2⟩
theorem make_places (W : World) : (Instr.makeMap 56 none).run Try.prog W = .ok (.map (some W.heap.size)) (W.alloc (.map #[] 0)) := by
  first | rfl | kernel_rfl | (simp [Instr.makeMap, go_sem, run_underlying Try.underlying56]; done)
theorem rd_at {w : World} {A : Option Addr} {n c : Nat} {l : List Int} (h : Rd w (.slice A n c) l) (j : Nat) (hj : j < l.length) : ∃ b o, A = some ⟨b, o, none⟩ ∧ w.cell? ⟨b, o + j, none⟩ = some (.int .i64 l[j]) := by
  obtain ⟨A', n', c', e, hn, -, -, h3⟩ := h
  cases e
  obtain ⟨b, o, ea, -, hc⟩ := h3 (by omega)
  exact ⟨b, o, ea, hc j hj⟩

set_option maxRecDepth 100000 in
set_option maxHeartbeats 4000000 in
theorem errors_impl (w : World) (v : Value) (l : List Int) (s g : ByteArray) (hb : ∀ n ∈ l, -9223372036854775808 ≤ n ∧ n ≤ 9223372036854775807) (hs : s.size ≤ maxLen) (hg : g.size ≤ maxLen) (h : Rd w v l) :
    Calls Try.prog 13 #[.agg #[v, .string s], .string g] w fun e w' =>
      e = .returned (.tuple #[.string (erV l s.data.toList g.data.toList), .bool (scbOk l s.data.toList g.data.toList)]) ∧ Below w.heap.size w w' := by
  obtain ⟨W0, hW0⟩ : ∃ W0, W0 = w.alloc (.cells #[v, .string s] 28) := ⟨_, rfl⟩
  have hB : Below w.heap.size w W0 := by rw [hW0]; exact (Below.refl _ _).alloc (Nat.le_refl _) _
  have HBK : Hid (Bk W0 w.heap.size (scV v s)) := by show Bk _ _ _; rw [hW0]; exact Bk.new w (scV v s) 28 _ rfl
  have HVS := Lib.hid (fun W h => validSc_impl W v l s hb hs h)
  have HIB := Lib.hid (fun W => isBits_any g W hg)
  have hE : scbOk l s.data.toList g.data.toList = (scOk l s.data.toList && isB g.data.toList) := rfl
  have HRW := Lib.hid h
  have HB0 := Lib.hid hB
  have HW := Lib.hid hW0
  obtain ⟨A1, c1, rfl⟩ := rd_shp h
  obtain ⟨n1, hn1⟩ : ∃ n1, n1 = l.length := ⟨_, rfl⟩
  rw [← hn1] at HBK HRW HVS HW ⊢
  clear h hB hW0
  cases hok : scOk l s.data.toList
  · rw [hok, Bool.false_and] at hE
    rw [erV_no hE, hE]
    have HOK := Lib.hid hok
    clear hE hok HIB hb hs hg hn1
    go_enter Try.func13, Try.ntmps13
    go_wp2_with fail
    rw [← HW.out]
    refine (HVS.out _ (HRW.out.keep HB0.out)).mono ?_; rintro e w1 ⟨rfl, hb1⟩
    have B1 := Lib.hid (HB0.out.trans (hb1.mono HB0.out.size))
    rw [HOK.out]
    clear hb1
    go_wp2_with fail
    go_ret2
    exact ⟨rfl, B1.out⟩
  · rw [hok, Bool.true_and] at hE
    cases hok2 : isB g.data.toList
    · rw [hok2] at hE HIB
      rw [erV_no hE, hE]
      have HOK := Lib.hid hok
      clear hE hok hok2 hb hs hg hn1
      go_enter Try.func13, Try.ntmps13
      go_wp2_with fail
      rw [← HW.out]
      refine (HVS.out _ (HRW.out.keep HB0.out)).mono ?_; rintro e w1 ⟨rfl, hb1⟩
      have B1 := Lib.hid (HB0.out.trans (hb1.mono HB0.out.size))
      rw [HOK.out]
      clear hb1
      go_wp2_with fail
      refine (HIB.out _).mono ?_; rintro e w2 ⟨rfl, hb2⟩
      have B2 := Lib.hid (B1.out.trans (hb2.mono B1.out.size))
      clear hb2 B1
      go_wp2_with fail
      go_ret2
      exact ⟨rfl, B2.out⟩
    · rw [hok2] at hE HIB
      rw [erV_yes hE, hE]
      have HOK := Lib.hid hok
      obtain ⟨htp, -, -⟩ := scOk_parts hok
      have hl16 : l.length ≤ 16 := tp_len (tpOk_parts htp).2.1 (tpOk_parts htp).2.2
      have htr : ∀ j (hj : j < l.length), 1 ≤ l[j] ∧ l[j] ≤ 16 := fun j hj => tpR_at (tpOk_parts htp).2.2 j hj
      obtain ⟨h400, hin⟩ := isB_two hok2
      have hsz : g.size ≤ 400 := h400
      have HTR := Lib.hid htr
      have HIN := Lib.hid hin
      have HSK := Lib.hid (fun k (h : k < g.data.toList.length) hg => @fB_skip l g.data.toList k h hg)
      have HAL := Lib.hid (fun k (h : k < g.data.toList.length) hg => @hK_all l g.data.toList k h hg)
      have HKS := Lib.hid (fun k j h => hK_succ l g.data.toList k j h)
      have HKZ := Lib.hid (fun k => hK_zero l g.data.toList k)
      have HF0 := Lib.hid (fB_start l g.data.toList)
      have HPO := Lib.hid (fB_pos (l := l) (fun t ht => by obtain ⟨j, hj, rfl⟩ := List.getElem_of_mem ht; have := htr j hj; omega) g.data.toList g.size)
      rw [show g.data.toList.length = g.size from rfl]
      have HN1 := Lib.hid hn1
      clear hE hok hok2 hb hs hg htp htr h400 hin hn1
      go_enter Try.func13, Try.ntmps13
      go_wp2_with fail
      rw [← HW.out]
      refine (HVS.out _ (HRW.out.keep HB0.out)).mono ?_; rintro e w1 ⟨rfl, hb1⟩
      have K1 := Lib.hid (HBK.out.keep hb1)
      have B1 := Lib.hid (HB0.out.trans (hb1.mono HB0.out.size))
      rw [HOK.out]
      clear hb1 HBK HB0 HW
      go_wp2_with fail
      refine (HIB.out _).mono ?_; rintro e w2 ⟨rfl, hb2⟩
      have K2 := Lib.hid (K1.out.keep hb2)
      have B2 := Lib.hid (B1.out.trans (hb2.mono B1.out.size))
      clear hb2 B1 K1 HVS HIB
      have HE0 := Lib.hid (EI.start g K2.out B2.out)
      have hmk := make_places
      go_wp2_with fail
      generalize w2.heap.size = mb at *
      go_loopw [7] (fun _ wr => ∃ (pos n : Nat), pos ≤ g.size ∧ n ≤ 17 * pos ∧ EI w (.slice A1 n1 c1) s g mb pos n (fB l g.data.toList pos) wr) (fun _ wr => g.size - wr.iterPos (mb + 1))
      case atStart => exact ⟨0, 0, Nat.zero_le _, by omega, by rw [HF0.out]; exact HE0.out⟩
      case round =>
        obtain ⟨pos, n, hpos, hn, hei⟩ := hrel
        have HEI := Lib.hid hei
        clear hei HE0 K2 B2
        by_cases hp : pos < g.size
        · have hcc : g[pos] = 48 ∨ g[pos] = 49 := by
            have := inR_at 48 49 g pos hp HIN.out
            rcases (show g[pos].toNat = 48 ∨ g[pos].toNat = 49 from by omega) with h | h
            · exact .inl (UInt8.toNat_inj.1 (by rw [h]; rfl))
            · exact .inr (UInt8.toNat_inj.1 (by rw [h]; rfl))
          have hasc : (g[pos]'hp).toNat < 128 := by rcases hcc with h | h <;> (rw [h]; decide)
          obtain ⟨W1, hW1⟩ : ∃ W1, W1 = wr.iterAt (mb + 1) g (pos + 1) := ⟨_, rfl⟩
          have E1 := Lib.hid (show EI w (.slice A1 n1 c1) s g mb (pos + 1) n (fB l g.data.toList pos) W1 from by rw [hW1]; exact HEI.out.next (pos + 1))
          rcases hcc with hc | hc
          · have hnx : ∀ ty, (Instr.next (.pointer (some ⟨mb + 1, 0, none⟩)) true ty).run Try.prog wr = .ok (.tuple #[.bool true, .int .i64 pos, .int .i32 48]) W1 := fun ty => by rw [hW1, Lib.run_next_ascii_at wr (mb + 1) g pos ty HEI.out.it hp hasc, hc]; rfl
            have hsk := HSK.out pos hp (by show g[pos] ≠ 49; rw [hc]; decide)
            have E2 := Lib.hid (show EI w (.slice A1 n1 c1) s g mb (pos + 1) n (fB l g.data.toList (pos + 1)) W1 from by rw [hsk]; exact E1.out)
            clear hW1 hasc hc hsk E1
            go_wp2_with fail
            go_roundw
            case rel => exact ⟨pos + 1, n, by omega, by omega, E2.out⟩
            case measure => simp only [World.iterPos, HEI.out.it, E2.out.it]; omega
          · have hnx : ∀ ty, (Instr.next (.pointer (some ⟨mb + 1, 0, none⟩)) true ty).run Try.prog wr = .ok (.tuple #[.bool true, .int .i64 pos, .int .i32 49]) W1 := fun ty => by rw [hW1, Lib.run_next_ascii_at wr (mb + 1) g pos ty HEI.out.it hp hasc, hc]; rfl
            have HA1 := Lib.hid (HAL.out pos hp hc)
            have HZ1 := Lib.hid (HKZ.out pos)
            have HS1 := Lib.hid (fun j h => HKS.out pos j h)
            clear hW1 hasc hc HSK HAL HKS HKZ
            go_wp2_with fail
            refine (change_any W1 mb n _ (pos : Int) E1.out.ps (by omega) (by unfold maxLen; omega)).mono ?_; rintro e w5 ⟨rfl, hps5, hg5⟩
            rw [← HZ1.out] at hps5
            have E5 := Lib.hid (E1.out.chg hps5 hg5)
            clear hps5 hg5 E1 hnx
            obtain ⟨qa, qb⟩ := sc_all E5.out.bx
            go_wp2_with fail
            go_loopw [34] (fun t wr => ∃ (j m : Nat), j ≤ l.length ∧ t = .int .i64 j ∧ m ≤ 17 * pos + 1 + j ∧ EI w (.slice A1 n1 c1) s g mb (pos + 1) m (hK l g.data.toList pos j) wr) (fun t _ => l.length - (intOf t).toNat)
            case atStart => exact ⟨0, n + 1, Nat.zero_le _, rfl, by omega, E5.out⟩
            case round =>
              clear E5 qa qb
              obtain ⟨j, m, hj, rfl, hm, hei⟩ := hrel
              have E6 := Lib.hid hei
              clear hei
              by_cases hlt : j < l.length
              · obtain ⟨ab, ao, rfl, hcl⟩ := rd_at (HRW.out.keep E6.out.bel) j hlt
                obtain ⟨x0, x1⟩ := HTR.out j hlt
                have HS2 := Lib.hid (HS1.out j hlt)
                have hj1 : (j : Int) < (n1 : Int) := by have := HN1.out; omega
                have hj0 : (0 : Int) ≤ (j : Int) := by omega
                obtain ⟨x, hx⟩ : ∃ x, x = l[j] := ⟨_, rfl⟩
                rw [← hx] at hcl x0 x1 HS2
                have wx : IntKind.i64.wrap ((pos : Int) + x) = (pos : Int) + x := IntWalk.i64_in _ (by omega)
                clear hx
                go_wp2_with fail
                refine (change_any _ mb m _ ((pos : Int) + x) E6.out.ps (by omega) (by unfold maxLen; omega)).mono ?_; rintro e w7 ⟨rfl, hps7, hg7⟩
                rw [← HS2.out] at hps7
                have E7 := Lib.hid (E6.out.chg hps7 hg7)
                clear hps7 hg7
                go_wp2_with fail
                go_roundw
                case rel => exact ⟨j + 1, m + 1, by omega, by go_num, by omega, E7.out⟩
                case measure => simp [intOf]; omega
              · obtain rfl : j = l.length := by omega
                have hnl : ¬ ((l.length : Nat) : Int) < (n1 : Int) := by have := HN1.out; omega
                have E8 := Lib.hid (show EI w (.slice A1 n1 c1) s g mb (pos + 1) m (fB l g.data.toList (pos + 1)) wr from by rw [← HA1.out]; exact E6.out)
                clear E6
                go_wp2_with fail
                go_roundw
                case rel => exact ⟨pos + 1, m, by omega, by omega, E8.out⟩
                case measure => simp only [World.iterPos, HEI.out.it, E8.out.it]; omega
        · obtain rfl : pos = g.size := by omega
          have hnx : ∀ ty, (Instr.next (.pointer (some ⟨mb + 1, 0, none⟩)) true ty).run Try.prog wr = _ := fun ty => Lib.run_next_end_at wr (mb + 1) g g.size ty HEI.out.it hp
          clear HSK HAL HKS HKZ
          go_wp2_with fail
          refine (bits_any wr mb n _ g.size HEI.out.ps HPO.out hsz).mono ?_; rintro e w6 ⟨rfl, hb6⟩
          have B6 := Lib.hid (HEI.out.bel.trans (hb6.mono HEI.out.bel.size))
          clear hb6
          go_wp2_with fail
          go_ret2
          exact ⟨rfl, B6.out⟩
end Go.Proofs.Ytddlpbpcdjddpaa
