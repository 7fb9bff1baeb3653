/- The program's SumRange. -/
import Derived.Test.YtijmfienaoeboabSrp
import Derived.Lib.OthersKept
import Derived.Test.YtijmfienaoeboabBl
namespace Go.Proofs.Ytijmfienaoeboab
open Go Go.RowKit Go.Shelf
set_option linter.unusedVariables false
attribute [local go_sem] Oper.semAt_some

theorem bk_kept {W W' : World} {row : Option Nat} {b : Nat} {cs : List Value} (h : Bk W b cs) (hg : W.grownBy W' row) (hr : ∀ r, row = some r → ∃ o : Obj, W.heap[r]? = some o ∧ o.isCells = false) : Bk W' b cs :=
  ⟨fun i x hx => cell_kept (h.1 i x hx) hg hr, fun i hi => (frozen_kept (h.1 i _ (List.getElem?_eq_getElem hi)) hg hr).trans (h.2.1 i hi), Nat.lt_of_lt_of_le h.2.2 hg.size⟩
theorem ret_iib {x y a b : Int} {c d : Bool} (h : x = y) (h1 : a = b) (h2 : c = d) : Ending.returned (.tuple #[.int .i64 x, .int .i64 a, .bool c]) = .returned (.tuple #[.int .i64 y, .int .i64 b, .bool d]) := by rw [h, h1, h2]

theorem hso (W : World) (a : Addr) (v : Value) (k : Nat) (h : k ≠ a.block) : (W.setCell a v).heap[k]? = W.heap[k]? := by
  show (W.heap.modify a.block _)[k]? = _
  rw [Array.getElem?_modify, if_neg (fun e => h e.symm)]
theorem Bk.blk {W W' : World} {b : Nat} {cs : List Value} (h : Bk W b cs) (e : W'.heap[b]? = W.heap[b]?) (hs : b < W'.heap.size) : Bk W' b cs :=
  ⟨fun i x hx => (World.cell?_of_block (a := ⟨b, i, none⟩) e).trans (h.1 i x hx), fun i hi => (World.frozen?_of_block (a := ⟨b, i, none⟩) e).trans (h.2.1 i hi), hs⟩
/-- What stands in a round of SumRange's loop: at pos in the word y. -/
structure SrB (w W : World) (kb B b : Nat) (wr : World) (s : Int) (y : ByteArray) (pos : Nat) (a0 b0 : Int) : Prop where
  it : wr.heap[kb]? = some (.stringIter y pos)
  b5 : Bk wr b [.int .i64 (loW s y.data.toList pos a0)]
  b6 : Bk wr (b + 1) [.int .i64 (hiW s y.data.toList pos b0)]
  ko : KeepsOthers W wr
  kp : KpW w.heap.size B W wr
  bel : Below w.heap.size w wr
  kbe : kb = W.heap.size
  bB : B ≠ b ∧ B ≠ b + 1 ∧ B < W.heap.size ∧ w.heap.size ≤ b ∧ b + 1 < W.heap.size
theorem SrB.enter {w W : World} {B b : Nat} (hbl : Below w.heap.size w W) (hB : B ≠ b ∧ B ≠ b + 1 ∧ B < W.heap.size ∧ w.heap.size ≤ b ∧ b + 1 < W.heap.size) {a0 b0 : Int} (k5 : Bk W b [.int .i64 a0]) (k6 : Bk W (b + 1) [.int .i64 b0]) (s : Int) (y : ByteArray) :
    SrB w W W.heap.size B b (W.iter y 0) s y 0 a0 b0 :=
  ⟨World.iter_heap _ _ _, k5.alloc _, k6.alloc _, KeepsOthers.alloc _ _, ⟨(Below.refl _ W).alloc hbl.size _, fun o e => (Below.heap_alloc _ _ _ (by omega)).trans e⟩, hbl.alloc hbl.size _, rfl, hB⟩
theorem SrB.next {w W wr : World} {kb B b : Nat} {s : Int} {y : ByteArray} {pos : Nat} {a0 b0 : Int} (h : SrB w W kb B b wr s y pos a0 b0) (p' : Nat) :
    Bk (wr.iterAt kb y p') b [.int .i64 (loW s y.data.toList pos a0)] ∧ Bk (wr.iterAt kb y p') (b + 1) [.int .i64 (hiW s y.data.toList pos b0)] ∧
    ∀ (a2 b2 : Int), a2 = loW s y.data.toList p' a0 → b2 = hiW s y.data.toList p' b0 → SrB w W kb B b (((wr.iterAt kb y p').setCell ⟨b, 0, none⟩ (.int .i64 a2)).setCell ⟨b + 1, 0, none⟩ (.int .i64 b2)).drew s y p' a0 b0 := by
  obtain ⟨it, k5, k6, ko, kp, bel, kbe, hB1, hB2, hB3, hB4, hB5⟩ := h
  have hkb : kb < wr.heap.size := (Array.getElem?_eq_some_iff.1 it).1
  have ho : ∀ j, j ≠ kb → (wr.iterAt kb y p').heap[j]? = wr.heap[j]? := fun j hj => Lib.iterAt_other wr kb j y p' hj
  have hs : (wr.iterAt kb y p').heap.size = wr.heap.size := Lib.iterAt_size wr kb y p'
  have k5' := k5.blk (ho b (by omega)) (by rw [hs]; exact k5.2.2)
  have k6' := k6.blk (ho (b + 1) (by omega)) (by rw [hs]; exact k6.2.2)
  have it' := Lib.iterAt_heap wr kb y pos p' it
  have ko' : KeepsOthers W (wr.iterAt kb y p') := ⟨by rw [hs]; exact ko.size, fun i o hi hc => (ho i (by have := (Array.getElem?_eq_some_iff.1 hi).1; omega)).trans (ko.same i o hi hc)⟩
  have kp' : ∀ o, W.heap[B]? = some o → (wr.iterAt kb y p').heap[B]? = some o := fun o e => (ho B (by omega)).trans (kp.2 o e)
  have bl1 := Lib.below_iterAt kp.1 (show w.heap.size ≤ kb by omega) y p'
  have bl2 := Lib.below_iterAt bel (show w.heap.size ≤ kb by omega) y p'
  generalize wr.iterAt kb y p' = V at *
  refine ⟨k5', k6', fun a2 b2 ea eb => ?_⟩
  subst ea eb
  refine ⟨?_, ?_, ?_, ?_, ⟨?_, ?_⟩, ?_, kbe, hB1, hB2, hB3, hB4, hB5⟩
  · exact (KeepsOthers.drew _).same _ _ ((KeepsOthers.setCell _ _ _).same _ _ ((KeepsOthers.setCell _ _ _).same _ _ it' rfl) rfl) rfl
  · exact ((k5'.set 0 (by simp) _).far _ (by simp) _).drew
  · exact ((k6'.far _ (by simp) _).set 0 (by simp) _).drew
  · exact ((ko'.trans (KeepsOthers.setCell _ _ _)).trans (KeepsOthers.setCell _ _ _)).trans (KeepsOthers.drew _)
  · exact ((bl1.setCell (p := ⟨b, 0, none⟩) hB4 _).setCell (p := ⟨b + 1, 0, none⟩) (by simp; omega) _).drew
  · intro o e
    exact (hso _ _ _ _ hB2).trans ((hso _ _ _ _ hB1).trans (kp' o e))
  · exact ((bl2.setCell (p := ⟨b, 0, none⟩) hB4 _).setCell (p := ⟨b + 1, 0, none⟩) (by simp; omega) _).drew

set_option maxRecDepth 100000 in
set_option maxHeartbeats 2000000 in
theorem sumRange_impl (w : World) (d wd : Int) (vm vp : Value) (m p : List ByteArray) (hm : RdS w vm m) (hp : RdS w vp p) (sm : ∀ s ∈ m, s.size ≤ 4000000) (sp : ∀ s ∈ p, s.size ≤ 4000000) (lm : m.length ≤ 4000000) (lp : p.length ≤ 4000000) :
    Calls Try.prog 60 #[.agg #[.int .i64 d, .int .i64 wd, vm, vp]] w fun e w' => e = .returned (.tuple #[.int .i64 (srLo d wd m p), .int .i64 (srHi d wd m p), .bool (bcOk d wd m p)]) ∧ Below w.heap.size w w' := by
  obtain ⟨A1, n1, c1, rfl⟩ := rds_sh2 hm
  obtain ⟨A2, n2, c2, rfl⟩ := rds_sh2 hp
  obtain ⟨W1, hW1⟩ : ∃ W1, W1 = w.alloc (.cells #[.int .i64 d, .int .i64 wd, .slice A1 n1 c1, .slice A2 n2 c2] 61) := ⟨_, rfl⟩
  have hB0 : Below w.heap.size w W1 := by rw [hW1]; exact (Below.refl _ _).alloc (Nat.le_refl _) _
  have hbk : Bk W1 w.heap.size (bcV d wd (.slice A1 n1 c1) (.slice A2 n2 c2)) := by rw [hW1]; exact Bk.new w (bcV d wd (.slice A1 n1 c1) (.slice A2 n2 c2)) _ _ rfl
  have HV := Lib.hid (validBlockCode_impl W1 d wd (.slice A1 n1 c1) (.slice A2 n2 c2) m p (hm.keep hB0) (hp.keep hB0) sm sp lp)
  have HB0 := Lib.hid hB0
  have HBK := Lib.hid hbk
  have HM := Lib.hid hm
  have HP := Lib.hid hp
  clear hB0 hbk hm hp sm sp
  subst hW1
  refine (callsIn_wide (n := 9)).1 ?_
  have h1 : 1 ≤ 9 := by omega
  have hmx : Try.prog.follows .mixedOrders = true := by kernel_rfl
  refine callsIn_of_wp_marks Try.func60 rfl trivial ?_ rfl
  simp only [Try.ntmps60, List.size_toArray, List.length_cons, List.length_nil, Nat.reduceAdd, Nat.reduceSub, Array.replicate_succ, Array.replicate_zero, List.push_toArray, List.append_toArray, List.nil_append, List.cons_append]
  gi_wp2_with fail
  refine ⟨trivial, (callsIn_wide.2 HV.out).mono ?_⟩; rintro e w1 ⟨rfl, hb1⟩
  have HB1 : Hid (Below w.heap.size w w1) := HB0.out.trans (hb1.mono HB0.out.size)
  have HK1 := Lib.hid (HBK.out.keep hb1)
  clear hb1 HB0 HBK HV
  cases hok : bcOk d wd m p
  · have HE : Hid (srLo d wd m p = 0 ∧ srHi d wd m p = 0) := by show _ ∧ _; unfold srLo srHi; rw [hok]; exact ⟨rfl, rfl⟩
    gi_wp2_with fail
    refine ⟨_, results_tmp3 rfl _ _ _, ?_⟩
    exact ⟨ret_iib HE.out.1.symm HE.out.2.symm hok.symm, HB1.out⟩
  · obtain ⟨hw12, om, op⟩ := bcOk_parts hok
    have HE : Hid (srLo d wd m p = loL 1 p (loL (-1) m (-1)) ∧ srHi d wd m p = hiL 1 p (hiL (-1) m 1)) := by show _ ∧ _; unfold srLo srHi; rw [hok]; exact ⟨rfl, rfl⟩
    have HOM := Lib.hid om
    have HOP := Lib.hid op
    have HOK := Lib.hid hok
    clear hok om op
    obtain ⟨q0, q1, q2, q3⟩ := bk_all ((HK1.out.alloc (.cells #[.int .i64 (-1)] 2)).alloc (.cells #[.int .i64 1] 2))
    gi_wp2_with fail
    refine ⟨trivial, (callsIn_wide.2 (eachWord_any d wd A1 A2 n1 n2 c1 c2 _)).mono ?_⟩; rintro e w4 ⟨rfl, rfl⟩
    clear q0 q1 q2 q3
    have b5 := Bk.new w1 [.int .i64 (-1)] 2 w1.heap.size rfl
    have b6 := Bk.new (w1.alloc (.cells #[.int .i64 (-1)] 2)) [.int .i64 1] 2 (w1.heap.size + 1) (by simp)
    have b5' := b5.alloc (.cells #[.int .i64 1] 2)
    have HB3 : Hid (Below w.heap.size w ((w1.alloc (.cells #[.int .i64 (-1)] 2)).alloc (.cells #[.int .i64 1] 2))) := (HB1.out.alloc (by have := HB1.out.size; omega) _).alloc (by have := HB1.out.size; simp; omega) _
    have hz3 : ((w1.alloc (.cells #[.int .i64 (-1)] 2)).alloc (.cells #[.int .i64 1] 2)).heap.size = w1.heap.size + 2 := by simp
    have hlw : w.heap.size < w1.heap.size := HK1.out.2.2
    have b5'' : Bk ((w1.alloc (.cells #[.int .i64 (-1)] 2)).alloc (.cells #[.int .i64 1] 2)) w1.heap.size [.int .i64 (-1)] := b5'
    have b6'' : Bk ((w1.alloc (.cells #[.int .i64 (-1)] 2)).alloc (.cells #[.int .i64 1] 2)) (w1.heap.size + 1) [.int .i64 1] := b6
    clear b5 b6 b5'
    generalize (w1.alloc (.cells #[.int .i64 (-1)] 2)).alloc (.cells #[.int .i64 1] 2) = W3 at *
    have HBB := Bk.new W3 (bcV d wd (.slice A1 n1 c1) (.slice A2 n2 c2)) 61 W3.heap.size rfl
    have HB4 : Hid (Below w.heap.size w (W3.alloc (.cells #[.int .i64 d, .int .i64 wd, .slice A1 n1 c1, .slice A2 n2 c2] 61))) := HB3.out.alloc (by have := HB3.out.size; omega) _
    have h5 := Lib.hid (b5''.alloc (.cells #[.int .i64 d, .int .i64 wd, .slice A1 n1 c1, .slice A2 n2 c2] 61))
    have h6 := Lib.hid (b6''.alloc (.cells #[.int .i64 d, .int .i64 wd, .slice A1 n1 c1, .slice A2 n2 c2] 61))
    clear b5'' b6''
    have HBQ : Hid (Bk (W3.alloc (.cells #[.int .i64 d, .int .i64 wd, .slice A1 n1 c1, .slice A2 n2 c2] 61)) W3.heap.size (bcV d wd (.slice A1 n1 c1) (.slice A2 n2 c2))) := HBB
    have hz4 : (W3.alloc (.cells #[.int .i64 d, .int .i64 wd, .slice A1 n1 c1, .slice A2 n2 c2] 61)).heap.size = w1.heap.size + 3 := by simp [hz3]
    have HZ3 := Lib.hid hz3
    have HZ4 := Lib.hid hz4
    clear HBB hz3 hz4
    generalize W3.alloc (.cells #[.int .i64 d, .int .i64 wd, .slice A1 n1 c1, .slice A2 n2 c2] 61) = W4 at *
    gi_wp2_with fail
    refine wpIn_rangeFunc_ownF rfl h1 (gf := 175) (lb := #[.pointer (some ⟨W3.heap.size, 0, none⟩)]) rfl trivial (enters_of Try.func175 (by kernel_rfl) rfl)
      (eachWord_stops 8 (by omega) W3.heap.size w W4 d wd A1 A2 n1 n2 c1 c2 m p HM.out HP.out HOM.out HOP.out lm lp HB4.out HBQ.out) kpW_t (kpW_b HB4.out.size HBQ.out.2.2) (Below.refl _ _) (fun _ => rfl)
      (fun pre W => (Bk W w1.heap.size [.int .i64 (loS pre (-1))] ∧ Bk W (w1.heap.size + 1) [.int .i64 (hiS pre 1)]) ∧ ((-20 ≤ loS pre (-1) ∧ loS pre (-1) ≤ 20) ∧ (-20 ≤ hiS pre 1 ∧ hiS pre 1 ≤ 20)) ∧ w1.heap.size + 2 < W.heap.size ∧ Below w.heap.size w W)
      (fun _ _ _ => False)
      (OwnFrom.and (Own.from (fun s A B row hs hg hr => ⟨bk_kept hs.1 hg hr, bk_kept hs.2 hg hr⟩) _) (OwnFrom.and (fun _ _ _ _ h _ _ => h) (OwnFrom.and (fun _ _ _ _ h hg _ => Nat.lt_of_lt_of_le h hg.size) (ownFrom_below (Nat.le_refl _) HB4.out.size))))
      (fun _ _ _ _ _ hs _ _ => hs)
      ⟨⟨h5.out, h6.out⟩, ⟨by constructor <;> simp [loS], by constructor <;> simp [hiS]⟩, by rw [HZ4.out]; omega, HB4.out⟩
      (fun x => { tmps := #[.agg #[.int .i64 d, .int .i64 wd, .slice A1 n1 c1, .slice A2 n2 c2], .pointer (some ⟨w.heap.size, 0, none⟩), .int .i64 0, .int .i64 0, .bool false, .pointer (some ⟨w1.heap.size, 0, none⟩), .pointer (some ⟨w1.heap.size + 1, 0, none⟩), .int .i64 x.1.1, .string x.1.2, undef, undef, undef,
        .agg #[.int .i64 d, .int .i64 wd, .slice A1 n1 c1, .slice A2 n2 c2], .bool true, .bool false, .agg #[.int .i64 d, .int .i64 wd, .slice A1 n1 c1, .slice A2 n2 c2], .func (.func 175) #[] #[.pointer (some ⟨W3.heap.size, 0, none⟩)], .int .i64 x.1.1, .string x.1.2,
        undef, undef, undef, undef, undef, undef, undef, undef, undef, undef, undef, undef, undef, undef, undef, undef, undef, undef, undef, undef, undef], defers := [] }) ?assign ?body ?done ?stop
    case assign =>
      intro l x W K hK
      gi_wp2
      exact hK
    case body =>
      rintro l pre ⟨⟨s, y⟩, hs, hok⟩ W ⟨⟨k5, k6⟩, hbd, hsz, hbl⟩ _
      obtain ⟨hbits, hy12⟩ := wordOk_bits hok hw12
      dsimp only at hs hok hbits hy12 ⊢
      have hs' : -1 ≤ s ∧ s ≤ 1 := by rcases hs with rfl | rfl <;> omega
      have HSN5 : Hid (loS (pre ++ [(⟨(s, y), hs, hok⟩ : PW wd)]) (-1) = loW s y.data.toList y.size (loS pre (-1))) := loS_snoc pre _ _
      have HSN6 : Hid (hiS (pre ++ [(⟨(s, y), hs, hok⟩ : PW wd)]) 1 = hiW s y.data.toList y.size (hiS pre 1)) := hiS_snoc pre _ _
      have HST : Hid (SrB w W W.heap.size W3.heap.size w1.heap.size (W.iter y 0) s y 0 (loS pre (-1)) (hiS pre 1)) := SrB.enter hbl ⟨by have := HZ3.out; omega, by have := HZ3.out; omega, by have := HZ3.out; omega, by omega, k6.2.2⟩ k5 k6 _ _
      clear k5 k6 hbl
      generalize loS pre (-1) = a0 at *
      generalize hiS pre 1 = b0 at *
      have HBD := Lib.hid hbd
      have HSS := Lib.hid hs'
      have HBI := Lib.hid hbits
      clear hbd hs' hbits
      gi_wp2_with fail
      gi_loopw [9] (fun t wr => ∃ pos : Nat, pos ≤ y.size ∧ t = .int .i64 (s + disL (y.data.toList.take pos)) ∧ SrB w W W.heap.size W3.heap.size w1.heap.size wr s y pos a0 b0) (fun _ wr => y.size - wr.iterPos W.heap.size)
      case atStart => exact ⟨0, Nat.zero_le _, by simp [disL, onesL, Lib.countByte], HST.out⟩
      case round =>
        clear HST
        obtain ⟨pos, hpos, rfl, ht⟩ := hrel
        have HT := Lib.hid ht
        clear ht
        by_cases hp : pos < y.size
        · have hcc : y[pos] = 48 ∨ y[pos] = 49 := by
            have := inR_at 48 49 y pos hp HBI.out
            rcases (show y[pos].toNat = 48 ∨ y[pos].toNat = 49 from by omega) with h | h
            · exact .inl (UInt8.toNat_inj.1 (by rw [h]; rfl))
            · exact .inr (UInt8.toNat_inj.1 (by rw [h]; rfl))
          have hasc : (y[pos]'hp).toNat < 128 := by rcases hcc with h | h <;> (rw [h]; decide)
          have hdt : s + disL (y.data.toList.take (pos + 1)) = s + disL (y.data.toList.take pos) + (2 * ((y[pos].toNat : Int) - 48) - 1) := by rw [disL_take y pos hp HBI.out]; omega
          have hdb : -13 ≤ s + disL (y.data.toList.take pos) ∧ s + disL (y.data.toList.take pos) ≤ 13 := by
            have h1 := disL_bd (y.data.toList.take pos)
            have h2 := List.length_take_le pos y.data.toList
            have h3 := HSS.out
            omega
          have hl5 : loW s y.data.toList (pos + 1) a0 = min (loW s y.data.toList pos a0) (s + disL (y.data.toList.take (pos + 1))) := rfl
          have hl6 : hiW s y.data.toList (pos + 1) b0 = max (hiW s y.data.toList pos b0) (s + disL (y.data.toList.take (pos + 1))) := rfl
          obtain ⟨W1, hW1⟩ : ∃ W1, W1 = wr.iterAt W.heap.size y (pos + 1) := ⟨_, rfl⟩
          have hnx : ∀ ty, (Instr.next (.pointer (some ⟨W.heap.size, 0, none⟩)) true ty).run Try.prog wr = .ok (.tuple #[.bool true, .int .i64 pos, .int .i32 (y[pos]'hp).toNat]) W1 := fun ty => by rw [hW1]; exact Lib.run_next_ascii_at wr W.heap.size y pos ty HT.out.it hp hasc
          obtain ⟨hw5, hw6, hstep⟩ := HT.out.next (pos + 1)
          rw [← hW1] at hw5 hw6 hstep
          have HSTEP := Lib.hid hstep
          have q5 := hw5.c 0 _ rfl
          have q6 := hw6.c 0 _ rfl
          have f5 := hw5.f 0 (by simp)
          have f6 := hw6.f 0 (by simp)
          obtain ⟨S0, S1⟩ := hdb
          clear hw5 hw6 hstep hW1 hasc
          generalize hS2 : s + disL (y.data.toList.take (pos + 1)) = S2 at *
          have HS2 := Lib.hid hS2
          clear hS2
          generalize s + disL (y.data.toList.take pos) = S at *
          generalize loW s y.data.toList (pos + 1) a0 = a2 at *
          generalize hiW s y.data.toList (pos + 1) b0 = b2 at *
          generalize loW s y.data.toList pos a0 = a1 at *
          generalize hiW s y.data.toList pos b0 = b1 at *
          have HL5 := Lib.hid hl5
          have HL6 := Lib.hid hl6
          clear hl5 hl6
          obtain ⟨c, hc⟩ : ∃ c : Int, c = ((y[pos]'hp).toNat : Int) := ⟨_, rfl⟩
          rw [← hc] at hnx hdt
          have hc1 : 48 ≤ c ∧ c ≤ 49 := by rw [hc]; rcases hcc with h | h <;> (rw [h]; decide)
          obtain ⟨g0, g1⟩ := hc1
          have HDT : S + (2 * (c - 48) - 1) = S2 := by omega
          have HFIN := Lib.hid (HSTEP.out _ _ HL5.out.symm HL6.out.symm)
          have HME : Hid (y.size - (((W1.setCell ⟨w1.heap.size, 0, none⟩ (.int .i64 (min a1 S2))).setCell ⟨w1.heap.size + 1, 0, none⟩ (.int .i64 (max b1 S2))).drew).iterPos W.heap.size < y.size - wr.iterPos W.heap.size) := by
            show _ < _
            simp only [World.iterPos, HT.out.it, HFIN.out.it]; omega
          have HRV : Hid (Value.int .i64 S2 = Value.int .i64 (s + disL (y.data.toList.take (pos + 1)))) := by show _ = _; rw [HS2.out]
          have HDH := Lib.hid HDT
          have HP1 := Lib.hid hp
          clear hcc hdt hc HDT HSTEP HL5 HL6 HS2
          gi_wp2_with fail
          rw [HDH.out]
          clear HDH HT hnx g0 g1 S0 S1
          gi_region_with_o (fail)
          all_goals (gi_wp2_with fail; go_roundw)
          all_goals first
            | exact ⟨pos + 1, HP1.out, HRV.out, HFIN.out⟩
            | exact HME.out
        · have hpe : pos = y.size := by omega
          subst hpe
          have hnx : ∀ ty, (Instr.next (.pointer (some ⟨W.heap.size, 0, none⟩)) true ty).run Try.prog wr = _ := fun ty => Lib.run_next_end_at wr W.heap.size y y.size ty HT.out.it hp
          gi_wp2_with fail
          refine ⟨HT.out.ko, HT.out.kp, ⟨?_, ?_⟩, ⟨?_, ?_⟩, Nat.lt_of_lt_of_le hsz HT.out.ko.size, HT.out.bel⟩
          · rw [HSN5.out]; exact HT.out.b5
          · rw [HSN6.out]; exact HT.out.b6
          · rw [HSN5.out]; exact loW_bd s _ HSS.out _ a0 HBD.out.1 hy12
          · rw [HSN6.out]; exact hiW_bd s _ HSS.out _ b0 HBD.out.2 hy12
    case done =>
      rintro D ys W hD rfl ⟨⟨k5, k6⟩, hbd, hsz, hbl⟩ hK
      have q5 := k5.drew.c 0 _ rfl
      have q6 := k6.drew.c 0 _ rfl
      have f5 := k5.drew.f 0 (by simp)
      have f6 := k6.drew.f 0 (by simp)
      have HKD := Lib.hid ((KeepsOthers.drew W).same D _ hK rfl)
      have HBD : Hid (Below w.heap.size w W.drew) := hbl.drew
      have HLO : Hid (loS (pws wd (-1) (.inl rfl) m HOM.out ++ pws wd 1 (.inr rfl) p HOP.out) (-1) = srLo d wd m p) := by show _ = _; rw [HE.out.1, loS_append, loS_pws, loS_pws]
      have HHI : Hid (hiS (pws wd (-1) (.inl rfl) m HOM.out ++ pws wd 1 (.inr rfl) p HOP.out) 1 = srHi d wd m p) := by show _ = _; rw [HE.out.2, hiS_append, hiS_pws, hiS_pws]
      gi_wp2_with fail
      gi_region_o
      all_goals gi_wp2_with fail
      all_goals refine ⟨by simp, .inl ⟨_, _, rfl, run_takeDeferred HKD.out, ?_⟩⟩
      all_goals refine ⟨_, results_tmp3 rfl _ _ _, ?_⟩
      all_goals exact ⟨ret_iib HLO.out HHI.out HOK.out.symm, HBD.out.trans (belowK_b (w := w) (Nat.le_refl _) W.drew D _ _ (Nat.le_trans HB4.out.size hD) HKD.out rfl rfl)⟩
    case stop =>
      rintro D c pre W _ _ h _
      exact h.elim
end Go.Proofs.Ytijmfienaoeboab
