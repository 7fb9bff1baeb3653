/- The program's eachWord: each word of a block code with its state: the contract of an iterator. -/
import Derived.RangeFuncNested
import Derived.RangeFuncBound
import Derived.RangeFuncCalls
import Derived.RangeFuncLeaves
import Derived.Shelf.Abstract
import Derived.Shelf.RegionOpen
import Derived.WalkKit
import Derived.OwnWalkIn
import Derived.TacticsInMore
import Derived.LoopNIn
import Derived.LoopIn
import Derived.Test.YtijmfienaoeboabBv
import Derived.Test.YtijmfienaoeboabBx
namespace Go.Proofs.Ytijmfienaoeboab
open Go Go.RowKit Go.Shelf
set_option linter.unusedVariables false
attribute [local go_sem] Oper.semAt_some

/-- A word of a block code with its state. -/
abbrev PW (wd : Int) := { q : Int × ByteArray // (q.1 = -1 ∨ q.1 = 1) ∧ wordOk wd (-q.1 - q.1) q.2 = true }
abbrev pwEnc {wd : Int} (x : PW wd) : Array Value := #[.int .i64 x.1.1, .string x.1.2]
def pws (wd s : Int) (hs : s = -1 ∨ s = 1) (l : List ByteArray) (hl : ∀ x ∈ l, wordOk wd (-s - s) x = true) : List (PW wd) :=
  l.pmap (fun x h => ⟨(s, x), hs, h⟩) hl
theorem pws_length {wd s : Int} {hs : s = -1 ∨ s = 1} {l : List ByteArray} {hl : ∀ x ∈ l, wordOk wd (-s - s) x = true} : (pws wd s hs l hl).length = l.length := by simp [pws]
theorem pws_take {wd s : Int} {hs : s = -1 ∨ s = 1} {l : List ByteArray} {hl : ∀ x ∈ l, wordOk wd (-s - s) x = true} (j : Nat) (hj : j < l.length) :
    (pws wd s hs l hl).take (j + 1) = (pws wd s hs l hl).take j ++ [⟨(s, l[j]), hs, hl _ (List.getElem_mem hj)⟩] := by
  rw [List.take_succ_eq_append_getElem (by rw [pws_length]; exact hj)]
  simp [pws]

/-- What a round keeps: whatever lay below n0, and a block. -/
def KpW (n0 B : Nat) (W W' : World) : Prop := Below n0 W W' ∧ ∀ o, W.heap[B]? = some o → W'.heap[B]? = some o
theorem kpW_t {n0 B : Nat} {A B' C : World} (h : KpW n0 B A B') (k : KpW n0 B B' C) : KpW n0 B A C := ⟨h.1.trans k.1, fun o e => k.2 o (h.2 o e)⟩
theorem kpW_b {n0 B : Nat} {w : World} (hn : n0 ≤ w.heap.size) (hB : B < w.heap.size) (W : World) (l : Nat) (o o' : Obj) (hl : w.heap.size ≤ l) (h : W.heap[l]? = some o) (h1 : o.isCells = false) (h2 : o.isWalk = false) : KpW n0 B W (W.putObj l o') :=
  ⟨belowK_b hn W l o o' hl h h1 h2, fun u e => (World.putObj_heap_other (by omega)).trans e⟩
theorem Bk.kp {n0 B : Nat} {W W' : World} {cs : List Value} (h : Bk W B cs) (hk : KpW n0 B W W') : Bk W' B cs := by
  have hlt := h.2.2
  have e := hk.2 _ (Array.getElem?_eq_getElem hlt)
  have e' : W'.heap[B]? = W.heap[B]? := by rw [e, Array.getElem?_eq_getElem hlt]
  refine ⟨fun i x hx => ?_, fun i hi => ?_, ?_⟩
  · rw [← h.1 i x hx]; simp only [World.cell?, e']
  · rw [← h.2.1 i hi]; simp only [World.frozen?, e']
  · exact (Array.getElem?_eq_some_iff.1 e).1
theorem RdS.from {w0 W : World} {v : Value} {l : List ByteArray} (h : RdS w0 v l) (hb : Below w0.heap.size w0 W) : RdS W v l := h.keep hb

theorem abides_alloc {β : Type} {B : Nat} {J : β → World → Prop} (h : AbidesFrom B J) {s : β} {W : World} (o : Obj) (hs : J s W) : J s (W.alloc o) :=
  h s W _ none hs (World.grownBy_alloc W o none) (fun r e => by cases e)

theorem lineStates_ex (w : World) :
    Calls Try.prog 168 #[] w fun e w' => e = .returned (.agg #[.int .i64 (-1), .int .i64 1]) ∧ ∃ o, w' = w.alloc o := by
  go_enter Try.func168, Try.ntmps168
  go_wp2_with fail
  simp [bodyPost, results, Try.results168, go_sem]
  exact ⟨_, rfl⟩
theorem words_ex (d wd s : Int) (A1 A2 : Option Addr) (n1 n2 c1 c2 : Nat) (w : World) (hs : s = -1 ∨ s = 1) :
    Calls Try.prog 170 #[.agg #[.int .i64 d, .int .i64 wd, .slice A1 n1 c1, .slice A2 n2 c2], .int .i64 s] w fun e w' => e = .returned (if s = -1 then .slice A1 n1 c1 else .slice A2 n2 c2) ∧ ∃ o, w' = w.alloc o := by
  rcases hs with rfl | rfl
  · go_enter Try.func170, Try.ntmps170
    go_wp2_with fail
    go_ret
    exact ⟨rfl, _, rfl⟩
  · go_enter Try.func170, Try.ntmps170
    go_wp2_with fail
    go_ret
    exact ⟨rfl, _, rfl⟩

/-- eachWord makes its closure. -/
theorem eachWord_any (d wd : Int) (A1 A2 : Option Addr) (n1 n2 c1 c2 : Nat) (w : World) :
    Calls Try.prog 124 #[.agg #[.int .i64 d, .int .i64 wd, .slice A1 n1 c1, .slice A2 n2 c2]] w fun e w' => e = .returned (.func (.func 175) #[] #[.pointer (some ⟨w.heap.size, 0, none⟩)]) ∧ w' = w.alloc (.cells #[.int .i64 d, .int .i64 wd, .slice A1 n1 c1, .slice A2 n2 c2] 61) := by
  go_enter Try.func124, Try.ntmps124
  go_wp2_with fail
  go_ret
  exact ⟨rfl, rfl⟩

theorem eachWord_index (k : Nat) (hk : k < 2) (W : World) : (Instr.index 219 (.agg #[.int .i64 (-1), .int .i64 1]) (.int .i64 k)).run Try.prog W = .ok (.int .i64 (if k = 0 then -1 else 1)) W := by
  rcases (show k = 0 ∨ k = 1 from by omega) with rfl | rfl <;> kernel_rfl

set_option maxRecDepth 100000 in
set_option maxHeartbeats 2000000 in
theorem eachWord_in (n : Nat) (hn : 1 ≤ n) (l B : Nat) (w0 : World) (d wd : Int) (A1 A2 : Option Addr) (n1 n2 c1 c2 : Nat) (m p : List ByteArray)
    (hm : RdS w0 (.slice A1 n1 c1) m) (hp : RdS w0 (.slice A2 n2 c2) p) (om : ∀ x ∈ m, wordOk wd (- -1 - -1) x = true) (op : ∀ x ∈ p, wordOk wd (-1 - 1) x = true) (lm : m.length ≤ 4000000) (lp : p.length ≤ 4000000)
    (J Jx : List (PW wd) → World → Prop) (W : World) (hJ : AbidesFrom W.heap.size J)
    (hY : ∀ pre x W1, J pre W1 → pre.length < m.length + p.length → YieldAt Fence.wide (n - 1) Try.prog l (pwEnc x) W1 fun e W' =>
      (e = .returned (.bool true) ∧ J (pre ++ [x]) W' ∧ KpW w0.heap.size B W1 W') ∨ (e = .returned (.bool false) ∧ Jx (pre ++ [x]) W'))
    (hb : Below w0.heap.size w0 W) (hB : Bk W B (bcV d wd (.slice A1 n1 c1) (.slice A2 n2 c2))) (h0 : J [] W) :
    CallsIn Fence.wide n Try.prog 175 #[.func (.yield l) #[] #[], .pointer (some ⟨B, 0, none⟩)] W fun e W' => (∃ v, e = .returned v) ∧
      ((∃ ys, ys = pws wd (-1) (.inl rfl) m om ++ pws wd 1 (.inr rfl) p op ∧ J ys W') ∨ (∃ pre, pre <+: pws wd (-1) (.inl rfl) m om ++ pws wd 1 (.inr rfl) p op ∧ Jx pre W')) := by
  obtain ⟨M, hM⟩ : ∃ M, M = pws wd (-1) (.inl rfl) m om := ⟨_, rfl⟩
  obtain ⟨P, hP⟩ : ∃ P, P = pws wd 1 (.inr rfl) p op := ⟨_, rfl⟩
  have eM : M.length = m.length := by rw [hM, pws_length]
  have eP : P.length = p.length := by rw [hP, pws_length]
  rw [← hM, ← hP]
  -- what one of the two rounds goes over
  have sel : ∀ k : Nat, k < 2 → ∃ (s : Int) (A : Option Addr) (n c : Nat) (ws : List ByteArray) (hs : s = -1 ∨ s = 1) (os : ∀ x ∈ ws, wordOk wd (-s - s) x = true) (b : List (PW wd)),
      (if k = 0 then (-1 : Int) else 1) = s ∧ (if s = -1 then (.slice A1 n1 c1 : Value) else .slice A2 n2 c2) = .slice A n c ∧ RdS w0 (.slice A n c) ws ∧ ws.length = n ∧ n ≤ 4000000 ∧
      b = (if k = 0 then [] else M) ∧ b ++ pws wd s hs ws os = (if k + 1 = 1 then M else M ++ P) ∧ b.length + ws.length ≤ m.length + p.length := by
    intro k hk
    rcases (show k = 0 ∨ k = 1 from by omega) with rfl | rfl
    · have := hm
      obtain ⟨A, n, c, e, hl, -⟩ := this
      cases e
      exact ⟨-1, A1, n1, c1, m, .inl rfl, om, [], rfl, rfl, hm, hl, by omega, rfl, by rw [hM]; rfl, by simp⟩
    · have := hp
      obtain ⟨A, n, c, e, hl, -⟩ := this
      cases e
      exact ⟨1, A2, n2, c2, p, .inr rfl, op, M, rfl, rfl, hp, hl, by omega, rfl, by rw [hP]; rfl, by rw [eM]; omega⟩
  have SEL := Lib.hid sel
  have HIX := Lib.hid (fun k hk W => eachWord_index k hk W)
  have HW := Lib.hid (fun s hs W => words_ex d wd s A1 A2 n1 n2 c1 c2 W hs)
  have HLS := Lib.hid (fun W => lineStates_ex W)
  have HJ := Lib.hid hJ
  have HY := Lib.hid hY
  clear sel hJ hY hM hP hm hp om op eM eP
  have HB0 := Lib.hid hb
  have HBK := Lib.hid hB
  have HJ0 := Lib.hid h0
  clear hb hB h0
  refine callsIn_of_wp Try.func175 rfl trivial ?_ rfl
  simp only [Try.ntmps175, List.size_toArray, List.length_cons, List.length_nil, Nat.reduceAdd, Nat.reduceSub, Array.replicate_succ, Array.replicate_zero, List.push_toArray, List.append_toArray, List.nil_append, List.cons_append]
  gi_wp2_with fail
  refine ⟨trivial, (callsIn_wide.2 (HLS.out _)).mono ?_⟩; rintro e w1 ⟨rfl, o1, rfl⟩
  have HB1 : Hid (Below w0.heap.size w0 (W.alloc o1)) := HB0.out.alloc (by have := HB0.out.size; omega) _
  have HBK1 := Lib.hid (HBK.out.alloc o1)
  have HJ1 : Hid (J [] (W.alloc o1)) := abides_alloc HJ.out o1 HJ0.out
  generalize W.alloc o1 = W2 at *
  clear HB0 HBK HJ0 HLS
  gi_wp2_with fail
  gi_loopw [8] (fun i wr => ∃ k : Nat, k ≤ 2 ∧ i = .int .i64 k ∧ J (if k = 0 then [] else if k = 1 then M else M ++ P) wr ∧ Below w0.heap.size w0 wr ∧ Bk wr B (bcV d wd (.slice A1 n1 c1) (.slice A2 n2 c2)))
    (fun i _ => 2 - (intOf i).toNat)
  case atStart => exact ⟨0, by omega, rfl, HJ1.out, HB1.out, HBK1.out⟩
  case round =>
    clear HJ1 HB1 HBK1
    obtain ⟨k, hk, rfl, hj, hbl, hbk⟩ := hrel
    by_cases hlt : k < 2
    · obtain ⟨s, A, nn, c, ws, hs, os, b, e1, e2, hr, hl, hn4, hb, hbs, hle⟩ := SEL.out k hlt
      have hix := HIX.out k hlt
      rw [e1] at hix
      have HWs := Lib.hid (HW.out s hs)
      rw [e2] at HWs
      have hj' : J b wr := by
        have : (if k = 0 then [] else if k = 1 then M else M ++ P) = b := by
          rw [hb]
          rcases (show k = 0 ∨ k = 1 from by omega) with h | h <;> simp [h]
        rw [this] at hj; exact hj
      obtain ⟨q0, q1, q2, q3⟩ := bk_all hbk
      have HJA := Lib.hid hj'
      have HBA := Lib.hid hbl
      have HKA := Lib.hid hbk
      have HR := Lib.hid hr
      have HN := Lib.hid hl
      have HBS : Hid ((b ++ pws wd s hs ws os) = (if k + 1 = 0 then [] else if k + 1 = 1 then M else M ++ P)) := by show _ = _; rw [hbs]; simp
      have HLE := Lib.hid hle
      have HOS := Lib.hid os
      clear e1 e2 hr hl hb hbs hle hj hj' hbl hbk SEL HIX HW
      gi_wp2_with fail
      refine ⟨trivial, (callsIn_wide.2 (HWs.out _)).mono ?_⟩; rintro e w3 ⟨rfl, o3, rfl⟩
      have HB3 : Hid (Below w0.heap.size w0 (wr.alloc o3)) := HBA.out.alloc (by have := HBA.out.size; omega) _
      have HK3 := Lib.hid (HKA.out.alloc o3)
      have HJ3 : Hid (J (b ++ (pws wd s hs ws os).take 0) (wr.alloc o3)) := by show J _ _; simpa using abides_alloc HJ.out o3 HJA.out
      generalize wr.alloc o3 = W4 at *
      clear HBA HKA HJA HWs q0 q1 q2 q3 hix
      gi_wp2_with fail
      gi_loopw [15] (fun i wr => ∃ j : Nat, j ≤ nn ∧ i = .int .i64 j ∧ J (b ++ (pws wd s hs ws os).take j) wr ∧ Below w0.heap.size w0 wr ∧ Bk wr B (bcV d wd (.slice A1 n1 c1) (.slice A2 n2 c2)))
        (fun i _ => nn - (intOf i).toNat)
      case atStart => exact ⟨0, by omega, rfl, HJ3.out, HB3.out, HK3.out⟩
      case round =>
        clear HJ3 HB3 HK3
        obtain ⟨j, hjn, rfl, hj, hbl, hbk⟩ := hrel
        by_cases hl2 : j < nn
        · have hjl : j < ws.length := by rw [HN.out]; exact hl2
          obtain ⟨A, nn', c', e, -, -, -, hcs⟩ := HR.out.from hbl
          cases e
          obtain ⟨g, o, rfl, hgl, hc⟩ := hcs (by omega)
          have hc0 := hc j hjl
          have hx0 : (0 : Int) ≤ (j : Int) := by omega
          have hx1 : (j : Int) < (nn : Int) := by omega
          obtain ⟨fn, tmps, assign, body, hy, hR⟩ := HY.out _ ⟨(s, ws[j]), hs, os _ (List.getElem_mem hjl)⟩ wr hj (by have := HLE.out; simp [pws_length]; omega)
          dsimp only [pwEnc] at hy
          have HTK := Lib.hid (pws_take (hs := hs) (hl := os) j hjl)
          have HRR := Lib.hid hR
          have HBA := Lib.hid hbl
          have HKA := Lib.hid hbk
          clear hc hj hR hbl hbk HOS
          gi_wp2_with fail
          refine HRR.out.mono ?_
          rintro e W5 (⟨rfl, hj5, hk5⟩ | ⟨rfl, hjx5⟩)
          · have HJ5 := Lib.hid hj5
            have HB5 := Lib.hid (HBA.out.trans hk5.1)
            have HK5 := Lib.hid (HKA.out.kp hk5)
            clear hj5 hk5 HRR hy
            gi_wp2_with fail
            go_roundw
            case rel => exact ⟨j + 1, by omega, by go_num, by rw [HTK.out, ← List.append_assoc]; exact HJ5.out, HB5.out, HK5.out⟩
            case measure => simp [intOf]; omega
          · have HJ5 := Lib.hid hjx5
            clear hjx5 HRR hy
            gi_wp2_with fail
            refine bodyPost_ret (results_none rfl _ _ _) rfl ?_
            refine ⟨⟨_, rfl⟩, .inr ⟨_, ?_, HJ5.out⟩⟩
            rw [List.append_assoc, ← HTK.out]
            have h1 : b ++ (pws wd s hs ws os).take (j + 1) <+: b ++ pws wd s hs ws os := (List.prefix_append_right_inj b).2 (List.take_prefix _ _)
            rw [HBS.out] at h1
            refine h1.trans ?_
            rcases (show k = 0 ∨ k = 1 from by omega) with rfl | rfl
            · simp
            · simp
        · obtain rfl : j = nn := by omega
          have HJE : Hid (J (if k + 1 = 0 then [] else if k + 1 = 1 then M else M ++ P) wr) := by
            show J _ _
            rw [← HBS.out]
            rwa [List.take_of_length_le (by rw [pws_length, HN.out]; exact Nat.le_refl _)] at hj
          have HBA := Lib.hid hbl
          have HKA := Lib.hid hbk
          clear hj hbl hbk
          gi_wp2_with fail
          go_roundw
          case rel => exact ⟨k + 1, by omega, by go_num, HJE.out, HBA.out, HKA.out⟩
          case measure => simp [intOf]; omega
    · obtain rfl : k = 2 := by omega
      have HJE := Lib.hid hj
      clear hj hbl hbk
      gi_wp2_with fail
      go_end0
      exact ⟨⟨_, rfl⟩, .inl ⟨_, rfl, by simpa using HJE.out⟩⟩

theorem eachWord_stops (n : Nat) (hn : 1 ≤ n) (B : Nat) (w0 w : World) (d wd : Int) (A1 A2 : Option Addr) (n1 n2 c1 c2 : Nat) (m p : List ByteArray)
    (hm : RdS w0 (.slice A1 n1 c1) m) (hp : RdS w0 (.slice A2 n2 c2) p) (om : ∀ x ∈ m, wordOk wd (- -1 - -1) x = true) (op : ∀ x ∈ p, wordOk wd (-1 - 1) x = true) (lm : m.length ≤ 4000000) (lp : p.length ≤ 4000000)
    (hb : Below w0.heap.size w0 w) (hB : Bk w B (bcV d wd (.slice A1 n1 c1) (.slice A2 n2 c2))) :
    SeqStopsK Fence.wide n Try.prog 175 #[.pointer (some ⟨B, 0, none⟩)] (pwEnc (wd := wd)) (KpW w0.heap.size B)
      (fun ys => ys = pws wd (-1) (.inl rfl) m om ++ pws wd 1 (.inr rfl) p op) (fun pre => pre <+: pws wd (-1) (.inl rfl) m om ++ pws wd 1 (.inr rfl) p op) (m.length + p.length) w := fun l J Jx W hW hJ hJx hY h0 =>
  eachWord_in n hn l B w0 d wd A1 A2 n1 n2 c1 c2 m p hm hp om op lm lp J Jx W hJ hY (hb.trans (hW.mono hb.size)) (hB.keep hW) h0
end Go.Proofs.Ytijmfienaoeboab
