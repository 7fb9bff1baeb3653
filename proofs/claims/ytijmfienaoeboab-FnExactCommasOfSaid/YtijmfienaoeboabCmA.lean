/- The program's liesAcross: whether a pattern begins in a word and ends in one of the next ones. -/
import Derived.Test.YtijmfienaoeboabCmP
import Derived.Test.YtijmfienaoeboabShelf
import Derived.Test.YtijmfienaoeboabBl
namespace Go.Proofs.Ytijmfienaoeboab
open Go Go.RowKit
set_option linter.unusedVariables false

theorem extract_to (b : ByteArray) (c : Nat) : (b.extract 0 c).data.toList = b.data.toList.take c := by simp [ByteArray.data_extract]
theorem extract_from (b : ByteArray) (c : Nat) (h : c ≤ b.size) : (b.extract c b.size).data.toList = b.data.toList.drop c := by
  simp only [ByteArray.data_extract, Array.toList_extract, List.extract_eq_take_drop]
  rw [List.take_of_length_le (by simp)]

/-- The closure: whether a word begins with the rest of the pattern. -/
theorem rest_any (W : World) (b3 g : Nat) (pat z : ByteArray) (c : Nat) (hp : pat.size ≤ 400) (hc : c ≤ pat.size) (h3 : Bk W b3 [.string pat]) (hg : Bk W g [.int .i64 c]) :
    Calls Try.prog 193 #[.string z, .pointer (some ⟨b3, 0, none⟩), .pointer (some ⟨g, 0, none⟩)] W fun e w' => e = .returned (.bool (Lib.hasPrefix z.data.toList (pat.data.toList.drop c))) ∧ Below W.heap.size W w' := by
  have q3 := h3.c 0 _ rfl
  have qg := hg.c 0 _ rfl
  have c0 : (0 : Int) ≤ (c : Int) := by omega
  have c1 : (c : Int) ≤ (pat.size : Int) := by omega
  go_enter Try.func193, Try.ntmps193
  go_wp2_with fail
  refine (Try.strings_HasPrefix _ _ _).mono ?_; rintro e w' ⟨rfl, rfl⟩
  go_wp2_with fail
  go_ret
  exact ⟨ret_bool (by rw [List.take_of_length_le (by simp)]), Below.refl _ _⟩

def CfPost (w : World) (R : Bool) (e : Ending) (w' : World) : Prop := ∃ r : Int, e = .returned (.int .i64 r) ∧ decide (0 ≤ r) = R ∧ -1 ≤ r ∧ r ≤ 4000000 ∧ Below w.heap.size w w'
theorem anyS_take (f : ByteArray → Bool) (ps : List ByteArray) (k : Nat) (h : k < ps.length) : (ps.take (k + 1)).any f = ((ps.take k).any f || f ps[k]) := by
  rw [List.take_succ_eq_append_getElem h, List.any_append]; simp
theorem anyS_yes (f : ByteArray → Bool) (ps : List ByteArray) (k : Nat) (h : k < ps.length) (hf : f ps[k] = true) : ps.any f = true := by
  rw [List.any_eq_true]; exact ⟨_, List.getElem_mem h, hf⟩

set_option maxHeartbeats 1600000 in
theorem indexFuncS (W : World) (v : Value) (ns : List ByteArray) (b3 g : Nat) (pat : ByteArray) (c : Nat) (hp : pat.size ≤ 400) (hc : c ≤ pat.size) (h3 : Bk W b3 [.string pat]) (hg : Bk W g [.int .i64 c]) (hr : RdS W v ns) (hn : ns.length ≤ 4000000) :
    Calls Try.prog 206 #[v, .func (.func 193) #[] #[.pointer (some ⟨b3, 0, none⟩), .pointer (some ⟨g, 0, none⟩)]] W (CfPost W (ns.any fun z => Lib.hasPrefix z.data.toList (pat.data.toList.drop c))) := by
  have hr' := hr
  obtain ⟨A, n, cp, e, hl, -⟩ := hr'
  subst e
  have H3 := Lib.hid h3
  have HG := Lib.hid hg
  have HR := Lib.hid hr
  have HL := Lib.hid hl
  have HC := Lib.hid (fun W z h3 hg => rest_any W b3 g pat z c hp hc h3 hg)
  have hn' : n ≤ 4000000 := by omega
  clear h3 hg hr hl hn
  generalize hf : (fun z : ByteArray => Lib.hasPrefix z.data.toList (pat.data.toList.drop c)) = f at *
  have HF : Hid (∀ z : ByteArray, Lib.hasPrefix z.data.toList (pat.data.toList.drop c) = f z) := by show ∀ z, _; intro z; rw [← hf]
  clear hf
  go_enter Try.func206, Try.ntmps206
  go_wp2_with fail
  go_loopw [8] (fun i wr => ∃ k : Nat, k ≤ n ∧ i = .int .i64 k ∧ Below W.heap.size W wr ∧ (ns.take k).any f = false) (fun i _ => n - (intOf i).toNat)
  case atStart => exact ⟨0, Nat.zero_le _, rfl, Below.refl _ _, rfl⟩
  case round =>
    obtain ⟨k, hk, rfl, hb, hff⟩ := hrel
    have HB := Lib.hid hb
    have HK := Lib.hid (HR.out.keep hb)
    have HF0 := Lib.hid hff
    clear hb hff
    by_cases hlt : k < n
    · have hkl : k < ns.length := by rw [HL.out]; exact hlt
      obtain ⟨A, nn, cc, e, -, -, -, hcs⟩ := HK.out
      cases e
      obtain ⟨b, o, rfl, hgl, hc⟩ := hcs (by omega)
      have hc0 := hc k hkl
      have HS := Lib.hid (anyS_take f ns k hkl)
      have HY := Lib.hid (anyS_yes f ns k hkl)
      have hk0 : (0 : Int) ≤ (k : Int) := by omega
      have hk1 : (k : Int) < (n : Int) := by omega
      have HCC := Lib.hid (HC.out wr ns[k] (H3.out.keep HB.out) (HG.out.keep HB.out))
      rw [HF.out] at HCC
      clear hc hcs
      generalize ns[k] = z at *
      cases hz : f z
      · have HX : Hid ((ns.take (k + 1)).any f = false) := by show _ = _; rw [HS.out, HF0.out, hz]; rfl
        rw [hz] at HCC
        clear hz
        go_wp2_with fail
        refine HCC.out.mono ?_; rintro e w1 ⟨rfl, hb1⟩
        have HB1 := Lib.hid (HB.out.trans (hb1.mono HB.out.size))
        clear hb1 HB hc0
        go_wp2_with fail
        go_roundw
        case rel => exact ⟨k + 1, by omega, by go_num, HB1.out, HX.out⟩
        case measure => simp [intOf]; omega
      · have HX : Hid (ns.any f = true) := by show _ = _; exact HY.out hz
        rw [hz] at HCC
        clear hz
        go_wp2_with fail
        refine HCC.out.mono ?_; rintro e w1 ⟨rfl, hb1⟩
        have HB1 := Lib.hid (HB.out.trans (hb1.mono HB.out.size))
        clear hb1 HB hc0
        go_wp2_with fail
        go_ret
        exact ⟨k, rfl, by rw [HX.out]; exact decide_eq_true hk0, by omega, by omega, HB1.out⟩
    · obtain rfl : k = n := by omega
      have HX : Hid (ns.any f = false) := by show _ = _; have := HF0.out; rwa [List.take_of_length_le (by rw [HL.out]; exact Nat.le_refl _)] at this
      go_wp2_with fail
      go_ret
      exact ⟨-1, rfl, by rw [HX.out]; rfl, by decide, by decide, HB.out⟩

theorem containsFuncS (W : World) (v : Value) (ns : List ByteArray) (b3 g : Nat) (pat : ByteArray) (c : Nat) (hp : pat.size ≤ 400) (hc : c ≤ pat.size) (h3 : Bk W b3 [.string pat]) (hg : Bk W g [.int .i64 c]) (hr : RdS W v ns) (hn : ns.length ≤ 4000000) :
    Calls Try.prog 196 #[v, .func (.func 193) #[] #[.pointer (some ⟨b3, 0, none⟩), .pointer (some ⟨g, 0, none⟩)]] W fun e w' => e = .returned (.bool (ns.any fun z => Lib.hasPrefix z.data.toList (pat.data.toList.drop c))) ∧ Below W.heap.size W w' := by
  have HC := Lib.hid (indexFuncS W v ns b3 g pat c hp hc h3 hg hr hn)
  have hr' := hr
  obtain ⟨A, n, cp, e, hl, -⟩ := hr'
  subst e
  clear hr hl h3 hg
  go_enter Try.func196, Try.ntmps196
  go_wp2_with fail
  refine HC.out.mono ?_; rintro e w1 ⟨r, rfl, hr, r1, r2, hb1⟩
  have HR := Lib.hid hr
  have HB := Lib.hid hb1
  clear hr hb1
  go_wp2_with fail
  go_ret
  exact ⟨ret_bool HR.out, HB.out⟩

/-- What the cell behind a pointer holds, as a number. -/
def ptrNat (t : Value) (W : World) : Nat := match t with
  | .pointer (some a) => (intOf ((W.cell? a).getD (.int .i64 0))).toNat
  | _ => 0
theorem ptrNat_bk {W : World} {g : Nat} {c : Nat} (h : Bk W g [.int .i64 (c : Int)]) : ptrNat (.pointer (some ⟨g, 0, none⟩)) W = c := by
  show (intOf ((W.cell? ⟨g, 0, none⟩).getD (.int .i64 0))).toNat = c
  rw [h.c 0 _ rfl]; simp [intOf]
theorem la_no {y pat : List UInt8} {ns : List ByteArray} (h : ∀ c, 1 ≤ c → c < pat.length → acr y pat ns c = false) : laB y pat ns = false := by
  cases e : laB y pat ns
  · rfl
  · obtain ⟨c, h1, h2, h3⟩ := (laB_iff _ _ _).1 e
    rw [h c h1 h2] at h3; exact absurd h3 (by decide)
set_option maxHeartbeats 1600000 in
theorem liesAcross_any (W : World) (v : Value) (ns : List ByteArray) (pat y : ByteArray) (hp : pat.size ≤ 400) (hy : y.size ≤ 400) (hr : RdS W v ns) (hn : ns.length ≤ 4000000) :
    Calls Try.prog 173 #[.string pat, .string y, v] W fun e w' => e = .returned (.bool (laB y.data.toList pat.data.toList ns)) ∧ Below W.heap.size W w' := by
  have hr' := hr
  obtain ⟨A, n, cp, e, hl, -⟩ := hr'
  subst e
  have HB0 : Hid (Below W.heap.size W (W.alloc (.cells #[.string pat] 9))) := (Below.refl _ _).alloc (Nat.le_refl _) _
  have hk0 := Bk.new W [.string pat] 9 W.heap.size rfl
  have hk1 := Bk.new (W.alloc (.cells #[.string pat] 9)) [.int .i64 1] 3 (W.heap.size + 1) (by simp)
  have HR := Lib.hid hr
  clear hr hl
  go_enter Try.func173, Try.ntmps173
  go_wp2_with fail
  have hk0' := hk0.alloc (.cells #[.int .i64 1] 3)
  have HB1 : Hid (Below W.heap.size W ((W.alloc (.cells #[.string pat] 9)).alloc (.cells #[.int .i64 1] 3))) := HB0.out.alloc (by simp) _
  have HQ0 : Hid (Bk ((W.alloc (.cells #[.string pat] 9)).alloc (.cells #[.int .i64 1] 3)) W.heap.size [.string pat]) := hk0'
  have HQ1 : Hid (Bk ((W.alloc (.cells #[.string pat] 9)).alloc (.cells #[.int .i64 1] 3)) (W.heap.size + 1) [.int .i64 ((1 : Nat) : Int)]) := hk1
  clear hk0 hk1 hk0' HB0
  generalize (W.alloc (.cells #[.string pat] 9)).alloc (.cells #[.int .i64 1] 3) = W1 at *
  go_loopw [7] (fun t wr => ∃ g c : Nat, t = .pointer (some ⟨g, 0, none⟩) ∧ 1 ≤ c ∧ c ≤ pat.size + 1 ∧ W.heap.size < g ∧ Bk wr W.heap.size [.string pat] ∧ Bk wr g [.int .i64 (c : Int)] ∧ Below W.heap.size W wr ∧ ∀ c', 1 ≤ c' → c' < c → acr y.data.toList pat.data.toList ns c' = false) (fun t wr => pat.size + 2 - ptrNat t wr)
  case atStart => exact ⟨W.heap.size + 1, 1, rfl, Nat.le_refl _, by omega, by omega, HQ0.out, HQ1.out, HB1.out, fun c' h1 h2 => by omega⟩
  case round =>
    clear HQ0 HQ1 HB1
    obtain ⟨g, c, rfl, hc1, hc2, hgW, hq0, hq1, hbl, hno⟩ := hrel
    have HQ0 := Lib.hid hq0
    have HQ1 := Lib.hid hq1
    have HB := Lib.hid hbl
    have HNO := Lib.hid hno
    have q0 := hq0.c 0 _ rfl
    have q1 := hq1.c 0 _ rfl
    clear hq0 hq1 hbl hno
    by_cases hlt : c < pat.size
    · have hac : acr y.data.toList pat.data.toList ns c = (Lib.hasSuffix y.data.toList (pat.data.toList.take c) && ns.any fun z => Lib.hasPrefix z.data.toList (pat.data.toList.drop c)) := rfl
      have hsx := fun W => Try.strings_HasSuffix y (pat.extract 0 c) W (by omega)
      rw [extract_to] at hsx
      have hcf := containsFuncS wr (.slice A n cp) ns W.heap.size g pat c hp (by omega) HQ0.out HQ1.out (HR.out.keep HB.out) hn
      generalize hX : Lib.hasSuffix y.data.toList (pat.data.toList.take c) = X at *
      generalize hY : (ns.any fun z => Lib.hasPrefix z.data.toList (pat.data.toList.drop c)) = Y at *
      have HSX := Lib.hid hsx
      have HCF := Lib.hid hcf
      have HAC := Lib.hid hac
      have c0 : (0 : Int) ≤ (c : Int) := by omega
      have c1 : (c : Int) ≤ (pat.size : Int) := by omega
      have c2 : (c : Int) < (pat.size : Int) := by omega
      clear hsx hcf hac hX hY
      cases X
      · go_wp2_with fail
        refine (HSX.out _).mono ?_; rintro e w' ⟨rfl, rfl⟩
        have KN : Bk (w'.alloc (.cells #[.int .i64 ((c : Int) + 1)] 3)) w'.heap.size [.int .i64 ((c + 1 : Nat) : Int)] := by rw [show ((c + 1 : Nat) : Int) = (c : Int) + 1 from by omega]; exact Bk.new _ [.int .i64 ((c : Int) + 1)] _ _ rfl
        have HKA := Lib.hid (HQ0.out.alloc (.cells #[.int .i64 ((c : Int) + 1)] 3))
        have HKN := Lib.hid KN
        have hgs : W.heap.size < w'.heap.size := HQ0.out.2.2
        have HBN : Hid (Below W.heap.size W (w'.alloc (.cells #[.int .i64 ((c : Int) + 1)] 3))) := HB.out.alloc (by omega) _
        clear KN
        go_wp2_with fail
        go_roundw
        case rel => exact ⟨w'.heap.size, c + 1, rfl, by omega, by omega, hgs, HKA.out, HKN.out, HBN.out, fun c' h1 h2 => by
            by_cases h3 : c' = c
            · subst h3; rw [HAC.out]; rfl
            · exact HNO.out c' h1 (by omega)⟩
        case measure => rw [ptrNat_bk HKN.out, ptrNat_bk HQ1.out]; omega
      · cases Y
        · go_wp2_with fail
          refine (HSX.out _).mono ?_; rintro e w' ⟨rfl, rfl⟩
          go_wp2_with fail
          refine HCF.out.mono ?_; rintro e w5 ⟨rfl, hb5⟩
          have K0 := HQ0.out.keep hb5
          have K1 := HQ1.out.keep hb5
          have HB5 := Lib.hid (HB.out.trans (hb5.mono HB.out.size))
          clear q0 q1 hb5
          have q0 := K0.c 0 _ rfl
          have q1 := K1.c 0 _ rfl
          have KN : Bk (w5.alloc (.cells #[.int .i64 ((c : Int) + 1)] 3)) w5.heap.size [.int .i64 ((c + 1 : Nat) : Int)] := by rw [show ((c + 1 : Nat) : Int) = (c : Int) + 1 from by omega]; exact Bk.new _ [.int .i64 ((c : Int) + 1)] _ _ rfl
          have HKA := Lib.hid (K0.alloc (.cells #[.int .i64 ((c : Int) + 1)] 3))
          have HKN := Lib.hid KN
          have hgs : W.heap.size < w5.heap.size := K0.2.2
          have HBN : Hid (Below W.heap.size W (w5.alloc (.cells #[.int .i64 ((c : Int) + 1)] 3))) := HB5.out.alloc (by omega) _
          clear KN
          go_wp2_with fail
          go_roundw
          case rel => exact ⟨w5.heap.size, c + 1, rfl, by omega, by omega, hgs, HKA.out, HKN.out, HBN.out, fun c' h1 h2 => by
              by_cases h3 : c' = c
              · subst h3; rw [HAC.out]; rfl
              · exact HNO.out c' h1 (by omega)⟩
          case measure => rw [ptrNat_bk HKN.out, ptrNat_bk HQ1.out]; omega
        · go_wp2_with fail
          refine (HSX.out _).mono ?_; rintro e w' ⟨rfl, rfl⟩
          go_wp2_with fail
          refine HCF.out.mono ?_; rintro e w5 ⟨rfl, hb5⟩
          have HB5 := Lib.hid (HB.out.trans (hb5.mono HB.out.size))
          clear hb5
          have HLA : Hid (laB y.data.toList pat.data.toList ns = true) := (laB_iff _ _ _).2 ⟨c, hc1, by simpa using hlt, by rw [HAC.out]; rfl⟩
          go_wp2_with fail
          go_ret
          exact ⟨ret_bool HLA.out.symm, HB5.out⟩
    · have HLA : Hid (laB y.data.toList pat.data.toList ns = false) := la_no fun c' h1 h2 => HNO.out c' h1 (by simp at h2; omega)
      have c2 : ¬ (c : Int) < (pat.size : Int) := by omega
      go_wp2_with fail
      go_ret
      exact ⟨ret_bool HLA.out.symm, HB.out⟩
end Go.Proofs.Ytijmfienaoeboab
