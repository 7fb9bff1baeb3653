/- Several texts in one: Contracts of l01Xor and of both XorBits, and the walk of its law. | The program's XorBits, and the walk of its law. | Both AddScramble. | What FindKey answers (plain). -/
import Derived.Test.YtddlpbpcdjddpaaBits
import Derived.Test.YtddlpbpcdjddpaaOwn
import Derived.Deep.RegionLaw
import Derived.Deep.AppendLies
import Derived.Test.YtddlpbpcdjddpaaSpMa
import Derived.Test.YtddlpbpcdjddpaaFkP
namespace Go.Proofs.Ytddlpbpcdjddpaa
open Go Go.RowKit
set_option linter.unusedVariables false

/-- Where bits differ. -/
def xorB (a b : List UInt8) (k : Nat) : List UInt8 := (List.range k).map fun j => if a[j]? = b[j]? then 48 else 49
theorem xorB_succ (a b : List UInt8) (k : Nat) : xorB a b (k + 1) = xorB a b k ++ [if a[k]? = b[k]? then 48 else 49] := by simp [xorB, List.range_succ]
theorem xorB_length (a b : List UInt8) (k : Nat) : (xorB a b k).length = k := by simp [xorB]

def xpart (a b : List UInt8) (n k : Nat) : List Value := byteVals (xorB a b k) ++ List.replicate (n - k) (.int .u8 0)
theorem xpart_zero (a b : List UInt8) (n : Nat) : xpart a b n 0 = List.replicate n (.int .u8 0) := by simp [xpart, xorB, byteVals]
theorem xpart_full (a b : List UInt8) (n : Nat) : xpart a b n n = byteVals (xorB a b n) := by simp [xpart]
theorem xpart_set (a b : List UInt8) (n k : Nat) (hk : k < n) (c : UInt8) (hc : (if a[k]? = b[k]? then (48 : UInt8) else 49) = c) : (xpart a b n k).set k (.int .u8 (c.toNat : Int)) = xpart a b n (k + 1) := by
  unfold xpart
  rw [List.set_append, if_neg (by rw [byteVals_length, xorB_length]; omega), byteVals_length, xorB_length, Nat.sub_self, xorB_succ, ← byteVals_snoc, hc]
  obtain ⟨m, hm⟩ : ∃ m, n - k = m + 1 := ⟨n - k - 1, by omega⟩
  rw [hm, show n - (k + 1) = m from by omega, List.replicate_succ]
  simp

/-- Two texts of few bits that are as long. -/
def xorOk (a b : List UInt8) : Bool := isB a && isB b && decide (a.length = b.length)
theorem isB_parts {l : List UInt8} (h : isB l = true) : l.length ≤ 400 ∧ inR 48 49 l = true := by
  unfold isB at h
  have h' := Bool.and_eq_true_iff.1 h
  exact ⟨of_decide_eq_true h'.1, h'.2⟩

end Go.Proofs.Ytddlpbpcdjddpaa

namespace Go.Proofs.Ytddlpbpcdjddpaa
open Go Go.RowKit
set_option linter.unusedVariables false

set_option maxRecDepth 100000 in
theorem xor_yes_impl (a b : ByteArray) (w : World) (ha : isB a.data.toList = true) (hb : isB b.data.toList = true) (hab : a.size = b.size) :
    Calls Try.prog 30 #[.string a, .string b] w fun e w' => e = .returned (.tuple #[.string ⟨(xorB a.data.toList b.data.toList a.size).toArray⟩, .bool true]) ∧ Below w.heap.size w w' := by
  obtain ⟨i0, hi, hz0, hz1, hz2⟩ := info_parts Try.infoByte
  have pa := isB_parts ha
  have pb := isB_parts hb
  have la : a.size ≤ 400 := by simpa using pa.1
  have lb : b.size ≤ 400 := by simpa using pb.1
  have PA := Lib.hid pa.2
  have PB := Lib.hid pb.2
  have hne : ((a.size : Int) != (b.size : Int)) = false := bne_f (by omega)
  have HAB := Lib.hid hab
  clear pa pb hab
  go_enter Try.func30, Try.ntmps30
  go_wp2_with fail
  refine (isBits_any _ _ (by unfold maxLen; omega)).mono ?_; rintro e w1 ⟨rfl, hb1⟩
  go_wp2_with fail
  refine (isBits_any _ _ (by unfold maxLen; omega)).mono ?_; rintro e w2 ⟨rfl, hb2⟩
  have hbb : Below w.heap.size w w2 := hb1.trans (hb2.mono hb1.size)
  clear hb1 hb2
  go_wp2_with (at_make; refine wpList_make_full _ rfl _ _ 41 rfl w2.heap.size 5 i0 (.int .u8 0) 1 Try.underlying41 hi hz0 hz1 _ _ _ _ a.size rfl rfl rfl rfl ?b2 ?b3 (Nat.le_refl _) ?_)
  case b2 => rw [hz2]; omega
  case b3 => unfold maxLen; omega
  intro w3 hown hgrow
  have hb3 : Below w.heap.size w w3 := hbb.grown hgrow hbb.size (by simp)
  rw [toList_madeCells_one, ← xpart_zero a.data.toList b.data.toList a.size] at hown
  have hBB := hbb.size
  clear hgrow hbb ha hb
  go_wp2_with fail
  go_loopw [7, 28] (fun _ i wr => ∃ j : Nat, j ≤ a.size ∧ i = .int .i64 j ∧ wr.ownsRow w2.heap.size 5 1 (.slice (some ⟨w2.heap.size, 0, none⟩) a.size a.size) a.size (xpart a.data.toList b.data.toList a.size j) ∧ Below w.heap.size w wr) (fun _ i _ => a.size - (intOf i).toNat)
  case atStart => exact ⟨0, Nat.zero_le _, rfl, hown, hb3⟩
  case round =>
    obtain ⟨k, hk, rfl, hown1, hb⟩ := hrel
    clear hown hb3
    by_cases hlt : k < a.size
    · have hltb : k < b.size := by have := HAB.out; omega
      obtain ⟨a1, a2⟩ := inR_at 48 49 a k hlt PA.out
      obtain ⟨b1, b2⟩ := inR_at 48 49 b k hltb PB.out
      have f2 : IntKind.u8.wrap 48 = 48 := by decide
      have f3 : IntKind.u8.wrap 49 = 49 := by decide
      have x0 : bits .xor .u8 48 48 = 0 := by decide
      have x1 : bits .xor .u8 48 49 = 1 := by decide
      have x2 : bits .xor .u8 49 48 = 1 := by decide
      have x3 : bits .xor .u8 49 49 = 0 := by decide
      have hfr := hown1.frozenAt k
      have hcl := hown1.cellAt k (by omega)
      obtain ⟨u, hu⟩ : ∃ u, (xpart a.data.toList b.data.toList a.size k)[k]? = some u := ⟨_, List.getElem?_eq_getElem (by simp [xpart, byteVals_length, xorB_length]; omega)⟩
      rw [hu] at hcl
      clear hu
      have e1 : a.data.toList[k]? = some a[k] := by rw [List.getElem?_eq_getElem (by simpa using hlt)]; rfl
      have e2 : b.data.toList[k]? = some b[k] := by rw [List.getElem?_eq_getElem (by simpa using hltb)]; rfl
      have E1 := Lib.hid e1
      have E2 := Lib.hid e2
      clear e1 e2
      have hk0 : (0 : Int) ≤ (k : Int) := by omega
      have hk1 : (k : Int) < (a.size : Int) := by omega
      have hk2 : (k : Int) < (b.size : Int) := by omega
      rcases (show (a[k].toNat : Int) = 48 ∨ (a[k].toNat : Int) = 49 from by omega) with ea | ea
      · rcases (show (b[k].toNat : Int) = 48 ∨ (b[k].toNat : Int) = 49 from by omega) with eb | eb
        · have hst := (hown1.stored k (.int .u8 ((48 : UInt8).toNat : Int))).1
          rw [xpart_set _ _ _ k hlt 48 (by
            have e3 : a[k] = 48 := UInt8.toNat_inj.1 (by simpa using (by omega : a[k].toNat = 48))
            have e4 : b[k] = 48 := UInt8.toNat_inj.1 (by simpa using (by omega : b[k].toNat = 48))
            rw [E1.out, E2.out, e3, e4]; decide)] at hst
          have HST := Lib.hid hst
          have hbs := hb.setCell (p := ⟨w2.heap.size, k, none⟩) hBB (.int .u8 ((48 : UInt8).toNat : Int))
          have HBS := Lib.hid hbs
          clear hst hown1 hb hbs a1 a2 b1 b2
          go_wp2_with fail
          go_region
          all_goals
            go_wp2_with fail
            go_roundw
            case rel => exact ⟨k + 1, by omega, by go_num, HST.out, HBS.out.drew⟩
            case measure => simp [intOf]; omega
        · have hst := (hown1.stored k (.int .u8 ((49 : UInt8).toNat : Int))).1
          rw [xpart_set _ _ _ k hlt 49 (by
            have e3 : a[k] = 48 := UInt8.toNat_inj.1 (by simpa using (by omega : a[k].toNat = 48))
            have e4 : b[k] = 49 := UInt8.toNat_inj.1 (by simpa using (by omega : b[k].toNat = 49))
            rw [E1.out, E2.out, e3, e4]; decide)] at hst
          have HST := Lib.hid hst
          have hbs := hb.setCell (p := ⟨w2.heap.size, k, none⟩) hBB (.int .u8 ((49 : UInt8).toNat : Int))
          have HBS := Lib.hid hbs
          clear hst hown1 hb hbs a1 a2 b1 b2
          go_wp2_with fail
          go_region
          all_goals
            go_wp2_with fail
            go_roundw
            case rel => exact ⟨k + 1, by omega, by go_num, HST.out, HBS.out.drew⟩
            case measure => simp [intOf]; omega
      · rcases (show (b[k].toNat : Int) = 48 ∨ (b[k].toNat : Int) = 49 from by omega) with eb | eb
        · have hst := (hown1.stored k (.int .u8 ((49 : UInt8).toNat : Int))).1
          rw [xpart_set _ _ _ k hlt 49 (by
            have e3 : a[k] = 49 := UInt8.toNat_inj.1 (by simpa using (by omega : a[k].toNat = 49))
            have e4 : b[k] = 48 := UInt8.toNat_inj.1 (by simpa using (by omega : b[k].toNat = 48))
            rw [E1.out, E2.out, e3, e4]; decide)] at hst
          have HST := Lib.hid hst
          have hbs := hb.setCell (p := ⟨w2.heap.size, k, none⟩) hBB (.int .u8 ((49 : UInt8).toNat : Int))
          have HBS := Lib.hid hbs
          clear hst hown1 hb hbs a1 a2 b1 b2
          go_wp2_with fail
          go_region
          all_goals
            go_wp2_with fail
            go_roundw
            case rel => exact ⟨k + 1, by omega, by go_num, HST.out, HBS.out.drew⟩
            case measure => simp [intOf]; omega
        · have hst := (hown1.stored k (.int .u8 ((48 : UInt8).toNat : Int))).1
          rw [xpart_set _ _ _ k hlt 48 (by
            have e3 : a[k] = 49 := UInt8.toNat_inj.1 (by simpa using (by omega : a[k].toNat = 49))
            have e4 : b[k] = 49 := UInt8.toNat_inj.1 (by simpa using (by omega : b[k].toNat = 49))
            rw [E1.out, E2.out, e3, e4]; decide)] at hst
          have HST := Lib.hid hst
          have hbs := hb.setCell (p := ⟨w2.heap.size, k, none⟩) hBB (.int .u8 ((48 : UInt8).toNat : Int))
          have HBS := Lib.hid hbs
          clear hst hown1 hb hbs a1 a2 b1 b2
          go_wp2_with fail
          go_region
          all_goals
            go_wp2_with fail
            go_roundw
            case rel => exact ⟨k + 1, by omega, by go_num, HST.out, HBS.out.drew⟩
            case measure => simp [intOf]; omega
    · obtain rfl : k = a.size := by omega
      rw [xpart_full] at hown1
      have hcv := conv_own hown1
      go_wp2_with fail
      go_ret2
      exact ⟨rfl, hb⟩

theorem xor_no_impl (a b : ByteArray) (w : World) (hsa : a.size ≤ maxLen) (hsb : b.size ≤ maxLen) (h : ¬ (isB a.data.toList = true ∧ isB b.data.toList = true ∧ a.size = b.size)) :
    Calls Try.prog 30 #[.string a, .string b] w fun e w' => e = .returned (.tuple #[.string ⟨#[]⟩, .bool false]) ∧ Below w.heap.size w w' := by
  have HSA := Lib.hid hsa
  have HSB := Lib.hid hsb
  unfold maxLen at hsa hsb
  by_cases ha : isB a.data.toList = true
  · by_cases hb : isB b.data.toList = true
    · have hne : ((a.size : Int) != (b.size : Int)) = true := bne_t (fun e => h ⟨ha, hb, by omega⟩)
      clear h
      go_enter Try.func30, Try.ntmps30
      go_wp2_with fail
      refine (isBits_any _ _ HSA.out).mono ?_; rintro e w1 ⟨rfl, hb1⟩
      go_wp2_with fail
      refine (isBits_any _ _ HSB.out).mono ?_; rintro e w2 ⟨rfl, hb2⟩
      go_wp2_with fail
      go_ret2
      exact ⟨rfl, hb1.trans (hb2.mono hb1.size)⟩
    · have hb' : isB b.data.toList = false := by simpa using hb
      clear h hb
      go_enter Try.func30, Try.ntmps30
      go_wp2_with fail
      refine (isBits_any _ _ HSA.out).mono ?_; rintro e w1 ⟨rfl, hb1⟩
      go_wp2_with fail
      refine (isBits_any _ _ HSB.out).mono ?_; rintro e w2 ⟨rfl, hb2⟩
      go_wp2_with fail
      go_ret2
      exact ⟨rfl, hb1.trans (hb2.mono hb1.size)⟩
  · have ha' : isB a.data.toList = false := by simpa using ha
    clear h ha
    go_enter Try.func30, Try.ntmps30
    go_wp2_with fail
    refine (isBits_any _ _ HSA.out).mono ?_; rintro e w1 ⟨rfl, hb1⟩
    go_wp2_with fail
    go_ret2
    exact ⟨rfl, hb1⟩

end Go.Proofs.Ytddlpbpcdjddpaa

namespace Go.Proofs.Ytddlpbpcdjddpaa
open Go Go.RowKit
set_option linter.unusedVariables false
/-- The key with the first k bits added. -/
def mx (K G : List Nat) (k : Nat) : List Nat := (List.range K.length).map fun i => if i < k then K.getD i 0 ^^^ G.getD i 0 else K.getD i 0
theorem mx_len (K G : List Nat) (k : Nat) : (mx K G k).length = K.length := by simp [mx]
theorem mx_get (K G : List Nat) (k i : Nat) (h : i < K.length) : (mx K G k).getD i 0 = if i < k then K.getD i 0 ^^^ G.getD i 0 else K.getD i 0 := by
  unfold mx
  rw [List.getD, List.getElem?_map, List.getElem?_range h]; rfl
theorem mx_zero (K G : List Nat) : mx K G 0 = K := by
  refine List.ext_getElem (mx_len _ _ _) fun i h1 h2 => ?_
  simp [mx, List.getD, List.getElem?_eq_getElem h2]
theorem getD_bit {M : List Nat} (h : bitsN M) (i : Nat) : M.getD i 0 ≤ 1 := by
  rw [List.getD]
  cases e : M[i]?
  · simp
  · exact h _ (List.mem_of_getElem? e)
theorem mx_bits {K G : List Nat} (hK : bitsN K) (hG : bitsN G) (k : Nat) : bitsN (mx K G k) := by
  intro x hx
  unfold mx at hx
  obtain ⟨i, -, rfl⟩ := List.mem_map.1 hx
  split
  · exact xor_le (getD_bit hK i) (getD_bit hG i)
  · exact getD_bit hK i
def adL (l : List Int) (s g : List UInt8) : List UInt8 := tx (mx (kb l (stQ s) g.length) (gb g) g.length)
def adV (l : List Int) (s g : List UInt8) : ByteArray := if scbOk l s g then ⟨(adL l s g).toArray⟩ else ⟨#[]⟩
theorem adV_no {l : List Int} {s g : List UInt8} (h : scbOk l s g = false) : adV l s g = ⟨#[]⟩ := by unfold adV; rw [h]; rfl
theorem adV_yes {l : List Int} {s g : List UInt8} (h : scbOk l s g = true) : adV l s g = ⟨(adL l s g).toArray⟩ := by unfold adV; rw [h]; rfl
theorem tx_inR {M : List Nat} (h : bitsN M) : inR 48 49 (tx M) = true := by
  unfold inR tx
  rw [List.all_eq_true]
  intro c hc
  obtain ⟨m, hm, rfl⟩ := List.mem_map.1 hc
  have := h m hm
  have e := tx_byte this
  exact decide_eq_true (by omega)
theorem tx_get (M : List Nat) (i : Nat) (h : i < (tx M).length) (h' : i < M.length) : (tx M)[i] = UInt8.ofNat (48 + M[i]) := by simp [tx]
/-- The program's exclusive or of a text and the key. -/
theorem xor_key {g : List UInt8} {K : List Nat} (hg : inR 48 49 g = true) (hK : bitsN K) (hl : K.length = g.length) : xorB g (tx K) g.length = tx (mx K (gb g) g.length) := by
  refine List.ext_getElem (by rw [xorB_length, tx_len, mx_len, hl]) fun i h1 h2 => ?_
  rw [xorB_length] at h1
  have hiK : i < K.length := by omega
  have e1 : (tx K)[i]? = some (UInt8.ofNat (48 + K[i])) := by
    unfold tx
    rw [List.getElem?_map, List.getElem?_eq_getElem hiK]; rfl
  have hy := of_decide_eq_true (List.all_eq_true.1 hg g[i] (List.getElem_mem h1))
  have hk := hK K[i] (List.getElem_mem hiK)
  have e2 : (mx K (gb g) g.length)[i]'(by rw [mx_len]; exact hiK) = K[i] ^^^ (g[i].toNat - 48) := by
    simp [mx, h1, gb, List.getD, List.getElem?_eq_getElem hiK]
  have e3 : (tx (mx K (gb g) g.length))[i]'h2 = UInt8.ofNat (48 + (K[i] ^^^ (g[i].toNat - 48))) := by
    rw [tx_get _ _ _ (by rw [mx_len]; exact hiK), e2]
  rw [e3]
  simp only [xorB, List.getElem_map, List.getElem_range, e1, List.getElem?_eq_getElem h1, Option.some.injEq]
  have hg2 : g[i] = 48 ∨ g[i] = 49 := by
    have : g[i].toNat = 48 ∨ g[i].toNat = 49 := by omega
    rcases this with h | h
    · exact .inl (UInt8.toNat_inj.1 h)
    · exact .inr (UInt8.toNat_inj.1 h)
  have hk2 : K[i] = 0 ∨ K[i] = 1 := by omega
  rcases hg2 with e | e <;> rcases hk2 with f | f <;> rw [e, f] <;> decide

set_option maxRecDepth 100000 in
set_option maxHeartbeats 1000000 in
theorem addScramble_impl (w : World) (v : Value) (l : List Int) (s g : ByteArray) (hb : ∀ n ∈ l, -9223372036854775808 ≤ n ∧ n ≤ 9223372036854775807) (hs : s.size ≤ maxLen) (hg : g.size ≤ maxLen) (h : Rd w v l) :
    Calls Try.prog 34 #[.agg #[v, .string s], .string g] w fun e w' =>
      e = .returned (.tuple #[.string (adV l s.data.toList g.data.toList), .bool (scbOk l s.data.toList g.data.toList)]) ∧ Below w.heap.size w w' := by
  have hB : Below w.heap.size w (w.alloc (.cells #[v, .string s] 28)) := (Below.refl _ _).alloc (Nat.le_refl _) _
  have HBK : Hid (Bk (w.alloc (.cells #[v, .string s] 28)) w.heap.size (scV v s)) := Bk.new w (scV v s) 28 _ rfl
  have HKI := Lib.hid (fun W h => keyBits_impl W v l s g.size hb hs h)
  have HB := Lib.hid hB
  have HRD := Lib.hid (h.keep hB)
  have hE : scbOk l s.data.toList g.data.toList = (scOk l s.data.toList && isB g.data.toList) := rfl
  have hK : kyOk l s.data.toList g.size = (scOk l s.data.toList && decide ((0 : Int) ≤ (g.size : Int) ∧ (g.size : Int) ≤ 400)) := rfl
  have hsz : g.data.toList.length = g.size := by simp
  obtain ⟨A1, c1, rfl⟩ := rd_shp h
  obtain ⟨n1, hn1⟩ : ∃ n1, n1 = l.length := ⟨_, rfl⟩
  rw [← hn1] at HBK HB HRD HKI ⊢
  clear h hb hs hB hn1
  have hgl := hg
  unfold maxLen at hgl
  by_cases hky : kyOk l s.data.toList g.size = true
  · rw [hky, kyV_yes hky] at HKI
    rw [hK, Bool.and_eq_true] at hky
    obtain ⟨hok, hc⟩ := hky
    have hc := of_decide_eq_true hc
    rw [hok, Bool.true_and] at hE
    have hQ := stQ_bits (isB_r (scOk_parts hok).2.1).2
    have hkl := kb_len (l := l) hQ g.size
    have hkb := kb_bits (l := l) hQ g.size
    have hLk : kyL l s.data.toList g.size = tx (kb l (stQ s.data.toList) g.size) := by unfold kyL; rw [Int.toNat_natCast]
    rw [hLk] at HKI
    have hisK : isB (tx (kb l (stQ s.data.toList) g.size)) = true := by
      unfold isB
      rw [tx_inR hkb, tx_len, hkl, decide_eq_true (by omega)]; rfl
    cases hib : isB g.data.toList
    · rw [hib] at hE
      rw [adV_no hE, hE]
      have HX := Lib.hid (fun W => xor_no_impl g ⟨(tx (kb l (stQ s.data.toList) g.size)).toArray⟩ W hg (by show (tx _).toArray.size ≤ _; unfold maxLen; rw [List.size_toArray, tx_len, hkl]; omega) (by rintro ⟨h1, -⟩; rw [hib] at h1; cases h1))
      generalize (⟨(tx (kb l (stQ s.data.toList) g.size)).toArray⟩ : ByteArray) = Z at *
      clear hE hok hQ hkl hkb hLk hisK hib hK hc hg hsz
      go_enter Try.func34, Try.ntmps34
      obtain ⟨q0, q1⟩ := sc_all HBK.out
      go_wp2_with fail
      refine (HKI.out _ HRD.out).mono ?_; rintro e w1 ⟨rfl, hb1⟩
      have HB1 := Lib.hid (HB.out.trans (hb1.mono HB.out.size))
      clear hb1 q0 q1
      go_wp2_with fail
      refine (HX.out _).mono ?_; rintro e w2 ⟨rfl, hb2⟩
      have HB2 := Lib.hid (HB1.out.trans (hb2.mono HB1.out.size))
      clear hb2
      go_wp2_with fail
      go_ret2
      exact ⟨rfl, HB2.out⟩
    · rw [hib] at hE
      rw [adV_yes hE, hE]
      have HX := Lib.hid (fun W => xor_yes_impl g ⟨(tx (kb l (stQ s.data.toList) g.size)).toArray⟩ W hib hisK (by show _ = (tx _).toArray.size; rw [List.size_toArray, tx_len, hkl]))
      have hx : xorB g.data.toList (⟨(tx (kb l (stQ s.data.toList) g.size)).toArray⟩ : ByteArray).data.toList g.size = adL l s.data.toList g.data.toList := by
        have := xor_key (isB_r hib).2 hkb (by rw [hkl, hsz])
        unfold adL
        rw [hsz] at this ⊢
        exact this
      rw [hx] at HX
      generalize (⟨(tx (kb l (stQ s.data.toList) g.size)).toArray⟩ : ByteArray) = Z at *
      clear hE hok hQ hkl hkb hLk hisK hib hK hc hg hsz hx
      go_enter Try.func34, Try.ntmps34
      obtain ⟨q0, q1⟩ := sc_all HBK.out
      go_wp2_with fail
      refine (HKI.out _ HRD.out).mono ?_; rintro e w1 ⟨rfl, hb1⟩
      have HB1 := Lib.hid (HB.out.trans (hb1.mono HB.out.size))
      clear hb1 q0 q1
      go_wp2_with fail
      refine (HX.out _).mono ?_; rintro e w2 ⟨rfl, hb2⟩
      have HB2 := Lib.hid (HB1.out.trans (hb2.mono HB1.out.size))
      clear hb2
      go_wp2_with fail
      go_ret2
      exact ⟨rfl, HB2.out⟩
  · have hky := Bool.eq_false_iff.2 hky
    rw [hky, kyV_no hky] at HKI
    have e0 : scbOk l s.data.toList g.data.toList = false := by
      rw [hE]
      rw [hK] at hky
      cases hok : scOk l s.data.toList
      · rfl
      · rw [hok, Bool.true_and] at hky
        have := of_decide_eq_false hky
        unfold isB
        rw [decide_eq_false (by rw [hsz]; omega)]; rfl
    rw [adV_no e0, e0]
    clear hE hK hky hg hsz e0
    go_enter Try.func34, Try.ntmps34
    obtain ⟨q0, q1⟩ := sc_all HBK.out
    go_wp2_with fail
    refine (HKI.out _ HRD.out).mono ?_; rintro e w1 ⟨rfl, hb1⟩
    have HB1 := Lib.hid (HB.out.trans (hb1.mono HB.out.size))
    clear hb1 q0 q1
    go_wp2_with fail
    go_ret2
    exact ⟨rfl, HB1.out⟩

set_option maxRecDepth 100000 in
set_option maxHeartbeats 1000000 in
theorem addScramble_spec (w : World) (v : Value) (l : List Int) (s g : ByteArray) (hb : ∀ n ∈ l, -9223372036854775808 ≤ n ∧ n ≤ 9223372036854775807) (hs : s.size ≤ maxLen) (hg : g.size ≤ maxLen) (h : Rd w v l) :
    Calls Try.prog 56 #[.agg #[v, .string s], .string g] w fun e w' =>
      e = .returned (.tuple #[.string (adV l s.data.toList g.data.toList), .bool (scbOk l s.data.toList g.data.toList)]) ∧ Below w.heap.size w w' := by
  have hB : Below w.heap.size w (w.alloc (.cells #[v, .string s] 28)) := (Below.refl _ _).alloc (Nat.le_refl _) _
  have hbk : Bk (w.alloc (.cells #[v, .string s] 28)) w.heap.size (scV v s) := Bk.new w (scV v s) 28 _ rfl
  have HI := Lib.hid (l06Is_any _ w.heap.size v s l hb hs hbk (h.keep hB))
  have HIB := Lib.hid (fun W => l01Bits_any g W hg)
  have HKY := Lib.hid (fun W n h1 h2 h3 h4 => l06Key_any W w.heap.size v l s n h1 h2 h3 h4)
  have HB := Lib.hid hB
  have HBK := Lib.hid hbk
  have HRD := Lib.hid (h.keep hB)
  have hE : scbOk l s.data.toList g.data.toList = (scOk l s.data.toList && isB g.data.toList) := rfl
  obtain ⟨A1, c1, rfl⟩ := rd_shp h
  obtain ⟨n1, hn1⟩ : ∃ n1, n1 = l.length := ⟨_, rfl⟩
  rw [← hn1] at HBK HB HRD HI HKY ⊢
  clear h hB hbk hn1 hb hs hg
  cases hok : scOk l s.data.toList
  · rw [hok, Bool.false_and] at hE
    rw [adV_no hE, hE]
    rw [hok] at HI
    clear hE hok HIB HKY
    go_enter Try.func56, Try.ntmps56
    go_wp2_with fail
    refine HI.out.mono ?_; rintro e w1 ⟨rfl, q, rfl⟩
    go_wp2_with fail
    go_ret2
    exact ⟨rfl, below_drewN HB.out q⟩
  · rw [hok, Bool.true_and] at hE
    rw [hok] at HI
    cases hok2 : isB g.data.toList
    · rw [hok2] at hE HIB
      rw [adV_no hE, hE]
      clear hE hok hok2 HKY
      go_enter Try.func56, Try.ntmps56
      go_wp2_with fail
      refine HI.out.mono ?_; rintro e w1 ⟨rfl, q, rfl⟩
      go_wp2_with fail
      refine (HIB.out _).mono ?_; rintro e w2 ⟨rfl, rfl⟩
      go_wp2_with fail
      go_ret2
      exact ⟨rfl, below_drewN HB.out q⟩
    · rw [hok2] at hE HIB
      rw [adV_yes hE, hE]
      obtain ⟨hp6, hp7⟩ := isB_r hok2
      have hsz : g.data.toList.length = g.size := by simp
      have hgs : g.size ≤ 400 := by rw [← hsz]; exact hp6
      have hQ := stQ_bits (isB_r (scOk_parts hok).2.1).2
      have hkl := kb_len (l := l) hQ g.size
      have hkb := kb_bits (l := l) hQ g.size
      have hG := gb_bits hp7
      have HKN := Lib.hid (fun W h3 h4 => HKY.out W g.size hgs hok h3 h4)
      have HIN := Lib.hid (fun k hk => inR_at 48 49 g k hk hp7)
      have HGG : Hid (∀ k (hk : k < g.size), (gb g.data.toList).getD k 0 = g[k].toNat - 48) := by
        show ∀ _ _, _
        intro k hk
        simp [gb, List.getD, List.getElem?_eq_getElem (show k < g.data.toList.length by rw [hsz]; exact hk)]
        rfl
      have HL : Hid (adL l s.data.toList g.data.toList = tx (mx (kb l (stQ s.data.toList) g.size) (gb g.data.toList) g.size)) := by show _ = _; unfold adL; rw [hsz]
      generalize kb l (stQ s.data.toList) g.size = K at *
      generalize gb g.data.toList = G at *
      have HTX := Lib.hid (fun W v h => l06Text_any W v (mx K G g.size) (mx_bits hkb hG _) (by rw [mx_len, hkl]; omega) h)
      have HKD := Lib.hid (fun i => getD_bit hkb i)
      have HGD := Lib.hid (fun i => getD_bit hG i)
      have HKL := Lib.hid hkl
      have H0 := Lib.hid (mx_zero K G)
      generalize adL l s.data.toList g.data.toList = LL at *
      clear hE hok hok2 HKY hp6 hp7 hsz hQ hkl hkb hG
      go_enter Try.func56, Try.ntmps56
      go_wp2_with fail
      refine HI.out.mono ?_; rintro e w1 ⟨rfl, q, rfl⟩
      go_wp2_with fail
      refine (HIB.out _).mono ?_; rintro e w2 ⟨rfl, rfl⟩
      have HB1 := Lib.hid (below_drewN HB.out q)
      go_wp2_with fail
      refine (HKN.out _ (HBK.out.drewN q) (HRD.out.drewN q)).mono ?_; rintro e w3 ⟨u, rfl, hkr, hb3⟩
      have HR3 : Hid (KR w.heap.size w3 u (mx K G 0)) := by
        show KR _ _ _ _
        rw [H0.out]
        obtain ⟨A, c, e, a1, a2, a3⟩ := hkr
        refine ⟨A, c, e, a1, a2, fun hp => ?_⟩
        obtain ⟨g0, o, ea, b1, b2⟩ := a3 hp
        exact ⟨g0, o, ea, by have := HB1.out.size; omega, b2⟩
      have HB3 := Lib.hid (HB1.out.trans (hb3.mono HB1.out.size))
      obtain ⟨A, c, e0⟩ : ∃ A c, u = .slice A g.size c := by
        obtain ⟨A, c, e, -⟩ := hkr
        exact ⟨A, c, by rw [← HKL.out]; exact e⟩
      subst e0
      clear hkr hb3 HBK HRD HB HI HIB HKN
      go_wp2_with fail
      go_loopw [7] (fun i wr => ∃ k : Nat, k ≤ g.size ∧ i = .int .i64 k ∧ KR w.heap.size wr (.slice A g.size c) (mx K G k) ∧ Below w.heap.size w wr) (fun i _ => g.size - (intOf i).toNat)
      case atStart => exact ⟨0, Nat.zero_le _, rfl, HR3.out, HB3.out⟩
      case round =>
        obtain ⟨k, hk, rfl, hkr, hbw⟩ := hrel
        by_cases hlt : k < g.size
        · have hIN := HIN.out k hlt
          have hGG := HGG.out k hlt
          obtain ⟨A', c', e', a1, a2, a3⟩ := hkr
          have hml : (mx K G k).length = g.size := by rw [mx_len, HKL.out]
          rw [hml] at e' a1 a2 a3
          injection e' with e1 e2 e3
          subst e1; subst e3
          obtain ⟨g0, o, rfl, b1, b2, b3⟩ := a3 (by omega)
          obtain ⟨hc0, hf0⟩ := b3 k hlt
          rw [mx_get _ _ _ _ (by rw [HKL.out]; exact hlt), if_neg (by omega)] at hc0
          have hk0 : (0 : Int) ≤ (k : Int) := by omega
          have hk1 : (k : Int) < (g.size : Int) := by omega
          obtain ⟨y, hy⟩ : ∃ y, g[k].toNat = y := ⟨_, rfl⟩
          rw [hy] at hIN hGG
          obtain ⟨x, rfl⟩ : ∃ x, y = x + 48 := ⟨y - 48, by omega⟩
          rw [show x + 48 - 48 = x from by omega] at hGG
          have hx : x ≤ 1 := by omega
          have hz := HKD.out k
          have hxo := u8_xor hz hx
          have hwx : IntKind.u8.wrap (x : Int) = (x : Int) := by simp [IntKind.wrap, IntKind.signed, IntKind.bits]; omega
          have hcv : (((x + 48 : Nat) : Int) - 48) % 256 = (x : Int) := by omega
          have HNX : Hid (∀ i, i < g.size → (mx K G (k + 1)).getD i 0 = if i = k then K.getD k 0 ^^^ x else (mx K G k).getD i 0) := by
            show ∀ _ _, _
            intro i hi
            rw [mx_get _ _ _ _ (by rw [HKL.out]; exact hi), mx_get _ _ _ _ (by rw [HKL.out]; exact hi)]
            by_cases e : i = k
            · subst e; rw [if_pos (by omega), if_pos rfl, hGG]
            · rw [if_neg e]
              by_cases e2 : i < k
              · rw [if_pos (by omega), if_pos e2]
              · rw [if_neg (by omega), if_neg e2]
          have HBW := Lib.hid hbw
          have HAA := Lib.hid (And.intro a1 (And.intro a2 (And.intro b1 (And.intro b2 b3))))
          clear a1 a2 a3 b3 hbw hIN hGG hml
          generalize K.getD k 0 = z at *
          obtain ⟨m, hm⟩ : ∃ m, z ^^^ x = m := ⟨_, rfl⟩
          rw [hm] at hxo HNX
          clear hm
          go_wp2_with fail
          go_region
          all_goals go_wp2_with fail
          obtain ⟨a1, a2, b1, b2, b3⟩ := HAA.out
          have hml : (mx K G (k + 1)).length = g.size := by rw [mx_len, HKL.out]
          refine ⟨⟨k + 1, by omega, by go_num, ⟨_, c, by rw [hml], by rw [hml]; exact a1, by rw [hml]; exact a2, fun _ => ⟨g0, o, rfl, b1, by simpa [World.setCell] using b2, fun i hi => ?_⟩⟩, (HBW.out.setCell (p := ⟨g0, o + k, none⟩) b1 _).drew⟩, by simp [intOf]; omega⟩
          rw [hml] at hi
          obtain ⟨hci, hfi⟩ := b3 i hi
          rw [HNX.out i hi]
          refine ⟨?_, ?_⟩
          · show (wr.setCell ⟨g0, o + k, none⟩ (.int .u8 (m : Int))).cell? ⟨g0, o + i, none⟩ = _
            by_cases e : i = k
            · subst e
              rw [if_pos rfl]
              exact World.cell?_setCell_same _ _ _ hci
            · rw [if_neg e, World.cell?_setCell_other _ _ _ _ (by intro h; injection h with _ h _; omega)]
              exact hci
          · show (wr.setCell ⟨g0, o + k, none⟩ (.int .u8 (m : Int))).frozen? ⟨g0, o + i, none⟩ = _
            rw [World.frozen?_setCell]; exact hfi
        · obtain rfl : k = g.size := by omega
          have HKR := Lib.hid hkr.rdn
          have HBW := Lib.hid hbw
          clear hkr hbw
          go_wp2_with fail
          refine (HTX.out _ _ HKR.out).mono ?_; rintro e w9 ⟨rfl, hb9⟩
          have B9 := Lib.hid (HBW.out.trans (hb9.mono HBW.out.size))
          clear hb9
          go_wp2_with fail
          go_ret2
          exact ⟨by rw [HL.out]; rfl, B9.out⟩
end Go.Proofs.Ytddlpbpcdjddpaa

namespace Go.Proofs.Ytddlpbpcdjddpaa
set_option linter.unusedVariables false
open Go Go.RowKit
theorem inR_two {g : List UInt8} (hg : inR 48 49 g = true) (i : Nat) (h : i < g.length) : g[i] = 48 ∨ g[i] = 49 := by
  have hy := of_decide_eq_true (List.all_eq_true.1 hg g[i] (List.getElem_mem h))
  have : g[i].toNat = 48 ∨ g[i].toNat = 49 := by omega
  rcases this with h | h
  · exact .inl (UInt8.toNat_inj.1 h)
  · exact .inr (UInt8.toNat_inj.1 h)
theorem tx_gb {g : List UInt8} (hg : inR 48 49 g = true) : tx (gb g) = g := by
  apply List.ext_getElem
  · rw [tx_len, gb_len]
  · intro i h1 h2
    rw [tx_get (gb g) i h1 (by rw [gb_len]; exact h2)]
    simp only [gb, List.getElem_map]
    rcases inR_two hg i h2 with e | e <;> rw [e] <;> rfl
theorem gb_tx {M : List Nat} (h : bitsN M) : gb (tx M) = M := by
  apply List.ext_getElem
  · rw [gb_len, tx_len]
  · intro i h1 h2
    have hk := h M[i] (List.getElem_mem h2)
    have : M[i] = 0 ∨ M[i] = 1 := by omega
    simp only [gb, tx, List.getElem_map]
    rcases this with e | e <;> rw [e] <;> rfl
theorem stQ_gb (s : List UInt8) : stQ s = (gb s).reverse := by simp [stQ, gb]
theorem stQ_tx {M : List Nat} (h : bitsN M) : stQ (tx M) = M.reverse := by rw [stQ_gb, gb_tx h]
theorem xorB_inR (a b : List UInt8) (n : Nat) : inR 48 49 (xorB a b n) = true := by
  unfold inR
  rw [List.all_eq_true]
  intro x hx
  obtain ⟨j, -, rfl⟩ := List.mem_map.1 hx
  by_cases h : a[j]? = b[j]?
  · rw [if_pos h]; decide
  · rw [if_neg h]; decide
theorem xorB_turn {a b K : List UInt8} (ha : inR 48 49 a = true) (hb : inR 48 49 b = true) (hK : inR 48 49 K = true) (hab : a.length = b.length) (hl : K.length = a.length) :
    xorB b K a.length = a ↔ K = xorB a b a.length := by
  have key : ∀ i (h1 : i < a.length), (if b[i]? = K[i]? then (48 : UInt8) else 49) = a[i] ↔ K[i]'(by omega) = if a[i]? = b[i]? then 48 else 49 := by
    intro i h1
    rw [List.getElem?_eq_getElem h1, List.getElem?_eq_getElem (show i < b.length by omega), List.getElem?_eq_getElem (show i < K.length by omega)]
    simp only [Option.some.injEq]
    rcases inR_two ha i h1 with e | e <;> rcases inR_two hb i (by omega) with f | f <;> rcases inR_two hK i (by omega) with g | g <;> rw [e, f, g] <;> decide
  constructor
  · intro h
    refine List.ext_getElem (by rw [xorB_length, hl]) fun i h1 h2 => ?_
    have hi : i < a.length := by omega
    have e1 : (xorB b K a.length)[i]'(by rw [xorB_length]; exact hi) = a[i] := by simp only [h]
    simp only [xorB, List.getElem_map, List.getElem_range] at e1 ⊢
    exact (key i hi).1 e1
  · intro h
    refine List.ext_getElem (by rw [xorB_length]) fun i h1 h2 => ?_
    have e1 : K[i]'(by omega) = (xorB a b a.length)[i]'(by rw [xorB_length]; exact h2) := by simp only [← h]
    simp only [xorB, List.getElem_map, List.getElem_range] at e1 ⊢
    exact (key i h2).2 e1
/-- The key between two texts; the state behind it. -/
def fkK (a b : List UInt8) : List UInt8 := xorB a b a.length
def fkW (l : List Int) : Nat := (wid l).toNat
def fkM (l : List Int) (a b : List UInt8) : List Nat := (gb (fkK a b)).take (fkW l)
def fkS (l : List Int) (a b : List UInt8) : List Nat := bst l (fkM l a b) (fkW l)
def fkIn (l : List Int) (a b : List UInt8) : Bool := tpOk l && (xorOk a b && decide (wid l ≤ (a.length : Int)))
/-- The bits of the key behind the state that was found. -/
def fkG (l : List Int) (a b : List UInt8) : List UInt8 := tx (kb l (stQ (tx (fkS l a b))) a.length)
def fkOk (l : List Int) (a b : List UInt8) : Bool := fkIn l a b && decide (fkG l a b = fkK a b)
def fkV (l : List Int) (a b : List UInt8) : ByteArray := if fkOk l a b then ⟨(tx (fkS l a b)).toArray⟩ else ⟨#[]⟩
theorem fkIn_parts {l : List Int} {a b : List UInt8} (h : fkIn l a b = true) : tpOk l = true ∧ isB a = true ∧ isB b = true ∧ a.length = b.length ∧ wid l ≤ (a.length : Int) := by
  unfold fkIn xorOk at h
  simp only [Bool.and_eq_true, decide_eq_true_eq] at h
  exact ⟨h.1, h.2.1.1.1, h.2.1.1.2, h.2.1.2, h.2.2⟩
theorem fk_facts {l : List Int} {a b : List UInt8} (h : fkIn l a b = true) :
    (fkM l a b).length = fkW l ∧ bitsN (fkM l a b) ∧ (fkS l a b).length = fkW l ∧ bitsN (fkS l a b) ∧ scOk l (tx (fkS l a b)) = true ∧
      (fkK a b).length = a.length ∧ inR 48 49 (fkK a b) = true ∧ (fkW l : Int) = wid l ∧ 1 ≤ fkW l ∧ fkW l ≤ 16 ∧ fkW l ≤ a.length ∧ a.length ≤ 400 := by
  obtain ⟨h1, h2, h3, h4, h5⟩ := fkIn_parts h
  have hw := tpOk_wid h1
  have hn := (isB_r h2).1
  have hW : (fkW l : Int) = wid l := by unfold fkW; omega
  have hKl : (fkK a b).length = a.length := xorB_length _ _ _
  have hKr : inR 48 49 (fkK a b) = true := xorB_inR _ _ _
  have hM : bitsN (fkM l a b) := fun x hx => gb_bits hKr x (List.mem_of_mem_take hx)
  have hMl : (fkM l a b).length = fkW l := by unfold fkM; rw [List.length_take, gb_len, hKl]; omega
  have hS : bitsN (fkS l a b) := bst_bits hM _
  have hSl : (fkS l a b).length = fkW l := bst_len _ _ _
  refine ⟨hMl, hM, hSl, hS, ?_, hKl, hKr, hW, by omega, by omega, by omega, hn⟩
  unfold scOk isB
  rw [h1, tx_inR hS, tx_len, hSl, hW, decide_eq_true (show fkW l ≤ 400 by omega)]
  simp
/-- What the program's first KeyBits answers. -/
theorem fk_first {l : List Int} {a b : List UInt8} (h : fkIn l a b = true) :
    kyOk (trn l) ((fkK a b).take (fkW l)) (wid l) = true ∧ kyL (trn l) ((fkK a b).take (fkW l)) (wid l) = tx (fkS l a b) := by
  obtain ⟨h1, -⟩ := fkIn_parts h
  obtain ⟨m1, m2, m3, m4, m5, m6, m7, m8, m9, m10, m11, m12⟩ := fk_facts h
  have hr : inR 48 49 ((fkK a b).take (fkW l)) = true := by
    unfold inR
    rw [List.all_eq_true]
    intro x hx
    exact List.all_eq_true.1 m7 x (List.mem_of_mem_take hx)
  have hlen : ((fkK a b).take (fkW l)).length = fkW l := by rw [List.length_take, m6]; omega
  constructor
  · unfold kyOk scOk isB
    rw [(trn_ok h1).1, (trn_ok h1).2, hr, hlen, decide_eq_true (show fkW l ≤ 400 by omega), decide_eq_true m8, decide_eq_true (show (0 : Int) ≤ wid l ∧ wid l ≤ 400 by omega)]
    rfl
  · unfold kyL
    have e : gb ((fkK a b).take (fkW l)) = fkM l a b := by unfold gb fkM gb; rw [List.map_take]
    rw [stQ_gb, e, kb_turn h1 (by rw [m1]; omega)]
    rfl
/-- The model's test is the program's. -/
theorem fk_test {l : List Int} {a b : List UInt8} (h : fkIn l a b = true) : (adL l (tx (fkS l a b)) b = a) ↔ fkG l a b = fkK a b := by
  obtain ⟨h1, h2, h3, h4, h5⟩ := fkIn_parts h
  obtain ⟨m1, m2, m3, m4, m5, m6, m7, m8, m9, m10, m11, m12⟩ := fk_facts h
  have hQ : bitsN (stQ (tx (fkS l a b))) := stQ_bits (isB_r (scOk_parts m5).2.1).2
  have hkl := kb_len (l := l) hQ a.length
  have hkb := kb_bits (l := l) hQ a.length
  unfold adL fkG fkK
  rw [← h4, ← xorB_turn (isB_r h2).2 (isB_r h3).2 (tx_inR hkb) h4 (by rw [tx_len, hkl])]
  have := xor_key (g := b) (isB_r h3).2 hkb (by rw [hkl, h4])
  rw [← h4] at this
  rw [this]
end Go.Proofs.Ytddlpbpcdjddpaa

