/- Both AddScramble. -/
import Derived.Test.YtddlpbpcdjddpaaSbk
import Derived.Test.YtddlpbpcdjddpaaXorI
namespace Go.Proofs.Ytddlpbpcdjddpaa
open Go Go.RowKit
set_option linter.unusedVariables false
/-- The key with the first k bits added. -/
def mx (K G : List Nat) (k : Nat) : List Nat := (List.range K.length).map fun i => if i < k then K.getD i 0 ^^^ G.getD i 0 else K.getD i 0
theorem mx_len (K G : List Nat) (k : Nat) : (mx K G k).length = K.length := by simp [mx]
theorem mx_get (K G : List Nat) (k i : Nat) (h : i < K.length) : (mx K G k).getD i 0 = if i < k then K.getD i 0 ^^^ G.getD i 0 else K.getD i 0 := by
  unfold mx
  rw [List.getD, List.getElem?_map, List.getElem?_range h]; rfl
theorem mx_zero (K G : List Nat) : mx K G 0 = K := by
  refine List.ext_getElem (mx_len _ _ _) fun i h1 h2 => ?_
  simp [mx, List.getD, List.getElem?_eq_getElem h2]
theorem getD_bit {M : List Nat} (h : bitsN M) (i : Nat) : M.getD i 0 ≤ 1 := by
  rw [List.getD]
  cases e : M[i]?
  · simp
  · exact h _ (List.mem_of_getElem? e)
theorem mx_bits {K G : List Nat} (hK : bitsN K) (hG : bitsN G) (k : Nat) : bitsN (mx K G k) := by
  intro x hx
  unfold mx at hx
  obtain ⟨i, -, rfl⟩ := List.mem_map.1 hx
  split
  · exact xor_le (getD_bit hK i) (getD_bit hG i)
  · exact getD_bit hK i
def adL (l : List Int) (s g : List UInt8) : List UInt8 := tx (mx (kb l (stQ s) g.length) (gb g) g.length)
def adV (l : List Int) (s g : List UInt8) : ByteArray := if scbOk l s g then ⟨(adL l s g).toArray⟩ else ⟨#[]⟩
theorem adV_no {l : List Int} {s g : List UInt8} (h : scbOk l s g = false) : adV l s g = ⟨#[]⟩ := by unfold adV; rw [h]; rfl
theorem adV_yes {l : List Int} {s g : List UInt8} (h : scbOk l s g = true) : adV l s g = ⟨(adL l s g).toArray⟩ := by unfold adV; rw [h]; rfl
theorem tx_inR {M : List Nat} (h : bitsN M) : inR 48 49 (tx M) = true := by
  unfold inR tx
  rw [List.all_eq_true]
  intro c hc
  obtain ⟨m, hm, rfl⟩ := List.mem_map.1 hc
  have := h m hm
  have e := tx_byte this
  exact decide_eq_true (by omega)
theorem tx_get (M : List Nat) (i : Nat) (h : i < (tx M).length) (h' : i < M.length) : (tx M)[i] = UInt8.ofNat (48 + M[i]) := by simp [tx]
/-- The program's exclusive or of a text and the key. -/
theorem xor_key {g : List UInt8} {K : List Nat} (hg : inR 48 49 g = true) (hK : bitsN K) (hl : K.length = g.length) : xorB g (tx K) g.length = tx (mx K (gb g) g.length) := by
  refine List.ext_getElem (by rw [xorB_length, tx_len, mx_len, hl]) fun i h1 h2 => ?_
  rw [xorB_length] at h1
  have hiK : i < K.length := by omega
  have e1 : (tx K)[i]? = some (UInt8.ofNat (48 + K[i])) := by
    unfold tx
    rw [List.getElem?_map, List.getElem?_eq_getElem hiK]; rfl
  have hy := of_decide_eq_true (List.all_eq_true.1 hg g[i] (List.getElem_mem h1))
  have hk := hK K[i] (List.getElem_mem hiK)
  have e2 : (mx K (gb g) g.length)[i]'(by rw [mx_len]; exact hiK) = K[i] ^^^ (g[i].toNat - 48) := by
    simp [mx, h1, gb, List.getD, List.getElem?_eq_getElem hiK]
  have e3 : (tx (mx K (gb g) g.length))[i]'h2 = UInt8.ofNat (48 + (K[i] ^^^ (g[i].toNat - 48))) := by
    rw [tx_get _ _ _ (by rw [mx_len]; exact hiK), e2]
  rw [e3]
  simp only [xorB, List.getElem_map, List.getElem_range, e1, List.getElem?_eq_getElem h1, Option.some.injEq]
  have hg2 : g[i] = 48 ∨ g[i] = 49 := by
    have : g[i].toNat = 48 ∨ g[i].toNat = 49 := by omega
    rcases this with h | h
    · exact .inl (UInt8.toNat_inj.1 h)
    · exact .inr (UInt8.toNat_inj.1 h)
  have hk2 : K[i] = 0 ∨ K[i] = 1 := by omega
  rcases hg2 with e | e <;> rcases hk2 with f | f <;> rw [e, f] <;> decide

set_option maxRecDepth 100000 in
set_option maxHeartbeats 1000000 in
theorem addScramble_impl (w : World) (v : Value) (l : List Int) (s g : ByteArray) (hb : ∀ n ∈ l, -9223372036854775808 ≤ n ∧ n ≤ 9223372036854775807) (hs : s.size ≤ maxLen) (hg : g.size ≤ maxLen) (h : Rd w v l) :
    Calls Try.prog 34 #[.agg #[v, .string s], .string g] w fun e w' =>
      e = .returned (.tuple #[.string (adV l s.data.toList g.data.toList), .bool (scbOk l s.data.toList g.data.toList)]) ∧ Below w.heap.size w w' := by
  have hB : Below w.heap.size w (w.alloc (.cells #[v, .string s] 28)) := (Below.refl _ _).alloc (Nat.le_refl _) _
  have HBK : Hid (Bk (w.alloc (.cells #[v, .string s] 28)) w.heap.size (scV v s)) := Bk.new w (scV v s) 28 _ rfl
  have HKI := Lib.hid (fun W h => keyBits_impl W v l s g.size hb hs h)
  have HB := Lib.hid hB
  have HRD := Lib.hid (h.keep hB)
  have hE : scbOk l s.data.toList g.data.toList = (scOk l s.data.toList && isB g.data.toList) := rfl
  have hK : kyOk l s.data.toList g.size = (scOk l s.data.toList && decide ((0 : Int) ≤ (g.size : Int) ∧ (g.size : Int) ≤ 400)) := rfl
  have hsz : g.data.toList.length = g.size := by simp
  obtain ⟨A1, c1, rfl⟩ := rd_shp h
  obtain ⟨n1, hn1⟩ : ∃ n1, n1 = l.length := ⟨_, rfl⟩
  rw [← hn1] at HBK HB HRD HKI ⊢
  clear h hb hs hB hn1
  have hgl := hg
  unfold maxLen at hgl
  by_cases hky : kyOk l s.data.toList g.size = true
  · rw [hky, kyV_yes hky] at HKI
    rw [hK, Bool.and_eq_true] at hky
    obtain ⟨hok, hc⟩ := hky
    have hc := of_decide_eq_true hc
    rw [hok, Bool.true_and] at hE
    have hQ := stQ_bits (isB_r (scOk_parts hok).2.1).2
    have hkl := kb_len (l := l) hQ g.size
    have hkb := kb_bits (l := l) hQ g.size
    have hLk : kyL l s.data.toList g.size = tx (kb l (stQ s.data.toList) g.size) := by unfold kyL; rw [Int.toNat_natCast]
    rw [hLk] at HKI
    have hisK : isB (tx (kb l (stQ s.data.toList) g.size)) = true := by
      unfold isB
      rw [tx_inR hkb, tx_len, hkl, decide_eq_true (by omega)]; rfl
    cases hib : isB g.data.toList
    · rw [hib] at hE
      rw [adV_no hE, hE]
      have HX := Lib.hid (fun W => xor_no_impl g ⟨(tx (kb l (stQ s.data.toList) g.size)).toArray⟩ W hg (by show (tx _).toArray.size ≤ _; unfold maxLen; rw [List.size_toArray, tx_len, hkl]; omega) (by rintro ⟨h1, -⟩; rw [hib] at h1; cases h1))
      generalize (⟨(tx (kb l (stQ s.data.toList) g.size)).toArray⟩ : ByteArray) = Z at *
      clear hE hok hQ hkl hkb hLk hisK hib hK hc hg hsz
      go_enter Try.func34, Try.ntmps34
      obtain ⟨q0, q1⟩ := sc_all HBK.out
      go_wp2_with fail
      refine (HKI.out _ HRD.out).mono ?_; rintro e w1 ⟨rfl, hb1⟩
      have HB1 := Lib.hid (HB.out.trans (hb1.mono HB.out.size))
      clear hb1 q0 q1
      go_wp2_with fail
      refine (HX.out _).mono ?_; rintro e w2 ⟨rfl, hb2⟩
      have HB2 := Lib.hid (HB1.out.trans (hb2.mono HB1.out.size))
      clear hb2
      go_wp2_with fail
      go_ret2
      exact ⟨rfl, HB2.out⟩
    · rw [hib] at hE
      rw [adV_yes hE, hE]
      have HX := Lib.hid (fun W => xor_yes_impl g ⟨(tx (kb l (stQ s.data.toList) g.size)).toArray⟩ W hib hisK (by show _ = (tx _).toArray.size; rw [List.size_toArray, tx_len, hkl]))
      have hx : xorB g.data.toList (⟨(tx (kb l (stQ s.data.toList) g.size)).toArray⟩ : ByteArray).data.toList g.size = adL l s.data.toList g.data.toList := by
        have := xor_key (isB_r hib).2 hkb (by rw [hkl, hsz])
        unfold adL
        rw [hsz] at this ⊢
        exact this
      rw [hx] at HX
      generalize (⟨(tx (kb l (stQ s.data.toList) g.size)).toArray⟩ : ByteArray) = Z at *
      clear hE hok hQ hkl hkb hLk hisK hib hK hc hg hsz hx
      go_enter Try.func34, Try.ntmps34
      obtain ⟨q0, q1⟩ := sc_all HBK.out
      go_wp2_with fail
      refine (HKI.out _ HRD.out).mono ?_; rintro e w1 ⟨rfl, hb1⟩
      have HB1 := Lib.hid (HB.out.trans (hb1.mono HB.out.size))
      clear hb1 q0 q1
      go_wp2_with fail
      refine (HX.out _).mono ?_; rintro e w2 ⟨rfl, hb2⟩
      have HB2 := Lib.hid (HB1.out.trans (hb2.mono HB1.out.size))
      clear hb2
      go_wp2_with fail
      go_ret2
      exact ⟨rfl, HB2.out⟩
  · have hky := Bool.eq_false_iff.2 hky
    rw [hky, kyV_no hky] at HKI
    have e0 : scbOk l s.data.toList g.data.toList = false := by
      rw [hE]
      rw [hK] at hky
      cases hok : scOk l s.data.toList
      · rfl
      · rw [hok, Bool.true_and] at hky
        have := of_decide_eq_false hky
        unfold isB
        rw [decide_eq_false (by rw [hsz]; omega)]; rfl
    rw [adV_no e0, e0]
    clear hE hK hky hg hsz e0
    go_enter Try.func34, Try.ntmps34
    obtain ⟨q0, q1⟩ := sc_all HBK.out
    go_wp2_with fail
    refine (HKI.out _ HRD.out).mono ?_; rintro e w1 ⟨rfl, hb1⟩
    have HB1 := Lib.hid (HB.out.trans (hb1.mono HB.out.size))
    clear hb1 q0 q1
    go_wp2_with fail
    go_ret2
    exact ⟨rfl, HB1.out⟩

set_option maxRecDepth 100000 in
set_option maxHeartbeats 1000000 in
theorem addScramble_spec (w : World) (v : Value) (l : List Int) (s g : ByteArray) (hb : ∀ n ∈ l, -9223372036854775808 ≤ n ∧ n ≤ 9223372036854775807) (hs : s.size ≤ maxLen) (hg : g.size ≤ maxLen) (h : Rd w v l) :
    Calls Try.prog 56 #[.agg #[v, .string s], .string g] w fun e w' =>
      e = .returned (.tuple #[.string (adV l s.data.toList g.data.toList), .bool (scbOk l s.data.toList g.data.toList)]) ∧ Below w.heap.size w w' := by
  have hB : Below w.heap.size w (w.alloc (.cells #[v, .string s] 28)) := (Below.refl _ _).alloc (Nat.le_refl _) _
  have hbk : Bk (w.alloc (.cells #[v, .string s] 28)) w.heap.size (scV v s) := Bk.new w (scV v s) 28 _ rfl
  have HI := Lib.hid (l06Is_any _ w.heap.size v s l hb hs hbk (h.keep hB))
  have HIB := Lib.hid (fun W => l01Bits_any g W hg)
  have HKY := Lib.hid (fun W n h1 h2 h3 h4 => l06Key_any W w.heap.size v l s n h1 h2 h3 h4)
  have HB := Lib.hid hB
  have HBK := Lib.hid hbk
  have HRD := Lib.hid (h.keep hB)
  have hE : scbOk l s.data.toList g.data.toList = (scOk l s.data.toList && isB g.data.toList) := rfl
  obtain ⟨A1, c1, rfl⟩ := rd_shp h
  obtain ⟨n1, hn1⟩ : ∃ n1, n1 = l.length := ⟨_, rfl⟩
  rw [← hn1] at HBK HB HRD HI HKY ⊢
  clear h hB hbk hn1 hb hs hg
  cases hok : scOk l s.data.toList
  · rw [hok, Bool.false_and] at hE
    rw [adV_no hE, hE]
    rw [hok] at HI
    clear hE hok HIB HKY
    go_enter Try.func56, Try.ntmps56
    go_wp2_with fail
    refine HI.out.mono ?_; rintro e w1 ⟨rfl, q, rfl⟩
    go_wp2_with fail
    go_ret2
    exact ⟨rfl, below_drewN HB.out q⟩
  · rw [hok, Bool.true_and] at hE
    rw [hok] at HI
    cases hok2 : isB g.data.toList
    · rw [hok2] at hE HIB
      rw [adV_no hE, hE]
      clear hE hok hok2 HKY
      go_enter Try.func56, Try.ntmps56
      go_wp2_with fail
      refine HI.out.mono ?_; rintro e w1 ⟨rfl, q, rfl⟩
      go_wp2_with fail
      refine (HIB.out _).mono ?_; rintro e w2 ⟨rfl, rfl⟩
      go_wp2_with fail
      go_ret2
      exact ⟨rfl, below_drewN HB.out q⟩
    · rw [hok2] at hE HIB
      rw [adV_yes hE, hE]
      obtain ⟨hp6, hp7⟩ := isB_r hok2
      have hsz : g.data.toList.length = g.size := by simp
      have hgs : g.size ≤ 400 := by rw [← hsz]; exact hp6
      have hQ := stQ_bits (isB_r (scOk_parts hok).2.1).2
      have hkl := kb_len (l := l) hQ g.size
      have hkb := kb_bits (l := l) hQ g.size
      have hG := gb_bits hp7
      have HKN := Lib.hid (fun W h3 h4 => HKY.out W g.size hgs hok h3 h4)
      have HIN := Lib.hid (fun k hk => inR_at 48 49 g k hk hp7)
      have HGG : Hid (∀ k (hk : k < g.size), (gb g.data.toList).getD k 0 = g[k].toNat - 48) := by
        show ∀ _ _, _
        intro k hk
        simp [gb, List.getD, List.getElem?_eq_getElem (show k < g.data.toList.length by rw [hsz]; exact hk)]
        rfl
      have HL : Hid (adL l s.data.toList g.data.toList = tx (mx (kb l (stQ s.data.toList) g.size) (gb g.data.toList) g.size)) := by show _ = _; unfold adL; rw [hsz]
      generalize kb l (stQ s.data.toList) g.size = K at *
      generalize gb g.data.toList = G at *
      have HTX := Lib.hid (fun W v h => l06Text_any W v (mx K G g.size) (mx_bits hkb hG _) (by rw [mx_len, hkl]; omega) h)
      have HKD := Lib.hid (fun i => getD_bit hkb i)
      have HGD := Lib.hid (fun i => getD_bit hG i)
      have HKL := Lib.hid hkl
      have H0 := Lib.hid (mx_zero K G)
      generalize adL l s.data.toList g.data.toList = LL at *
      clear hE hok hok2 HKY hp6 hp7 hsz hQ hkl hkb hG
      go_enter Try.func56, Try.ntmps56
      go_wp2_with fail
      refine HI.out.mono ?_; rintro e w1 ⟨rfl, q, rfl⟩
      go_wp2_with fail
      refine (HIB.out _).mono ?_; rintro e w2 ⟨rfl, rfl⟩
      have HB1 := Lib.hid (below_drewN HB.out q)
      go_wp2_with fail
      refine (HKN.out _ (HBK.out.drewN q) (HRD.out.drewN q)).mono ?_; rintro e w3 ⟨u, rfl, hkr, hb3⟩
      have HR3 : Hid (KR w.heap.size w3 u (mx K G 0)) := by
        show KR _ _ _ _
        rw [H0.out]
        obtain ⟨A, c, e, a1, a2, a3⟩ := hkr
        refine ⟨A, c, e, a1, a2, fun hp => ?_⟩
        obtain ⟨g0, o, ea, b1, b2⟩ := a3 hp
        exact ⟨g0, o, ea, by have := HB1.out.size; omega, b2⟩
      have HB3 := Lib.hid (HB1.out.trans (hb3.mono HB1.out.size))
      obtain ⟨A, c, e0⟩ : ∃ A c, u = .slice A g.size c := by
        obtain ⟨A, c, e, -⟩ := hkr
        exact ⟨A, c, by rw [← HKL.out]; exact e⟩
      subst e0
      clear hkr hb3 HBK HRD HB HI HIB HKN
      go_wp2_with fail
      go_loopw [7] (fun i wr => ∃ k : Nat, k ≤ g.size ∧ i = .int .i64 k ∧ KR w.heap.size wr (.slice A g.size c) (mx K G k) ∧ Below w.heap.size w wr) (fun i _ => g.size - (intOf i).toNat)
      case atStart => exact ⟨0, Nat.zero_le _, rfl, HR3.out, HB3.out⟩
      case round =>
        obtain ⟨k, hk, rfl, hkr, hbw⟩ := hrel
        by_cases hlt : k < g.size
        · have hIN := HIN.out k hlt
          have hGG := HGG.out k hlt
          obtain ⟨A', c', e', a1, a2, a3⟩ := hkr
          have hml : (mx K G k).length = g.size := by rw [mx_len, HKL.out]
          rw [hml] at e' a1 a2 a3
          injection e' with e1 e2 e3
          subst e1; subst e3
          obtain ⟨g0, o, rfl, b1, b2, b3⟩ := a3 (by omega)
          obtain ⟨hc0, hf0⟩ := b3 k hlt
          rw [mx_get _ _ _ _ (by rw [HKL.out]; exact hlt), if_neg (by omega)] at hc0
          have hk0 : (0 : Int) ≤ (k : Int) := by omega
          have hk1 : (k : Int) < (g.size : Int) := by omega
          obtain ⟨y, hy⟩ : ∃ y, g[k].toNat = y := ⟨_, rfl⟩
          rw [hy] at hIN hGG
          obtain ⟨x, rfl⟩ : ∃ x, y = x + 48 := ⟨y - 48, by omega⟩
          rw [show x + 48 - 48 = x from by omega] at hGG
          have hx : x ≤ 1 := by omega
          have hz := HKD.out k
          have hxo := u8_xor hz hx
          have hwx : IntKind.u8.wrap (x : Int) = (x : Int) := by simp [IntKind.wrap, IntKind.signed, IntKind.bits]; omega
          have hcv : (((x + 48 : Nat) : Int) - 48) % 256 = (x : Int) := by omega
          have HNX : Hid (∀ i, i < g.size → (mx K G (k + 1)).getD i 0 = if i = k then K.getD k 0 ^^^ x else (mx K G k).getD i 0) := by
            show ∀ _ _, _
            intro i hi
            rw [mx_get _ _ _ _ (by rw [HKL.out]; exact hi), mx_get _ _ _ _ (by rw [HKL.out]; exact hi)]
            by_cases e : i = k
            · subst e; rw [if_pos (by omega), if_pos rfl, hGG]
            · rw [if_neg e]
              by_cases e2 : i < k
              · rw [if_pos (by omega), if_pos e2]
              · rw [if_neg (by omega), if_neg e2]
          have HBW := Lib.hid hbw
          have HAA := Lib.hid (And.intro a1 (And.intro a2 (And.intro b1 (And.intro b2 b3))))
          clear a1 a2 a3 b3 hbw hIN hGG hml
          generalize K.getD k 0 = z at *
          obtain ⟨m, hm⟩ : ∃ m, z ^^^ x = m := ⟨_, rfl⟩
          rw [hm] at hxo HNX
          clear hm
          go_wp2_with fail
          go_region
          all_goals go_wp2_with fail
          obtain ⟨a1, a2, b1, b2, b3⟩ := HAA.out
          have hml : (mx K G (k + 1)).length = g.size := by rw [mx_len, HKL.out]
          refine ⟨⟨k + 1, by omega, by go_num, ⟨_, c, by rw [hml], by rw [hml]; exact a1, by rw [hml]; exact a2, fun _ => ⟨g0, o, rfl, b1, by simpa [World.setCell] using b2, fun i hi => ?_⟩⟩, (HBW.out.setCell (p := ⟨g0, o + k, none⟩) b1 _).drew⟩, by simp [intOf]; omega⟩
          rw [hml] at hi
          obtain ⟨hci, hfi⟩ := b3 i hi
          rw [HNX.out i hi]
          refine ⟨?_, ?_⟩
          · show (wr.setCell ⟨g0, o + k, none⟩ (.int .u8 (m : Int))).cell? ⟨g0, o + i, none⟩ = _
            by_cases e : i = k
            · subst e
              rw [if_pos rfl]
              exact World.cell?_setCell_same _ _ _ hci
            · rw [if_neg e, World.cell?_setCell_other _ _ _ _ (by intro h; injection h with _ h _; omega)]
              exact hci
          · show (wr.setCell ⟨g0, o + k, none⟩ (.int .u8 (m : Int))).frozen? ⟨g0, o + i, none⟩ = _
            rw [World.frozen?_setCell]; exact hfi
        · obtain rfl : k = g.size := by omega
          have HKR := Lib.hid hkr.rdn
          have HBW := Lib.hid hbw
          clear hkr hbw
          go_wp2_with fail
          refine (HTX.out _ _ HKR.out).mono ?_; rintro e w9 ⟨rfl, hb9⟩
          have B9 := Lib.hid (HBW.out.trans (hb9.mono HBW.out.size))
          clear hb9
          go_wp2_with fail
          go_ret2
          exact ⟨by rw [HL.out]; rfl, B9.out⟩
end Go.Proofs.Ytddlpbpcdjddpaa
