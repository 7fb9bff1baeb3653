/- The program's ReadLevels. -/
import Derived.Test.YtmhdjimdhcephaaLvH
import Derived.Test.YtmhdjimdhcephaaChI
import Derived.Test.YtmhdjimdhcephaaLvF
import Derived.Test.YtmhdjimdhcephaaShelf
import Derived.Lib.OthersKept
namespace Go.Proofs.Ytmhdjimdhcephaa
open Go Go.RowKit Go.Shelf
set_option linter.unusedVariables false
attribute [local go_sem] Oper.semAt_some

/-- Blocks read in turn. -/
def rdF (κ : Nat) (l : List Int) (T : Nat) {K : Nat} (pre : List (BN K)) : List UInt8 × (Int × Int) := (pre.map fun x => blkI l T x.1).foldl (stepR κ) ([], stE κ)
theorem rdF_snoc (κ : Nat) (l : List Int) (T : Nat) {K : Nat} (pre : List (BN K)) (x : BN K) : rdF κ l T (pre ++ [x]) = stepR κ (rdF κ l T pre) (blkI l T x.1) := by
  unfold rdF; rw [List.map_append, List.foldl_append]; rfl
theorem rdF_all (κ : Nat) (l : List Int) (T : Nat) {K : Nat} {ys : List (BN K)} (h : inTurn ys K) : rdF κ l T ys = rdK κ l T K := by
  unfold inTurn at h
  rw [← rdK_fold, ← h, List.map_map]; rfl
theorem stepR_len (κ : Nat) : ∀ (ls : List (List Int)) (acc : List UInt8 × (Int × Int)), (ls.foldl (stepR κ) acc).1.length = acc.1.length + ls.length
  | [], acc => rfl
  | x :: t, acc => by rw [List.foldl_cons, stepR_len κ t, stepR, List.length_append, List.length_cons]; simp; omega
theorem stepR_tri (κ : Nat) : ∀ (ls : List (List Int)) (acc : List UInt8 × (Int × Int)), (∀ x ∈ ls, ∀ y ∈ x, tri y) → tri acc.2.1 → tri acc.2.2 → tri (ls.foldl (stepR κ) acc).2.1 ∧ tri (ls.foldl (stepR κ) acc).2.2
  | [], acc, _, h1, h2 => ⟨h1, h2⟩
  | x :: t, acc, h, h1, h2 => by
    rw [List.foldl_cons]
    obtain ⟨k1, k2⟩ := psE_tri (e := acc.2) (h x List.mem_cons_self) h1 h2
    exact stepR_tri κ t _ (fun y hy => h y (List.mem_cons_of_mem _ hy)) k1 k2
theorem rdF_len (κ : Nat) (l : List Int) (T : Nat) {K : Nat} (pre : List (BN K)) : (rdF κ l T pre).1.length = pre.length := by
  unfold rdF; rw [stepR_len]; simp
theorem rdF_tri {κ : Nat} {l : List Int} (hl : ∀ x ∈ l, tri x) (T : Nat) {K : Nat} (pre : List (BN K)) : tri (rdF κ l T pre).2.1 ∧ tri (rdF κ l T pre).2.2 := by
  refine stepR_tri κ _ _ (fun x hx => ?_) (stE_tri κ).1 (stE_tri κ).2
  obtain ⟨y, -, rfl⟩ := List.mem_map.1 hx
  exact blkI_tri hl T y.1
theorem Kp.of_gbo {S : Nat} {w w' : World} {row : Option Nat} (hg : w.grownBy w' row) (hr : ∀ r, row = some r → S + 2 ≤ r) (hs : S + 2 ≤ w.heap.size) : Kp S w w' := ⟨hg.os, hg.tape, hg.output, hg.size, fun j h1 h2 => hg.block j (by omega) (fun x => by have := hr j x.symm; omega)⟩
theorem bk_isCells {W : World} {g : Nat} {c : Value} {cs : List Value} (h : Bk W g (c :: cs)) (o : Obj) (ho : W.heap[g]? = some o) : o.isCells = true := by
  have h0 := h.c 0 c rfl
  unfold World.cell? at h0
  rw [ho] at h0
  cases o <;> simp_all [Obj.isCells]
theorem ko_gb {W W' : World} {g : Nat} {c : Value} {cs : List Value} (h : Bk W g (c :: cs)) (hg : W.grownBy W' (some g)) : KeepsOthers W W' :=
  KeepsOthers.of_grownBy hg fun j o e ho => by injection e with e; subst e; exact bk_isCells h o ho
theorem rd_blk {w W : World} {R o N c : Nat} {l : List Int} (T k : Nat) (hcl : ∀ i (h : i < l.length), w.cell? ⟨R, o + i, none⟩ = some (.int .i64 l[i])) (hR : R < w.heap.size) (hb : Below w.heap.size w W) (hl : l.length = N) (hk : k * T < N) (hm : N ≤ 800) : Rd W (.slice (some ⟨R, o + k * T, none⟩) (min T (N - k * T)) (min T (N - k * T))) (blkI l T k) := by
  have hlen := blkI_len (l := l) (T := T) (k := k) (by omega)
  rw [hl] at hlen
  refine ⟨_, _, _, rfl, hlen, Nat.le_refl _, by unfold maxLen; omega, fun _ => ⟨R, o + k * T, rfl, Nat.lt_of_lt_of_le hR hb.size, fun i hi => ?_⟩⟩
  rw [blkI_at hi, Nat.add_assoc]
  exact (hb.cell (p := ⟨R, o + (k * T + i), none⟩) hR).trans (hcl _ _)
theorem Bk.chg {W W' : World} {g lo b : Nat} {cs : List Value} (h : Bk W g cs) (hc : Chg lo b W W') (h1 : g < lo) (h2 : g ≠ b) : Bk W' g cs :=
  have e := hc.block g h1 h2
  ⟨fun i x hx => by rw [World.cell?_of_block e]; exact h.1 i x hx, fun i hi => by rw [World.frozen?_of_block e]; exact h.2.1 i hi, Nat.lt_of_lt_of_le h.2.2 hc.size⟩
theorem Rd.chg {W W' : World} {R P E E2 lo b : Nat} {ls : List Int} (h : Rd W (.slice (some ⟨R, P, none⟩) E E2) ls) (hc : Chg lo b W W') (h1 : R < lo) (h2 : R ≠ b) : Rd W' (.slice (some ⟨R, P, none⟩) E E2) ls := by
  obtain ⟨A, n, c, e, hn, h3, h4, h5⟩ := h
  refine ⟨A, n, c, e, hn, h3, h4, fun h0 => ?_⟩
  obtain ⟨b', o', ea, hlt, hcc⟩ := h5 h0
  refine ⟨b', o', ea, Nat.lt_of_lt_of_le hlt hc.size, fun i hi => ?_⟩
  have hb' : b' = R := by
    injection e with e1 _ _
    rw [ea] at e1
    injection e1 with e1
    injection e1 with e1 _ _
    exact e1.symm
  rw [World.cell?_of_block (hc.block b' (by omega) (by omega))]
  exact hcc i hi
set_option maxRecDepth 100000 in
set_option maxHeartbeats 8000000 in
theorem reads_main {κ : Nat} (hκ : κ ≤ 5) (v : Value) (l : List Int) (w : World) (hr : Rd w v l) (hv : lvB l = true) (hl4 : l.length ≤ 400 * wdK κ) (hm : l.length % wdK κ = 0) :
    Calls Try.prog 32 #[.int .i64 (κ : Int), v] w fun e w' => e = .returned (.tuple #[.string ⟨(rdK κ l (wdK κ) (l.length / wdK κ)).1.toArray⟩, .bool true]) ∧ Below w.heap.size w w' := by
  obtain ⟨hl8, hx⟩ := lvB_parts hv
  have HTR : Hid (∀ x ∈ l, tri x) := fun x hm => tri_of (hx x hm)
  have hwd := wdK_bd κ
  have HW := Lib.hid (fun W => wire_yes hκ W)
  have HWD := Lib.hid (fun W g e (h : WrE W g κ e) t1 t2 => width_any hκ W g e h t1 t2)
  have HRM := Lib.hid (fun W g e (h : WrE W g κ e) t1 t2 (hr : Rd W v l) => room_any hκ W g e h t1 t2 v l hr)
  have hrm1 : (lvB l && decide (l.length ≤ 400 * wdK κ)) = true := by rw [hv, decide_eq_true hl4]; rfl
  rw [hrm1] at HRM
  have HLK := Lib.hid (kO_look hκ)
  have HLE := Lib.hid (kO_enter hκ)
  have HOO := Lib.hid (kO_of hκ)
  have HT0 := Lib.hid (stE_tri κ)
  obtain ⟨A, N, c, rfl, hn, hnc, hcm, r⟩ := hr
  have HR : Hid (Rd w (.slice A N c) l) := ⟨A, N, c, rfl, hn, hnc, hcm, r⟩
  rw [hn] at hl4 hm hl8 ⊢
  obtain ⟨K, hK⟩ : ∃ K, K = N / wdK κ := ⟨_, rfl⟩
  have hKT : N = K * wdK κ := by rw [hK]; exact (Nat.div_mul_cancel (Nat.dvd_of_mod_eq_zero hm)).symm
  rw [← hK]
  have hK8 : K ≤ 800 := by have h4 : K * 1 ≤ K * wdK κ := Nat.mul_le_mul_left K hwd.1; omega
  have HX : Hid (0 < N → ∃ b o, A = some ⟨b, o, none⟩ ∧ b < w.heap.size ∧ ∀ i (h : i < l.length), w.cell? ⟨b, o + i, none⟩ = some (.int .i64 l[i])) := r
  have HN := Lib.hid hn
  have HWK : Hid (∀ ls : List Int, ls.length = wdK κ ↔ ls.length = wdK κ) := fun _ => Iff.rfl
  have hm0 : (N : Int) % (wdK κ : Int) = 0 := by have : ((N % wdK κ : Nat) : Int) = (N : Int) % (wdK κ : Int) := Int.natCast_emod _ _; omega
  have hmt : (N : Int).tmod (wdK κ : Int) = 0 := by rw [Int.tmod_eq_emod_of_nonneg (by omega)]; exact hm0
  have hT1 : ¬ (wdK κ : Int) = 0 := by omega
  have hT2 : ((wdK κ : Int) == 0) = false := beq_f hT1
  have HKT := Lib.hid hKT
  clear hrm1 hv hx hK hn r hm hκ hKT
  generalize hTT : wdK κ = T at *
  have HTT := Lib.hid hTT
  clear hTT
  generalize kOF κ = F at *
  refine (callsIn_wide (n := 9)).1 ?_
  have hn1 : 1 ≤ 9 := by omega
  have hmx : Try.prog.follows .mixedOrders = true := by kernel_rfl
  refine callsIn_of_wp_marks Try.func32 rfl trivial ?_ rfl
  simp only [Try.ntmps32, List.size_toArray, List.length_cons, List.length_nil, Nat.reduceAdd, Nat.reduceSub, Array.replicate_succ, Array.replicate_zero, List.push_toArray, List.append_toArray, List.nil_append, List.cons_append]
  gi_wp2_with fail
  refine ⟨trivial, (callsIn_wide.2 (HW.out _)).mono ?_⟩; rintro e w1 ⟨rfl, hb1⟩
  have X2 : Hid (WrE (w1.alloc (.cells #[.iface (kT κ) (.agg #[]), .int .i64 (stE κ).1, .int .i64 (stE κ).2] 60)) w1.heap.size κ (stE κ)) := Bk.new w1 [.iface (kT κ) (.agg #[]), .int .i64 (stE κ).1, .int .i64 (stE κ).2] 60 w1.heap.size rfl
  have B2 : Hid (Below w.heap.size w (w1.alloc (.cells #[.iface (kT κ) (.agg #[]), .int .i64 (stE κ).1, .int .i64 (stE κ).2] 60))) := hb1.alloc hb1.size _
  have G1 := Lib.hid hb1.size
  obtain ⟨W2, hW2⟩ : ∃ W2, W2 = w1.alloc (.cells #[.iface (kT κ) (.agg #[]), .int .i64 (stE κ).1, .int .i64 (stE κ).2] 60) := ⟨_, rfl⟩
  rw [← hW2] at X2 B2
  have HW2 := Lib.hid hW2
  clear hW2 hb1
  generalize hg : w1.heap.size = g at X2 G1
  gi_wp2_with fail
  rw [← HW2.out]
  clear HW
  refine ⟨trivial, (callsIn_wide.2 (HRM.out _ g _ X2.out HT0.out.1 HT0.out.2 (HR.out.keep B2.out))).mono ?_⟩; rintro e w3 ⟨rfl, hb3⟩
  have X3 : Hid (WrE w3 g κ (stE κ)) := X2.out.keep hb3
  have B3 := Lib.hid (B2.out.trans (hb3.mono B2.out.size))
  clear hb3 X2 B2 HRM
  gi_wp2_with fail
  refine ⟨trivial, (callsIn_wide.2 (HWD.out _ g _ X3.out HT0.out.1 HT0.out.2)).mono ?_⟩; rintro e w4 ⟨rfl, hb4⟩
  have X4 : Hid (WrE w4 g κ (stE κ)) := X3.out.keep hb4
  have B4 := Lib.hid (B3.out.trans (hb4.mono B3.out.size))
  clear hb4 X3 B3
  gi_wp2_with fail
  have hBk : Blk (w4.alloc (.cells #[.pointer none, .slice none 0 0] 69)) w4.heap.size 69 [.pointer none, .slice none 0 0] := Blk.new w4 [.pointer none, .slice none 0 0] 69 _ rfl
  have hX5 := X4.out.alloc (.cells #[.pointer none, .slice none 0 0] 69)
  have hB5 := B4.out.alloc B4.out.size (.cells #[.pointer none, .slice none 0 0] 69)
  have hgb : g < w4.heap.size := X4.out.2.2
  have hz5 : (w4.alloc (.cells #[.pointer none, .slice none 0 0] 69)).heap.size = w4.heap.size + 1 := by simp
  clear X4 B4
  generalize w4.alloc (.cells #[.pointer none, .slice none 0 0] 69) = W5 at *
  generalize hbb : w4.heap.size = b at *
  have HBk := Lib.hid hBk
  have X5 : Hid (WrE W5 g κ (stE κ)) := hX5
  have B5 := Lib.hid hB5
  have Z5 := Lib.hid hz5
  have GB := Lib.hid hgb
  clear hBk hX5 hB5 hz5 hgb
  refine ⟨trivial, (callsIn_wide.2 (HWD.out _ g _ X5.out HT0.out.1 HT0.out.2)).mono ?_⟩; rintro e w6 ⟨rfl, hb6⟩
  have X6 : Hid (WrE w6 g κ (stE κ)) := X5.out.keep hb6
  have B6 := Lib.hid (B5.out.trans (hb6.mono B5.out.size))
  have HBk6 : Hid (Blk w6 b 69 [.pointer none, .slice none 0 0]) := (hb6.block b (by have := Z5.out; omega)).trans HBk.out
  have Z6 : Hid (b < w6.heap.size) := by show _ < _; have := Z5.out; have := hb6.size; omega
  clear hb6 X5 B5 HBk
  gi_wp2_with fail
  have HX1 : Hid (Blk ((w6.alloc (.cells #[.slice A N c] 22)).alloc (.cells #[.int .i64 T] 3)) w6.heap.size 22 [.slice A N c]) := Blk.alloc (Blk.new w6 [.slice A N c] 22 _ rfl) _
  have HX2 : Hid (Blk ((w6.alloc (.cells #[.slice A N c] 22)).alloc (.cells #[.int .i64 T] 3)) (w6.heap.size + 1) 3 [.int .i64 T]) := Blk.new _ [.int .i64 T] 3 _ (by simp)
  have HZ7 : Hid (((w6.alloc (.cells #[.slice A N c] 22)).alloc (.cells #[.int .i64 T] 3)).heap.size = w6.heap.size + 2) := by show _ = _; simp
  have HBB : Hid (BlR (w6.heap.size + 2) b [] ((w6.alloc (.cells #[.slice A N c] 22)).alloc (.cells #[.int .i64 T] 3))) := BlR.start (Blk.alloc (Blk.alloc HBk6.out _) _) (by have := Z6.out; omega)
  have X7 : Hid (WrE ((w6.alloc (.cells #[.slice A N c] 22)).alloc (.cells #[.int .i64 T] 3)) g κ (stE κ)) := Bk.alloc (Bk.alloc X6.out _) _
  have B7 : Hid (Below w.heap.size w ((w6.alloc (.cells #[.slice A N c] 22)).alloc (.cells #[.int .i64 T] 3))) := (B6.out.alloc B6.out.size _).alloc (Nat.le_trans B6.out.size (by simp)) _
  refine ⟨trivial, (callsIn_wide.2 (chunkI_any _ _ _ T _ hwd.1)).mono ?_⟩; rintro e w7 ⟨rfl, rfl⟩
  have HS := Lib.hid Z6.out
  clear X6 B6 HBk6 Z6
  generalize (w6.alloc (.cells #[.slice A N c] 22)).alloc (.cells #[.int .i64 T] 3) = W7 at *
  generalize w6.heap.size = S at *
  obtain ⟨R, o, hA⟩ : ∃ R o, (0 < N → A = some ⟨R, o, none⟩ ∧ R < w.heap.size ∧ ∀ i (h : i < l.length), w.cell? ⟨R, o + i, none⟩ = some (.int .i64 l[i])) := by
    by_cases h0 : 0 < N
    · obtain ⟨R, o, h1, h2, h3⟩ := HX.out h0
      exact ⟨R, o, fun _ => ⟨h1, h2, h3⟩⟩
    · exact ⟨0, 0, fun h => absurd h h0⟩
  have HAA := Lib.hid hA
  have hk1 : ∀ k, k < K → k * T + T ≤ N := by
    intro k hk
    have := Nat.mul_le_mul_right T (show k + 1 ≤ K by omega)
    rw [Nat.succ_mul] at this
    have := HKT.out
    omega
  have HK1 := Lib.hid hk1
  have HK2 : Hid (¬ K * T < N) := by show ¬ _; have := HKT.out; omega
  have hg7 : w.heap.size ≤ g := G1.out
  have hgb : g < b := GB.out
  have hbs : b < S := HS.out
  clear hA hk1 HX hm0 hmt hT1 hT2 hg HW2 HWK HWD
  gi_wp2_with fail
  refine wpIn_rangeFunc_ownF rfl hn1 (gf := 92) (lb := #[.pointer (some ⟨S, 0, none⟩), .pointer (some ⟨S + 1, 0, none⟩)]) rfl trivial (enters_of Try.func92 (by kernel_rfl) rfl)
    (chunkI_stops 8 (by omega) S R o N c T K A hwd.1 hwd.2 (fun h => (HAA.out h).1) (fun k hk => by have := HK1.out k hk; have := hwd.1; omega) HK2.out hK8 hl8 hnc W7 HX1.out HX2.out (by rw [HZ7.out]; exact Nat.le_refl _)) kp_t (kp_b (by rw [HZ7.out]; exact Nat.le_refl _)) (Below.refl _ _) (fun _ => rfl)
    (fun pre W => BlR (S + 2) b (Lib.byteCells (rdF κ l T pre).1) W ∧ WrE W g κ (rdF κ l T pre).2 ∧ Below w.heap.size w W ∧ Kp S W7 W ∧ S + 2 ≤ W.heap.size)
    (fun _ _ _ => False)
    (fun _ _ _ row hs hg hr => ⟨hs.1.own hg (fun r e => ⟨by have := (hr r e).1; rw [HZ7.out] at this; exact this, (hr r e).2⟩), Bk.gb hs.2.1 hg (fun k hk => by have := (hr k hk).1; rw [HZ7.out] at this; omega), hs.2.2.1.grown hg hs.2.2.1.size (fun k hk => by have := (hr k hk).1; rw [HZ7.out] at this; omega), hs.2.2.2.1.trans (Kp.of_gbo hg (fun r e => by have := (hr r e).1; rw [HZ7.out] at this; exact this) hs.2.2.2.2), Nat.le_trans hs.2.2.2.2 hg.size⟩)
    (fun _ _ _ _ _ hs _ _ => hs)
    ⟨HBB.out, X7.out, B7.out, Kp.of_below (Below.refl (S + 2) _) (Nat.le_refl _), by rw [HZ7.out]; exact Nat.le_refl _⟩
    (fun x => { tmps := #[.int .i64 κ, .slice A N c, undef, undef, .string ⟨#[]⟩, .bool false, .pointer (some ⟨g, 0, none⟩), .bool true, .pointer (some ⟨b, 0, none⟩), .slice (some ⟨R, o + x.1 * T, none⟩) (min T (N - x.1 * T)) (min T (N - x.1 * T)), undef,
      .tuple #[.agg #[.iface (kT κ) (.agg #[]), .int .i64 (stE κ).1, .int .i64 (stE κ).2], .bool true], .int .i64 κ, .tuple #[.agg #[.iface (kT κ) (.agg #[]), .int .i64 (stE κ).1, .int .i64 (stE κ).2], .bool true], .agg #[.iface (kT κ) (.agg #[]), .int .i64 (stE κ).1, .int .i64 (stE κ).2],
      .bool true, .bool true, .bool false, .bool false, .slice A N c, .bool true, .bool false, .bool false, .bool false, .slice A N c, .int .i64 N, .int .i64 T, .int .i64 0, .bool false, .bool false, .slice A N c, .int .i64 T,
      .func (.func 92) #[] #[.pointer (some ⟨S, 0, none⟩), .pointer (some ⟨S + 1, 0, none⟩)], .slice (some ⟨R, o + x.1 * T, none⟩) (min T (N - x.1 * T)) (min T (N - x.1 * T)), undef, undef, undef, undef, undef, undef, undef, undef, undef, undef, undef], defers := [] }) ?assign ?body ?done ?stop
  case assign =>
    intro lp x W KK hKK
    gi_wp2
    exact hKK
  case body =>
    rintro lp pre ⟨j, hj⟩ W ⟨hbl, hwr, hbw, hkp, hsz⟩ hplen
    have hjj := HK1.out j hj
    have hjN : j * T < N := by have := hwd.1; omega
    obtain ⟨hA1, hA2, hA3⟩ := HAA.out (by omega)
    have hmin : min T (N - j * T) = T := by omega
    have RB := Lib.hid (rd_blk (w := w) (W := W) (N := N) (c := c) T j hA3 hA2 hbw HN.out hjN hl8)
    have hln : (blkI l T j).length = T := by rw [blkI_len (by have := HN.out; omega), HN.out]; exact hmin
    obtain ⟨t1, t2⟩ := rdF_tri (κ := κ) HTR.out T pre
    have HSN := Lib.hid (rdF_snoc κ l T pre (⟨j, hj⟩ : BN K))
    have HLN : Hid ((rdF κ l T pre).1.length < 801) := by show _ < _; rw [rdF_len]; omega
    have HLB := Lib.hid hln
    have HRA : Hid (R < g) := by show _ < _; omega
    clear hmin hjj hA1 hA2 hA3 hln
    dsimp only at HSN ⊢
    generalize blkI l T j = ls at *
    generalize hacc : rdF κ l T pre = acc at *
    clear hacc
    obtain ⟨M, a, m⟩ := acc
    have c0 := hwr.c 0 _ rfl
    have c1 := hwr.c 1 _ rfl
    have c2 := hwr.c 2 _ rfl
    generalize min T (N - j * T) = E at *
    generalize o + j * T = P at *
    have HCC := Lib.hid (HOO.out a m _ ls W RB.out (by rw [HTT.out]; exact HLB.out))
    have HBL := Lib.hid hbl
    have HWR := Lib.hid hwr
    have HBW := Lib.hid hbw
    have HKP := Lib.hid hkp
    have HS4 := Lib.hid hsz
    have hm := HLK.out
    have hen := HLE.out
    clear hbl hwr hbw hkp hsz t1 t2 hplen
    cases hq : oneK κ ls a
    all_goals
      rw [hq] at HCC
      have HSN2 := Lib.hid (HSN.out)
      unfold stepR at HSN2
      dsimp only at HSN2
      rw [hq] at HSN2
      gi_wp2_with fail
      refine ⟨trivial, (CallsIn.inRound lp (callsIn_wide.2 HCC.out)).mono ?_⟩; rintro e W5 ⟨rfl, hb5⟩
      have HBL5 := Lib.hid (HBL.out.keep hb5)
      have HK5 := Lib.hid (keeps_below hb5)
      have HP5 : Hid (Kp S W W5) := Kp.of_below hb5 HS4.out
      have HS5 : Hid (S + 2 ≤ W5.heap.size) := Nat.le_trans HS4.out hb5.size
      have HWR5 : Hid (WrE W5 g κ (a, m)) := HWR.out.keep hb5
      have HBW5 := Lib.hid (HBW.out.trans (hb5.mono HBW.out.size))
      have RB5 := Lib.hid (RB.out.keep hb5)
      clear hb5 c0 c1 c2
      gi_wp2_with fail
      refine ⟨trivial, (CallsIn.inRound lp (callsIn_wide.2 (bly_b (S + 2) b _ _ W5 HBL5.out (by simp [Lib.byteCells]; have := HLN.out; omega) HS5.out))).mono ?_⟩; rintro e W6 ⟨rfl, hbl6, hc6, hk6⟩
      have HC6 : Hid (Kp S W W6) := HP5.out.trans (Kp.of_chg hc6 (Nat.le_refl _) (.inl hbs))
      have HK6 := Lib.hid (HK5.out.trans hk6)
      have HS6 := Lib.hid (Nat.le_trans HS5.out hc6.size)
      have HB6 := Lib.hid hbl6
      have HWR6 : Hid (WrE W6 g κ (a, m)) := Bk.chg HWR5.out hc6 (by omega) (by omega)
      have HBW6 : Hid (Below w.heap.size w W6) := HBW5.out.trans (hc6.below (by omega) (by omega))
      have RB6 := Lib.hid (RB5.out.chg hc6 (by have := HRA.out; omega) (by have := HRA.out; omega))
      clear hbl6 hc6 hk6
      have HAW : Hid (Aw (.slice (some ⟨R, P, none⟩) E E) g) := by
        show Aw _ _
        intro b' o' n' c' e
        injection e with e _ _
        injection e with e
        injection e with e _ _
        have := HRA.out
        omega
      gi_wp2_with fail
      refine ⟨trivial, (CallsIn.inRound lp (callsIn_wide.2 (pass_any _ g _ _ _ _ ls HWR6.out RB6.out HAW.out (by have := HLB.out; omega)))).mono ?_⟩; rintro e W8 ⟨rfl, hx8, hg8⟩
      have HB8 := Lib.hid (HB6.out.chg hg8 (by omega) (by omega))
      have HC8 : Hid (Kp S W W8) := HC6.out.trans (Kp.of_gb hg8 (.inl (by omega)) HS6.out)
      have HK8 := Lib.hid (HK6.out.trans (ko_gb HWR6.out hg8))
      have HS8 := Lib.hid (Nat.le_trans HS6.out hg8.size)
      have HBW8 := Lib.hid (HBW6.out.grown hg8 HBW6.out.size (fun k hk => by injection hk with hk; omega))
      have HX8 := Lib.hid hx8
      clear hx8 hg8
      gi_wp2_with fail
      refine ⟨HK8.out, HC8.out, ?_, ?_, HBW8.out, HKP.out.trans HC8.out, HS8.out⟩
      · rw [HSN2.out]
        have e3 : ∀ (L : List UInt8) (x : UInt8), Lib.byteCells (L ++ [x]) = Lib.byteCells L ++ [.int .u8 (x.toNat : Int)] := fun L x => by simp [Lib.byteCells]
        show BlR _ _ (Lib.byteCells (M ++ [_])) _
        rw [e3]; exact HB8.out
      · rw [HSN2.out]; exact HX8.out
  case done =>
    rintro D ys W hD hin ⟨hbl, hwr, hbw, hkp, hsz⟩ hK
    rw [rdF_all _ _ _ hin] at hbl
    have hlr := rdK_len κ l T K
    have HBL := Lib.hid hbl
    have HBE := Lib.hid hbw
    have HD := Lib.hid hD
    have HKD := Lib.hid hK
    clear hbl hwr hbw hkp hin hD hK
    gi_wp2_with fail
    refine ⟨trivial, (callsIn_wide.2 (Go.Proofs.Try.Builder_String_any_k _ _ _ _ (Lib.IsBuilderF.of HBL.out.isB) (by omega))).mono ?_⟩; rintro e W6 ⟨rfl, -, hb6, ho6⟩
    have HB6 := Lib.hid (hb6.mono (show w.heap.size ≤ b by omega))
    have HO6 := Lib.hid ho6
    clear hb6 ho6
    gi_wp2_with fail
    have hK6 := HO6.out D _ HKD.out (fun x => by injection x with x; have := HZ7.out; have := HD.out; omega) (fun _ _ x => by cases x)
    refine ⟨by simp, .inl ⟨_, _, rfl, run_takeDeferred hK6, ?_⟩⟩
    refine ⟨_, results_tmp2 rfl _ _ _, ?_⟩
    exact ⟨rfl, (HBE.out.trans HB6.out).trans (belowK_b (w := w) (Nat.le_refl _) W6 D _ _ (Nat.le_trans B7.out.size HD.out) hK6 rfl rfl)⟩
  case stop =>
    rintro D c pre W _ _ h _
    exact h.elim
end Go.Proofs.Ytmhdjimdhcephaa
