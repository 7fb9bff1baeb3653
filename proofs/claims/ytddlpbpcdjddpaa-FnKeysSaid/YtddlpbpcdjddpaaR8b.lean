/- The draws of stuffers and of bits: R8Stuffer, R8Bits; the laws' r8At, r8Same, r8Long. -/
import Derived.Test.YtddlpbpcdjddpaaSrc
import Derived.Test.YtddlpbpcdjddpaaStb
import Derived.Test.YtddlpbpcdjddpaaRs
import Derived.OwnWalk
import Derived.Laws.OwnMore
namespace Go.Proofs.Ytddlpbpcdjddpaa
open Go Go.RowKit
set_option linter.unusedVariables false

theorem run_append_none3 {P : Program} (w : World) (base : Nat) (t ty e : TypeId) (i : TypeInfo) (size : Nat) (ht : P.underlying t = some (.slice e)) (hi : P.info? e = some i)
    (v : Value) (n c : Nat) (xs : List Value) (hown : w.ownsRow base e size v n xs) :
    (Builtin.append_ #[t, t] ty #[v, .slice none 0 c]).run P w = .ok v w := by
  rcases hown.2 with ⟨rfl, rfl⟩ | ⟨g, cap, cur, rfl, _, _, hnc, _⟩
  · simp [Builtin.append_, run_underlying ht, sizeOf, typeInfo, hi, Builtin.lenOf, Builtin.firstCells]
  · simp [Builtin.append_, run_underlying ht, sizeOf, typeInfo, hi, Builtin.lenOf, Builtin.firstCells, hnc, storeCells]
theorem wpList_append_wn {P : Program} (w : World) {ops : Array Oper} {rest : List Oper} {o : Oper} {a : Act} {Q : Exit → Act → World → Prop} (hgd : o.guard = none) (s x : Operand) (t : TypeId)
    (ho : o.op = .call { callee := .builtin .append, args := #[s, x], argTypes := #[t, t] })
    (base : Nat) (e : TypeId) (i : TypeInfo) (z : Value) (size bytes : Nat) (ht : P.underlying t = some (.slice e)) (hi : P.info? e = some i) (hz : i.zero = some z)
    (hsize : i.size = size) (hby : i.bytes = bytes) (hzs : z.cells.size = size) (hsz : 0 < size)
    (v : Value) (n : Nat) (xs : List Value) (hs : a.eval s = v) (hown : w.ownsRow base e size v n xs)
    (A : Option Addr) (m c : Nat) (news : List Value) (hx : a.eval x = .slice A m c) (hl : news.length = m * size) (hA : A = none → m = 0) (hnews : ∀ ad, A = some ad → ∀ j u, news[j]? = some u → w.cell? (ad.add j) = some u) (h1 : ∀ u ∈ news, u.oneCell' = true)
    (h63 : n + m ≤ maxLen) (hbytes : (n + m) * bytes ≤ 140737488355328) (hbase : base ≤ w.heap.size)
    (h : ∀ v' w', w'.ownsRow base e size v' (n + m) (xs ++ news) → w.grownBy w' v.ownBlock → wpList P ops Q rest (a.put o.dst v') w') : wpList P ops Q (o :: rest) a w := by
  cases A with
  | some ad => exact wpList_append_own w hgd s x t ho base e i z size bytes ht hi hz hsize hby hzs hsz v n xs hs hown ad m c news hx hl (hnews ad rfl) h1 h63 hbytes hbase (fun v' w' a b _ => h v' w' a b)
  | none =>
    have hm := hA rfl
    subst hm
    have hn : news = [] := List.eq_nil_of_length_eq_zero (by simpa using hl)
    subst hn
    refine wpList_plain hgd fun K hK' => ?_
    have hrun := run_append_none3 (P := P) w base t o.type e i size ht hi _ n c xs hown
    unfold Oper.wp
    simp [execOp, ho, resolve, invoke, builtin, hs, hx, hrun, Result.andThen]
    exact hK' _ _ (h v w (by simpa using hown) (World.grownBy.refl _ _))
theorem add_plain3 (b o i : Nat) : (⟨b, o, none⟩ : Addr).add i = ⟨b, o + i, none⟩ := by unfold Addr.add; split <;> simp_all

theorem src_appB {B k m n : Nat} {vc : Value} {lc xs : List Value} {w w1 : World} {o : Obj} {v : Value} (h : Src B vc lc k m w) (hown : w.ownsRow B 5 1 v n xs) (hg : (w.alloc o).grownBy w1 v.ownBlock) : Src B vc lc k m w1 := by
  obtain ⟨a, z, h1, -⟩ := h.cells
  refine (h.keep ((Below.refl _ _).alloc (Nat.le_refl _) o)).grown hg (fun j hj => ⟨(hown.lt j hj).1, fun e => ?_⟩)
  subst e
  exact Lib.ownBlock_ne hown h1 (by decide) hj
theorem gk_ownB {w w1 : World} {B k n m : Nat} {base : Nat} {vc v : Value} {lc xs : List Value} (h : w.ownsRow base 5 1 v n xs) (hs : Src B vc lc k m w) (hg : w.grownBy w1 (some k)) : w1.ownsRow base 5 1 v n xs := by
  obtain ⟨a, z, h1, -⟩ := hs.cells
  exact h.kept hg (Or.inr (Lib.ownBlock_ne h h1 (by decide)))
theorem inR_one {M : List UInt8} {c : UInt8} (h : inR 48 49 M = true) (hc : 48 ≤ (c.toNat : Int) ∧ (c.toNat : Int) ≤ 49) : inR 48 49 (M ++ [c]) = true := by
  rw [inR_append, h]; simp [inR]; omega
/-- The byte of a number. -/
theorem byte_num (x : Int) (h0 : 0 ≤ x) (h1 : x ≤ 255) : ∃ c : UInt8, (c.toNat : Int) = x := ⟨UInt8.ofNat x.toNat, by rw [UInt8.toNat_ofNat']; omega⟩

set_option maxRecDepth 100000 in
set_option maxHeartbeats 4000000 in
theorem r8Bits_any (w : World) (v : Value) (l : List Value) (t : Nat) (ht : t ≤ 1000) (h : RdV (· < w.heap.size) w v l) (hb : ∀ x ∈ l, ∃ y : Int, x = .int .u8 y ∧ 0 ≤ y ∧ y ≤ 255) :
    Calls Try.prog 27 #[v, .int .i64 t] w fun e w' => ∃ L : List UInt8, e = .returned (.string ⟨L.toArray⟩) ∧ (L.length ≤ t ∧ inR 48 49 L = true) ∧ Below w.heap.size w w' := by
  obtain ⟨i0, hi, hz0, hz1, hz2⟩ := info_parts Try.infoByte
  have HF := Lib.hid (src_from v l w h hb)
  clear hb
  obtain ⟨A, n, c, rfl, -⟩ := h
  go_enter Try.func27, Try.ntmps27
  go_wp2_with fail
  refine HF.out.mono ?_; rintro e w1 ⟨rfl, hs1, hb1⟩
  obtain ⟨w2, hw2⟩ : ∃ w2, w2 = w1.alloc (.cells #[] 5) := ⟨_, rfl⟩
  have HW2 := Lib.hid hw2
  have k2 : Below w1.heap.size w1 w2 := by rw [hw2]; exact (Below.refl _ _).alloc (Nat.le_refl _) _
  have S2 := Lib.hid (hs1.keep k2)
  have B2 := Lib.hid (hb1.trans (k2.mono hb1.size))
  have O2 : Hid (w2.ownsRow w.heap.size 5 1 (.slice (some ⟨w1.heap.size, 0, none⟩) 0 0) 0 []) := by
    show World.ownsRow _ _ _ _ _ _ _
    rw [hw2]; exact World.ownsRow_made w1 #[] 0 hb1.size (by decide) rfl
  clear hs1 hb1 k2 hw2
  go_wp2_with fail
  rw [← HW2.out]
  refine (src_pick _ _ _ _ _ ((t : Int) + 1) _ (by decide) (by omega) S2.out).mono ?_; rintro e w3 ⟨r, rfl, ⟨r0, r1, -⟩, hs3, hg3⟩
  have r2 := r1 (by omega)
  obtain ⟨p, rfl⟩ : ∃ p : Nat, r = (p : Int) := ⟨r.toNat, by omega⟩
  have hp : p ≤ t := by omega
  have S3 := Lib.hid hs3
  have O3 := Lib.hid (gk_ownB O2.out S2.out hg3)
  have B3 := Lib.hid (gk_to B2.out hg3 B2.out.size (Nat.le_refl _))
  clear hs3 hg3 S2 O2 B2 r0 r1 r2
  go_wp2_with fail
  go_loopw [6, 7, 8] (fun u i y wr => ∃ (m : Nat) (M : List UInt8), m ≤ t ∧ i = .int .i64 m ∧ (M.length + m ≤ t ∧ inR 48 49 M = true) ∧ wr.ownsRow w.heap.size 5 1 u M.length (byteVals M) ∧ Src w.heap.size (.slice A n c) l w.heap.size (5000 - 4 * m) wr ∧ Below w.heap.size w wr) (fun _ i _ _ => (intOf i).toNat)
  case atStart => exact ⟨p, [], hp, rfl, ⟨by simp; omega, rfl⟩, O3.out, S3.out.more (by omega), B3.out⟩
  case round =>
    obtain ⟨m, M, hm, rfl, hby, hown, hs, hbw⟩ := hrel
    have HO := Lib.hid hown
    have HS := Lib.hid hs
    have HB := Lib.hid hbw
    have HP := Lib.hid hby
    clear hown hs hbw hby S3 O3 B3
    by_cases hlt : 0 < m
    · obtain ⟨m, rfl⟩ : ∃ m', m = m' + 1 := ⟨m - 1, by omega⟩
      have hlt' : (0 : Int) < ((m + 1 : Nat) : Int) := by omega
      have wm : IntKind.i64.wrap (((m + 1 : Nat) : Int) - 1) = (m : Int) := by rw [IntWalk.i64_in _ (by omega)]; omega
      have hL : M.length ≤ 1000 := by have := HP.out.1; omega
      go_wp2_with fail
      refine (src_pick _ _ _ _ _ 2 _ (by omega) (by decide) HS.out).mono ?_; rintro e w8 ⟨x, rfl, ⟨x0, x1, -⟩, hs8, hg8⟩
      have x2 := x1 (by decide)
      obtain ⟨d, hd⟩ := byte_num (48 + x) (by omega) (by omega)
      have PD : Hid ((48 ≤ (d.toNat : Int) ∧ (d.toNat : Int) ≤ 49) ∧ (Value.int .u8 (d.toNat : Int)) = .int .u8 (48 + x)) := ⟨by omega, by rw [hd]⟩
      have S8 := Lib.hid hs8
      have O8 := Lib.hid (gk_ownB HO.out HS.out hg8)
      have B8 := Lib.hid (gk_to HB.out hg8 HB.out.size (Nat.le_refl _))
      clear hs8 hg8 HO HS HB x1 hd
      have wx : IntKind.i64.wrap (48 + x) = 48 + x := IntWalk.i64_in _ (by omega)
      have wu : IntKind.u8.wrap (48 + x) = 48 + x := IntWalk.u8_in _ (by omega)
      by_cases h0 : M.length = 0
      · have hl0 : ¬ (0 : Int) < (M.length : Int) := by omega
        clear h0
        obtain ⟨Av, cv, hAv⟩ := ownt_shape O8.out
        subst hAv
        have hrow := O8.out
        go_wp2_with (at_builtin; refine wpList_append_own _ rfl _ _ 41 rfl w.heap.size 5 i0 (.int .u8 0) 1 1 Try.underlying41 hi hz0 hz1 hz2 rfl (by decide) _ _ _ rfl (World.ownsRow.alloc hrow _) ⟨w8.heap.size, 0, none⟩ 1 1 [.int .u8 (48 + x)] rfl rfl ?_ ?_ ?_ ?_ ?_ ?_)
        all_goals first | exact c1_one _ _ _ | rfl | (intro u hu; simp at hu; subst hu; rfl) | (unfold maxLen; first | omega | (simp; omega)) | (first | omega | (simp; omega)) | (have := B8.out.size; simp at this ⊢; omega) | skip
        intro v1 wz hown1 hgrow1 _
        have BZ := Lib.hid (below_app B8.out B8.out.size hrow hgrow1)
        have OZ : Hid (wz.ownsRow w.heap.size 5 1 v1 (M ++ [d]).length (byteVals (M ++ [d]))) := by
          show World.ownsRow _ _ _ _ _ _ _
          rw [← byteVals_snoc, List.length_append, PD.out.2]; exact hown1
        have SZ := Lib.hid (src_appB S8.out hrow hgrow1)
        clear hrow hgrow1 hown1 O8 S8 B8
        go_wp2_with fail
        go_roundw
        case rel => exact ⟨m, M ++ [d], by omega, by first | rfl | (congr 1; omega), ⟨by have := HP.out.1; simp; omega, inR_one HP.out.2 PD.out.1⟩, OZ.out, SZ.out.more (by omega), BZ.out⟩
        case measure => first | (simp [intOf]; done) | (simp [intOf]; omega)
      · have hl0 : (0 : Int) < (M.length : Int) := by omega
        obtain ⟨Av, cv, hAv⟩ := ownt_shape O8.out
        subst hAv
        go_wp2_with fail
        refine (src_one _ _ _ _ _ 2 _ (by omega) (by decide) S8.out).mono ?_; rintro e w9 ⟨z9, rfl, hs9, hg9⟩
        have S9 := Lib.hid hs9
        have O9 := Lib.hid (gk_ownB O8.out S8.out hg9)
        have B9 := Lib.hid (gk_to B8.out hg9 B8.out.size (Nat.le_refl _))
        clear hs9 hg9 O8 S8 B8
        cases z9
        · have hrow := O9.out
          go_wp2_with (at_builtin; refine wpList_append_own _ rfl _ _ 41 rfl w.heap.size 5 i0 (.int .u8 0) 1 1 Try.underlying41 hi hz0 hz1 hz2 rfl (by decide) _ _ _ rfl (World.ownsRow.alloc hrow _) ⟨w9.heap.size, 0, none⟩ 1 1 [.int .u8 (48 + x)] rfl rfl ?_ ?_ ?_ ?_ ?_ ?_)
          all_goals first | exact c1_one _ _ _ | rfl | (intro u hu; simp at hu; subst hu; rfl) | (unfold maxLen; first | omega | (simp; omega)) | (first | omega | (simp; omega)) | (have := B9.out.size; simp at this ⊢; omega) | skip
          intro v1 wz hown1 hgrow1 _
          have BZ := Lib.hid (below_app B9.out B9.out.size hrow hgrow1)
          have OZ : Hid (wz.ownsRow w.heap.size 5 1 v1 (M ++ [d]).length (byteVals (M ++ [d]))) := by
            show World.ownsRow _ _ _ _ _ _ _
            rw [← byteVals_snoc, List.length_append, PD.out.2]; exact hown1
          have SZ := Lib.hid (src_appB S9.out hrow hgrow1)
          clear hrow hgrow1 hown1 O9 S9 B9
          go_wp2_with fail
          go_roundw
          case rel => exact ⟨m, M ++ [d], by omega, by first | rfl | (congr 1; omega), ⟨by have := HP.out.1; simp; omega, inR_one HP.out.2 PD.out.1⟩, OZ.out, SZ.out.more (by omega), BZ.out⟩
          case measure => first | (simp [intOf]; done) | (simp [intOf]; omega)
        · obtain ⟨g, hg⟩ : ∃ g, Av = some ⟨g, 0, none⟩ := by
            rcases O9.out.2 with ⟨h', h''⟩ | ⟨g, cap, cur, h', _⟩
            · exact absurd h'' h0
            · injection h' with h' _ _
              exact ⟨g, h'⟩
          subst hg
          obtain ⟨c9, hc9⟩ : ∃ c9, M[M.length - 1]'(by omega) = c9 := ⟨_, rfl⟩
          have PC : Hid ((48 ≤ (c9.toNat : Int) ∧ (c9.toNat : Int) ≤ 49) ∧ (Value.int .u8 (c9.toNat : Int)) = .int .u8 (c9.toNat : Int)) := by
            refine ⟨?_, rfl⟩
            have h := HP.out.2
            unfold inR at h
            rw [List.all_eq_true] at h
            have := of_decide_eq_true (h _ (List.getElem_mem (show M.length - 1 < M.length by omega)))
            rw [hc9] at this; exact this
          have hcl := World.ownsRow.cellAt O9.out (M.length - 1) (by omega)
          rw [show (byteVals M)[M.length - 1]? = some (.int .u8 (c9.toNat : Int)) from by rw [← hc9]; simp [byteVals, show M.length - 1 < M.length from by omega]] at hcl
          have j1 : IntKind.i64.wrap ((M.length : Int) - 1) = (M.length : Int) - 1 := IntWalk.i64_in _ (by omega)
          have j2 : ((M.length : Int) - 1).toNat = M.length - 1 := by omega
          have j3 : (0 : Int) ≤ (M.length : Int) - 1 := by omega
          have j4 : (M.length : Int) - 1 < (M.length : Int) := by omega
          clear hc9 PD
          obtain ⟨y, hy⟩ : ∃ y, (c9.toNat : Int) = y := ⟨_, rfl⟩
          rw [hy] at hcl
          have PC2 : Hid ((48 ≤ (c9.toNat : Int) ∧ (c9.toNat : Int) ≤ 49) ∧ (Value.int .u8 (c9.toNat : Int)) = .int .u8 y) := ⟨PC.out.1, by rw [hy]⟩
          clear hy PC
          have hrow := O9.out
          go_wp2_with (at_builtin; refine wpList_append_own _ rfl _ _ 41 rfl w.heap.size 5 i0 (.int .u8 0) 1 1 Try.underlying41 hi hz0 hz1 hz2 rfl (by decide) _ _ _ rfl (World.ownsRow.alloc hrow _) ⟨w9.heap.size, 0, none⟩ 1 1 [.int .u8 (y)] rfl rfl ?_ ?_ ?_ ?_ ?_ ?_)
          all_goals first | exact c1_one _ _ _ | rfl | (intro u hu; simp at hu; subst hu; rfl) | (unfold maxLen; first | omega | (simp; omega)) | (first | omega | (simp; omega)) | (have := B9.out.size; simp at this ⊢; omega) | skip
          intro v1 wz hown1 hgrow1 _
          have BZ := Lib.hid (below_app B9.out B9.out.size hrow hgrow1)
          have OZ : Hid (wz.ownsRow w.heap.size 5 1 v1 (M ++ [c9]).length (byteVals (M ++ [c9]))) := by
            show World.ownsRow _ _ _ _ _ _ _
            rw [← byteVals_snoc, List.length_append, PC2.out.2]; exact hown1
          have SZ := Lib.hid (src_appB S9.out hrow hgrow1)
          clear hrow hgrow1 hown1 O9 S9 B9
          go_wp2_with fail
          go_roundw
          case rel => exact ⟨m, M ++ [c9], by omega, by first | rfl | (congr 1; omega), ⟨by have := HP.out.1; simp; omega, inR_one HP.out.2 PC2.out.1⟩, OZ.out, SZ.out.more (by omega), BZ.out⟩
          case measure => first | (simp [intOf]; done) | (simp [intOf]; omega)
    · have hlt' : ¬ (0 : Int) < (m : Int) := by omega
      obtain rfl : m = 0 := by omega
      have hcv := conv_own HO.out
      go_wp2_with fail
      go_ret
      exact ⟨_, rfl, ⟨by have := HP.out.1; omega, HP.out.2⟩, HB.out⟩
end Go.Proofs.Ytddlpbpcdjddpaa
