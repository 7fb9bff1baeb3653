/- Contracts of l01Choose and of both BinomialOf. -/
import Derived.Test.YtnlnoookpcplgaaInts
import Derived.Test.YtnlnoookpcplgaaBinP
import Derived.Test.YtnlnoookpcplgaaBtw
import Derived.Deep.RegionLaw
import Derived.Deep.AppendLies
namespace Go.Proofs.Ytnlnoookpcplgaa
open Go Go.RowKit
set_option linter.unusedVariables false

/-- The first numbers of a row of Pascal's triangle. -/
def prow (m k : Nat) : List Int := (List.range k).map fun j => (pas m j : Int)
theorem prow_succ (m k : Nat) : prow m (k + 1) = prow m k ++ [(pas m k : Int)] := by simp [prow, List.range_succ]
theorem prow_length (m k : Nat) : (prow m k).length = k := by simp [prow]
theorem prow_at (m k j : Nat) (h : j < k) : (intVals (prow m k))[j]? = some (.int .i64 (pas m j)) := by simp [intVals, prow, h]
theorem own_one (w : World) (x : Value) (e : TypeId) (base : Nat) (hb : base ≤ w.heap.size) : (w.alloc (.cells #[x] e)).ownsRow base e 1 (.slice (some ⟨w.heap.size, 0, none⟩) 1 1) 1 [x] :=
  ⟨rfl, .inr ⟨w.heap.size, 1, #[x], rfl, hb, heap_alloc_new w _, Nat.le_refl _, by decide, rfl, rfl⟩⟩
theorem c1_b (wr : World) (x : Value) (t : TypeId) : ∀ (j : Nat) (u : Value), [x][j]? = some u → (wr.alloc (.cells #[x] t)).cell? ((⟨wr.heap.size, 0, none⟩ : Addr).add j) = some u := by
  intro j u hj
  match j, hj with
  | 0, hj =>
    simp at hj; subst hj
    rw [show ((⟨wr.heap.size, 0, none⟩ : Addr).add 0) = ⟨wr.heap.size, 0, none⟩ from by simp [Addr.add]]
    rw [World.cell?_alloc_at _ _ _ _ rfl]; rfl
theorem below_rowb {B base n : Nat} {w wr w1 : World} {e : TypeId} {v : Value} {xs : List Value} {o : Obj} (hb : Below B w wr) (hB : base ≤ wr.heap.size) (hB2 : B ≤ base) (hown : wr.ownsRow base e 1 v n xs) (hg : (wr.alloc o).grownBy w1 v.ownBlock) : Below B w w1 :=
  (hb.alloc (by omega) o).grown hg (by simp; omega) (fun k hk => by have := (hown.lt k hk).1; omega)

theorem own_base {w : World} {base base' : Nat} {e : TypeId} {size n : Nat} {v : Value} {xs : List Value} (h : w.ownsRow base e size v n xs) (hle : base' ≤ base) : w.ownsRow base' e size v n xs := by
  refine ⟨h.1, ?_⟩
  rcases h.2 with h' | ⟨g, cap, cur, h1, h2, h3⟩
  · exact .inl h'
  · exact .inr ⟨g, cap, cur, h1, by omega, h3⟩

set_option maxHeartbeats 1000000 in
set_option maxRecDepth 100000 in
theorem choose_any (n k : Nat) (hn : n ≤ 60) (hk : k ≤ n) (w : World) :
    Calls Try.prog 67 #[.int .i64 n, .int .i64 k] w fun e w' => e = .returned (.int .i64 (pas n k)) ∧ Below w.heap.size w w' := by
  obtain ⟨i0, hi, hz0, hz1, hz2⟩ := info_parts Try.infoInt
  go_enter Try.func67, Try.ntmps67
  go_wp2_with fail
  go_loopw [5, 6] (fun v i wr => ∃ x : Nat, x ≤ n ∧ i = .int .i64 x ∧ wr.ownsRow w.heap.size 2 1 v (x + 1) (intVals (prow x (x + 1))) ∧ Below w.heap.size w wr) (fun _ i _ => n - (intOf i).toNat)
  case atStart => exact ⟨0, Nat.zero_le _, rfl, own_one _ _ _ _ (Nat.le_refl _), (Below.refl _ _).alloc (Nat.le_refl _) _⟩
  case round =>
    obtain ⟨x, hx, rfl, hown, hb⟩ := hrel
    obtain ⟨wo, hwo⟩ : ∃ wo : World, wo = wr := ⟨_, rfl⟩
    subst hwo
    obtain ⟨g, c, rfl, hg1, hg2, hc1, hc2⟩ := own_some hown (by omega)
    have HBS := Lib.hid hb.size
    by_cases hlt : x < n
    · have HOWN := Lib.hid hown
      have HB := Lib.hid hb
      clear hown hb
      go_wp2_with fail
      go_loopw [7, 8] (fun v j wr => ∃ y : Nat, y ≤ x ∧ j = .int .i64 ((y : Int) + 1) ∧ wr.ownsRow wo.heap.size 2 1 v (y + 1) (intVals (prow (x + 1) (y + 1))) ∧ wr.ownsRow w.heap.size 2 1 (.slice (some ⟨g, 0, none⟩) (x + 1) c) (x + 1) (intVals (prow x (x + 1))) ∧ Below w.heap.size w wr ∧ wo.heap.size < wr.heap.size) (fun _ j _ => x + 1 - (intOf j).toNat)
      case atStart => exact ⟨0, Nat.zero_le _, rfl, by have := own_one wo (.int .i64 1) 2 wo.heap.size (Nat.le_refl _); rw [show intVals (prow (x + 1) (0 + 1)) = [.int .i64 1] from by simp [prow, intVals, pas_zero]]; exact this, HOWN.out.alloc _, HB.out.alloc HBS.out _, by simp⟩
      case round =>
        obtain ⟨y, hy, rfl, hown7, hown5, hb, hsz⟩ := hrel
        obtain ⟨g7, c7, rfl, hg71, hg72, hc71, hc72⟩ := own_some hown7 (by omega)
        by_cases hlt2 : y < x
        · have hc1 := (hown5.cellAt y (by omega)).trans (prow_at x (x + 1) y (by omega))
          have hc2 := (hown5.cellAt (y + 1) (by omega)).trans (prow_at x (x + 1) (y + 1) (by omega))
          have HE : Hid (((pas x y : Nat) : Int) + ((pas x (y + 1) : Nat) : Int) = ((pas (x + 1) (y + 1) : Nat) : Int)) := by show _ = _; rw [pas_succ]; simp
          have ha := pas_le x y (by omega)
          have hb2 := pas_le x (y + 1) (by omega)
          generalize pas x y = a at *
          generalize pas x (y + 1) = b at *
          have t0 : (0 : Int) ≤ (y : Int) + 1 := by omega
          have t1 : ((y : Int) + 1).toNat = y + 1 := by omega
          have t2 : IntKind.i64.wrap ((a : Int) + (b : Int)) = (a : Int) + (b : Int) := IntWalk.i64_in _ (by omega)
          have t3 : (y : Int) < (x : Int) + 1 := by omega
          have t4 : (y : Int) + 1 < (x : Int) + 1 := by omega
          have t5 : (0 : Int) ≤ (y : Int) := by omega
          have t6 : IntKind.i64.wrap (y : Int) = (y : Int) := IntWalk.i64_in _ (by omega)
          go_wp2_with fail
          go_region_law ((refine step_append_lies _ rfl _ _ 39 (by rfl) wo.heap.size 2 i0 (.int .i64 0) 1 8 Try.underlying39 hi hz0 hz1 hz2 rfl (by decide) _ (y + 1) _ (by rfl) (hown7.alloc _) ⟨wr.heap.size, 0, none⟩ 1 1 [.int .i64 ((a : Int) + (b : Int))] (by rfl) rfl (by exact c1_b _ _ _) (by intro u hu; simp at hu; subst hu; rfl) (by decide) (by unfold maxLen; omega) (by omega) (by simp; omega) (wr.heap.size + 1) (by simp) ?_; intro g' cap w1 hown1 hgrow hat hlt1))
          all_goals
            have hb1 : Below w.heap.size w w1 := (hb.alloc (by have := HBS.out; omega) (.cells #[.int .i64 ((a : Int) + (b : Int))] 2)).grown ⟨hgrow.os, hgrow.tape, hgrow.output, hgrow.size, hgrow.block⟩ (by simp; have := HBS.out; omega) (fun k hk => by have := (hown7.lt k hk).1; have := HBS.out; omega)
            have hown2 : w1.ownsRow wo.heap.size 2 1 (.slice (some ⟨g', 0, none⟩) (y + 1 + 1) cap) (y + 1 + 1) (intVals (prow (x + 1) (y + 1 + 1))) := by
              rw [prow_succ, ← HE.out, ← intVals_snoc]; exact hown1
            have hown3 : w1.ownsRow w.heap.size 2 1 (.slice (some ⟨g, 0, none⟩) (x + 1) c) (x + 1) (intVals (prow x (x + 1))) :=
              own_kept (w := (wr.alloc (.cells #[.int .i64 ((a : Int) + (b : Int))] 2)).drew) (base2 := wo.heap.size) (hown5.alloc _) (fun k hk => by simp [Value.ownBlock] at hk; omega) hgrow (fun k hk => by simp [Value.ownBlock] at hk; omega)
            have hsz2 : wo.heap.size < w1.heap.size := by have := hgrow.size; simp at this; omega
            clear hown1 hgrow hat hlt1 hb hown5 hown7 t0 t1 t2 t3 t4 t5 t6 hc1 hc2
            go_wp2_with fail
            go_roundw
            case rel => exact ⟨y + 1, by omega, by go_num, hown2, hown3, hb1, hsz2⟩
            case measure => simp [intOf]; omega
        · obtain rfl : x = y := by omega
          have t1 : ¬ ((x : Int) + 1 < (x : Int) + 1) := by omega
          go_wp2_with (at_builtin; refine wpList_append_own _ rfl _ _ 39 rfl wo.heap.size 2 i0 (.int .i64 0) 1 8 Try.underlying39 hi hz0 hz1 hz2 rfl (by decide) _ _ _ rfl (hown7.alloc _) ⟨wr.heap.size, 0, none⟩ 1 1 [.int .i64 1] rfl rfl ?c1 ?c2 ?c3 ?c4 ?c5 ?_)
          case c2 => rfl
          case c3 => unfold maxLen; omega
          case c4 => omega
          case c5 => first | omega | (simp; omega)
          intro v' w1 hown' hgrow _
          have hb1 : Below w.heap.size w w1 := below_rowb hb (Nat.le_of_lt hsz) HBS.out hown7 hgrow
          have hown2 : w1.ownsRow w.heap.size 2 1 v' (x + 1 + 1) (intVals (prow (x + 1) (x + 1 + 1))) := by
            rw [prow_succ, pas_self, ← intVals_snoc]; exact own_base hown' HBS.out
          clear hown' hgrow hown7 hown5 hb t1
          go_wp2_with fail
          go_roundw
          case rel => exact ⟨x + 1, by omega, by go_num, hown2, hb1⟩
          case measure => simp [intOf]; omega
    · obtain rfl : x = n := by omega
      have hc1 := (hown.cellAt k (by omega)).trans (prow_at x (x + 1) k (by omega))
      have t5 : (0 : Int) ≤ (k : Int) := by omega
      have t6 : (k : Int) < (x : Int) + 1 := by omega
      clear hown
      go_wp2_with fail
      go_ret
      exact ⟨rfl, hb⟩

/-- What BinomialOf answers. -/
def binOk (n k : Int) : Bool := decide ((0 ≤ n ∧ n ≤ 60) ∧ 0 ≤ k ∧ k ≤ n)
def binV (n k : Int) : Int := if binOk n k = true then pas n.toNat k.toNat else 0

theorem pas_div (n i : Nat) (h : i ≤ n) : ((pas n i : Nat) : Int) * ((n : Int) - (i : Int)) / ((i : Int) + 1) = ((pas n (i + 1) : Nat) : Int) := by
  have hs := pas_step n i
  have e : ((pas n i : Nat) : Int) * ((n : Int) - (i : Int)) = ((pas n (i + 1) : Nat) : Int) * ((i : Int) + 1) := by
    rw [show (n : Int) - (i : Int) = ((n - i : Nat) : Int) from by omega, ← Int.natCast_mul, hs, Int.natCast_mul]
    rfl
  rw [e, Int.mul_ediv_cancel _ (by omega)]

theorem bin_step (n x : Nat) (hn : n ≤ 60) (hx : x ≤ n) : wrap64 ((wrap64 (((pas n x : Nat) : Int) * ((n : Int) - (x : Int)))).tdiv ((x : Int) + 1)) = ((pas n (x + 1) : Nat) : Int) := by
  have hd := pas_div n x hx
  have hle := pas_le n x hn
  have hle2 := pas_le n (x + 1) hn
  have hm0 : (0 : Int) ≤ ((pas n x : Nat) : Int) * ((n : Int) - (x : Int)) := Int.mul_nonneg (by omega) (by omega)
  have hm1 : ((pas n x : Nat) : Int) * ((n : Int) - (x : Int)) ≤ 118264581564861424 * 60 := Int.mul_le_mul (by omega) (by omega) (by omega) (by omega)
  generalize ((pas n x : Nat) : Int) * ((n : Int) - (x : Int)) = M at *
  have e1 : wrap64 M = M := by unfold wrap64; omega
  rw [e1, Int.tdiv_eq_ediv_of_nonneg hm0, hd]
  unfold wrap64
  omega

set_option maxRecDepth 100000 in
theorem bin_yes_impl (n k : Nat) (w : World) (n2 : n ≤ 60) (k2 : k ≤ n) :
    Calls Try.prog 69 #[.int .i64 n, .int .i64 k] w fun e w' => e = .returned (.tuple #[.int .i64 (pas n k), .bool true]) ∧ w = w' := by
  go_enter Try.func69, Try.ntmps69
  go_wp2_with fail
  refine (btw_yes _ _ _ _ (by omega) (by omega)).mono ?_; rintro e w' ⟨rfl, rfl⟩
  go_wp2_with fail
  refine (btw_yes _ _ _ _ (by omega) (by omega)).mono ?_; rintro e w' ⟨rfl, rfl⟩
  go_wp2_with fail
  go_loop [6, 18] (fun v i => ∃ x : Nat, x ≤ k ∧ i = .int .i64 x ∧ v = .int .i64 (pas n x)) (fun _ i => k - (intOf i).toNat)
  case atStart => exact ⟨0, Nat.zero_le _, rfl, by rw [pas_zero]; rfl⟩
  case round =>
    obtain ⟨x, hx, rfl, rfl⟩ := hrel
    by_cases hlt : x < k
    · have HD := Lib.hid (bin_step n x n2 (by omega))
      go_wp2_with fail
      exact ⟨⟨x + 1, by omega, by go_num, by rw [HD.out]⟩, by simp [intOf]; omega⟩
    · obtain rfl : x = k := by omega
      go_wp2_with fail
      go_ret2
      exact ⟨rfl, rfl⟩

theorem bin_impl (n k : Int) (w : World) :
    Calls Try.prog 69 #[.int .i64 n, .int .i64 k] w fun e w' => e = .returned (.tuple #[.int .i64 (binV n k), .bool (binOk n k)]) ∧ Below w.heap.size w w' := by
  by_cases h1 : 0 ≤ n ∧ n ≤ 60
  · by_cases h2 : 0 ≤ k ∧ k ≤ n
    · have hb : binOk n k = true := decide_eq_true ⟨h1, h2⟩
      have HV : Hid (binV n k = pas n.toNat k.toNat) := by show _ = _; unfold binV; rw [if_pos hb]
      obtain ⟨n1, n2⟩ := h1
      obtain ⟨k1, k2⟩ := h2
      rw [hb, HV.out]
      obtain ⟨n, rfl⟩ := Int.eq_ofNat_of_zero_le n1
      obtain ⟨k, rfl⟩ := Int.eq_ofNat_of_zero_le k1
      exact (bin_yes_impl n k w (by omega) (by omega)).mono fun e w' ⟨a, b⟩ => ⟨a, by rw [b]; exact Below.refl _ _⟩
    · have hb : binOk n k = false := decide_eq_false (fun e => h2 e.2)
      have HV : Hid (binV n k = 0) := by show _ = _; unfold binV; rw [if_neg (by rw [hb]; decide)]
      rw [hb, HV.out]
      obtain ⟨n1, n2⟩ := h1
      have H2 := Lib.hid h2
      clear h2 hb
      go_enter Try.func69, Try.ntmps69
      go_wp2_with fail
      refine (btw_yes _ _ _ _ n1 n2).mono ?_; rintro e w' ⟨rfl, rfl⟩
      go_wp2_with fail
      refine (btw_no _ _ _ _ H2.out).mono ?_; rintro e w' ⟨rfl, rfl⟩
      go_wp2_with fail
      go_ret2
      exact ⟨rfl, Below.refl _ _⟩
  · have hb : binOk n k = false := decide_eq_false (fun e => h1 e.1)
    have HV : Hid (binV n k = 0) := by show _ = _; unfold binV; rw [if_neg (by rw [hb]; decide)]
    rw [hb, HV.out]
    have H1 := Lib.hid h1
    clear h1 hb
    go_enter Try.func69, Try.ntmps69
    go_wp2_with fail
    refine (btw_no _ _ _ _ H1.out).mono ?_; rintro e w' ⟨rfl, rfl⟩
    go_wp2_with fail
    go_ret2
    exact ⟨rfl, Below.refl _ _⟩
end Go.Proofs.Ytnlnoookpcplgaa
