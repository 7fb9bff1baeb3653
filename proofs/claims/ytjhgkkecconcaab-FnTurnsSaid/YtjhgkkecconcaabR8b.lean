/- The draws of stuffers and of bits: R8Stuffer, R8Bits; the laws' r8At, r8Same, r8Long. -/
import Derived.Test.YtjhgkkecconcaabSrc
import Derived.Test.YtjhgkkecconcaabStb
import Derived.Test.YtjhgkkecconcaabRs
import Derived.OwnWalk
import Derived.Laws.OwnMore
namespace Go.Proofs.Ytjhgkkecconcaab
open Go Go.RowKit
set_option linter.unusedVariables false

theorem run_append_none3 {P : Program} (w : World) (base : Nat) (t ty e : TypeId) (i : TypeInfo) (size : Nat) (ht : P.underlying t = some (.slice e)) (hi : P.info? e = some i)
    (v : Value) (n c : Nat) (xs : List Value) (hown : w.ownsRow base e size v n xs) :
    (Builtin.append_ #[t, t] ty #[v, .slice none 0 c]).run P w = .ok v w := by
  rcases hown.2 with ⟨rfl, rfl⟩ | ⟨g, cap, cur, rfl, _, _, hnc, _⟩
  · simp [Builtin.append_, run_underlying ht, sizeOf, typeInfo, hi, Builtin.lenOf, Builtin.firstCells]
  · simp [Builtin.append_, run_underlying ht, sizeOf, typeInfo, hi, Builtin.lenOf, Builtin.firstCells, hnc, storeCells]
theorem wpList_append_wn {P : Program} (w : World) {ops : Array Oper} {rest : List Oper} {o : Oper} {a : Act} {Q : Exit → Act → World → Prop} (hgd : o.guard = none) (s x : Operand) (t : TypeId)
    (ho : o.op = .call { callee := .builtin .append, args := #[s, x], argTypes := #[t, t] })
    (base : Nat) (e : TypeId) (i : TypeInfo) (z : Value) (size bytes : Nat) (ht : P.underlying t = some (.slice e)) (hi : P.info? e = some i) (hz : i.zero = some z)
    (hsize : i.size = size) (hby : i.bytes = bytes) (hzs : z.cells.size = size) (hsz : 0 < size)
    (v : Value) (n : Nat) (xs : List Value) (hs : a.eval s = v) (hown : w.ownsRow base e size v n xs)
    (A : Option Addr) (m c : Nat) (news : List Value) (hx : a.eval x = .slice A m c) (hl : news.length = m * size) (hA : A = none → m = 0) (hnews : ∀ ad, A = some ad → ∀ j u, news[j]? = some u → w.cell? (ad.add j) = some u) (h1 : ∀ u ∈ news, u.oneCell' = true)
    (h63 : n + m ≤ maxLen) (hbytes : (n + m) * bytes ≤ 140737488355328) (hbase : base ≤ w.heap.size)
    (h : ∀ v' w', w'.ownsRow base e size v' (n + m) (xs ++ news) → w.grownBy w' v.ownBlock → wpList P ops Q rest (a.put o.dst v') w') : wpList P ops Q (o :: rest) a w := by
  cases A with
  | some ad => exact wpList_append_own w hgd s x t ho base e i z size bytes ht hi hz hsize hby hzs hsz v n xs hs hown ad m c news hx hl (hnews ad rfl) h1 h63 hbytes hbase (fun v' w' a b _ => h v' w' a b)
  | none =>
    have hm := hA rfl
    subst hm
    have hn : news = [] := List.eq_nil_of_length_eq_zero (by simpa using hl)
    subst hn
    refine wpList_plain hgd fun K hK' => ?_
    have hrun := run_append_none3 (P := P) w base t o.type e i size ht hi _ n c xs hown
    unfold Oper.wp
    simp [execOp, ho, resolve, invoke, builtin, hs, hx, hrun, Result.andThen]
    exact hK' _ _ (h v w (by simpa using hown) (World.grownBy.refl _ _))
theorem add_plain3 (b o i : Nat) : (⟨b, o, none⟩ : Addr).add i = ⟨b, o + i, none⟩ := by unfold Addr.add; split <;> simp_all

theorem src_appB {B k m n : Nat} {vc : Value} {lc xs : List Value} {w w1 : World} {o : Obj} {v : Value} (h : Src B vc lc k m w) (hown : w.ownsRow B 5 1 v n xs) (hg : (w.alloc o).grownBy w1 v.ownBlock) : Src B vc lc k m w1 := by
  obtain ⟨a, z, h1, -⟩ := h.cells
  refine (h.keep ((Below.refl _ _).alloc (Nat.le_refl _) o)).grown hg (fun j hj => ⟨(hown.lt j hj).1, fun e => ?_⟩)
  subst e
  exact Lib.ownBlock_ne hown h1 (by decide) hj
theorem gk_ownB {w w1 : World} {B k n m : Nat} {base : Nat} {vc v : Value} {lc xs : List Value} (h : w.ownsRow base 5 1 v n xs) (hs : Src B vc lc k m w) (hg : w.grownBy w1 (some k)) : w1.ownsRow base 5 1 v n xs := by
  obtain ⟨a, z, h1, -⟩ := hs.cells
  exact h.kept hg (Or.inr (Lib.ownBlock_ne h h1 (by decide)))
theorem inR_one {M : List UInt8} {c : UInt8} (h : inR 48 49 M = true) (hc : 48 ≤ (c.toNat : Int) ∧ (c.toNat : Int) ≤ 49) : inR 48 49 (M ++ [c]) = true := by
  rw [inR_append, h]; simp [inR]; omega
/-- The byte of a number. -/
theorem byte_num (x : Int) (h0 : 0 ≤ x) (h1 : x ≤ 255) : ∃ c : UInt8, (c.toNat : Int) = x := ⟨UInt8.ofNat x.toNat, by rw [UInt8.toNat_ofNat']; omega⟩

end Go.Proofs.Ytjhgkkecconcaab
