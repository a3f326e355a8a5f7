/- SameEvents, SameRegions, Same. -/
import Derived.Test.YtjckkohmgalabaaL
import Derived.Laws.StructEq
import Derived.ChangeKeysEq
namespace Go.Proofs.Ytjckkohmgalabaa
open Go.RowKit
theorem eqEv (w : World) (a b c d : Int) : (Op.equalIn 10000 62 (.agg #[.int .i32 a, .int .i32 b]) (.agg #[.int .i32 c, .int .i32 d])).run Try.prog w = .ok (a == c && b == d) w := by
  rw [show (10000 : Nat) = 9999 + 1 from rfl, run_equalIn_agg w 9999 _ _ _ (by kernel_rfl) (by kernel_rfl)]
  unfold Program.fieldsOf
  simp [Op.eqFields, go_sem]
  by_cases h1 : a = c <;> by_cases h2 : b = d <;> simp [h1, h2]
theorem guardEv (op : BinOp) (x y : Operand) (xs ys : Array Value) (w : World) : (eqGuard op 62 x y (.agg xs) (.agg ys)).run Try.prog w = .ok () w := run_eqGuard_agg w op _ x y xs ys (by kernel_rfl)
theorem eqRg (w : World) (a b : ByteArray) (c d e f : Int) : (Op.equalIn 10000 120 (.agg #[.string a, .int .i64 c, .int .i64 d]) (.agg #[.string b, .int .i64 e, .int .i64 f])).run Try.prog w = .ok (a.toList == b.toList && c == e && d == f) w := by
  rw [show (10000 : Nat) = 9999 + 1 from rfl, run_equalIn_agg w 9999 _ _ _ (by kernel_rfl) (by kernel_rfl)]
  unfold Program.fieldsOf
  simp [Op.eqFields, go_sem]
  by_cases h1 : a.toList = b.toList <;> by_cases h2 : c = e <;> by_cases h3 : d = f <;> simp [h1, h2, h3]
theorem guardRg (op : BinOp) (x y : Operand) (xs ys : Array Value) (w : World) : (eqGuard op 120 x y (.agg xs) (.agg ys)).run Try.prog w = .ok () w := run_eqGuard_agg w op _ x y xs ys (by kernel_rfl)
theorem drewN_drewN (w : World) (a b : Nat) : (w.drewN a).drewN b = w.drewN (a + b) := by simp [World.drewN, Nat.add_assoc]
theorem take_ne {α : Type} {xs ys : List α} {k : Nat} {x y : α} (hx : xs[k]? = some x) (hy : ys[k]? = some y) (h : x ≠ y) : ¬ xs = ys := by
  rintro rfl; rw [hx] at hy; cases hy; exact h rfl
theorem take_eq {α : Type} {xs ys : List α} {k : Nat} {x y : α} (hx : xs[k]? = some x) (hy : ys[k]? = some y) (h : x = y) (hd : xs.take k = ys.take k) : xs.take (k + 1) = ys.take (k + 1) := by
  rw [List.take_add_one, List.take_add_one, hx, hy, hd, h]
theorem take_all {α : Type} {xs ys : List α} {n : Nat} (h1 : n = xs.length) (h2 : n = ys.length) (h : xs.take n = ys.take n) : xs = ys := by
  rwa [List.take_of_length_le (by omega), List.take_of_length_le (by omega)] at h
theorem below_drewN {B : Nat} {w w' : World} (h : Below B w w') (n : Nat) : Below B w (w'.drewN n) := ⟨h.os, h.tape, h.output, h.size, h.block⟩
attribute [local go_sem] guardEv guardRg
open Classical in
/-- What a comparison of two lists returns. -/
noncomputable def eqB {α : Type} (xs ys : List α) : Bool := decide (xs = ys)
theorem eqB_true {α : Type} {xs ys : List α} (h : xs = ys) : eqB xs ys = true := by unfold eqB; simp [h]
theorem eqB_false {α : Type} {xs ys : List α} (h : ¬ xs = ys) : eqB xs ys = false := by unfold eqB; simp [h]
theorem ev_ne {x y : Nat × Nat} (h : ¬ x = y) : ((x.1 : Int) == (y.1 : Int) && (x.2 : Int) == (y.2 : Int)) = false := by
  rw [Bool.and_eq_false_iff]
  by_cases e1 : x.1 = y.1
  · right
    have : ¬ x.2 = y.2 := fun e2 => h (Prod.ext e1 e2)
    rw [beq_eq_false_iff_ne]; omega
  · left
    rw [beq_eq_false_iff_ne]; omega
theorem rg_ne {x y : Rg} (h : ¬ x = y) : (x.name.toList == y.name.toList && (x.base : Int) == (y.base : Int) && (x.size : Int) == (y.size : Int)) = false := by
  rw [Bool.eq_false_iff]
  intro e
  simp only [Bool.and_eq_true] at e
  obtain ⟨⟨e1, e2⟩, e3⟩ := e
  have e1 : x.name.toList = y.name.toList := by simpa using e1
  have e2 : (x.base : Int) = (y.base : Int) := by simpa using e2
  have e3 : (x.size : Int) = (y.size : Int) := by simpa using e3
  have e1 : x.name = y.name := by
    rw [Lib.toList_data, Lib.toList_data] at e1
    exact ByteArray.ext (Array.ext' e1)
  apply h
  cases x; cases y
  simp only [Rg.mk.injEq]
  exact ⟨e1, Int.ofNat.inj e2, Int.ofNat.inj e3⟩
end Go.Proofs.Ytjckkohmgalabaa
