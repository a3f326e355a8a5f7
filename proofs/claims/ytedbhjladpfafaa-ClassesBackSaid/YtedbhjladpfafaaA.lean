/- Layer 3: sets in memory; place, Has. -/
import Derived.Test.YtedbhjladpfafaaRows
import Derived.Test.YtedbhjladpfafaaPlain
import Derived.WalkKit
import Derived.WalkSpells
import Derived.WalkLawsBesides
import Derived.IntWalk
import Derived.BigQuiet
import Derived.Deep.QuietTactic
import Derived.Deep.WholeRow
import Derived.Lib.Hide
import Derived.Below
import Derived.Outline
import Derived.StillTailTactics
namespace Go.Proofs.Ytedbhjladpfafaa
open Go.RowKit
theorem ret_bool {a b : Bool} (h : a = b) : Ending.returned (.bool a) = .returned (.bool b) := by rw [h]
theorem ret_int {k : IntKind} {a b : Int} (h : a = b) : Ending.returned (.int k a) = .returned (.int k b) := by rw [h]
/-- Block B is a variable with the set p. -/
def SA (W : World) (B : Nat) (p : Nat → Bool) : Prop := W.heap[B]? = some (.cells (sc p) 26 (0, 0))
theorem SA.lt {W : World} {B : Nat} {p : Nat → Bool} (h : SA W B p) : B < W.heap.size := (Array.getElem?_eq_some_iff.1 h).1
theorem SA.cell {W : World} {B : Nat} {p : Nat → Bool} (h : SA W B p) (j : Nat) (hj : j < 4) : W.cell? ⟨B, j, none⟩ = some (.int .u64 ((wd p j : Nat) : Int)) := by
  rw [cell_of_row W B j _ _ _ h, sc_get p j hj]
theorem SA.frozen {W : World} {B : Nat} {p : Nat → Bool} (h : SA W B p) (j : Nat) : W.frozen? ⟨B, j, none⟩ = false := frozen_of_row W B j _ _ h
theorem SA.below {W W' : World} {B n : Nat} {p : Nat → Bool} (h : SA W B p) (hb : Below n W W') (hB : B < n) : SA W' B p := (hb.block B hB).trans h
theorem SA.congr {W : World} {B : Nat} {p q : Nat → Bool} (h : SA W B p) (e : ∀ i, i < 256 → p i = q i) : SA W B q := by unfold SA; rw [← sc_congr e]; exact h
theorem SA.new (W : World) (p : Nat → Bool) : SA (W.alloc (.cells (sc p) 26)) W.heap.size p := heap_alloc_new _ _
theorem SA.alloc {W : World} {B : Nat} {p : Nat → Bool} (h : SA W B p) (o : Obj) : SA (W.alloc o) B p := (Below.heap_alloc _ _ _ h.lt).trans h
theorem SA.set {W : World} {B : Nat} {p q : Nat → Bool} (h : SA W B p) (j : Nat) (hj : j < 4) (hq : ∀ i, i < 4 → i ≠ j → wd q i = wd p i) : SA (W.setCell ⟨B, j, none⟩ (.int .u64 ((wd q j : Nat) : Int))) B q := by
  unfold SA
  rw [heap_setCell_same W B j _ _ _ h]
  congr 2
  match j, hj with
  | 0, _ => unfold sc wv; rw [hq 1 (by omega) (by omega), hq 2 (by omega) (by omega), hq 3 (by omega) (by omega)]; rfl
  | 1, _ => unfold sc wv; rw [hq 0 (by omega) (by omega), hq 2 (by omega) (by omega), hq 3 (by omega) (by omega)]; rfl
  | 2, _ => unfold sc wv; rw [hq 0 (by omega) (by omega), hq 1 (by omega) (by omega), hq 3 (by omega) (by omega)]; rfl
  | 3, _ => unfold sc wv; rw [hq 0 (by omega) (by omega), hq 1 (by omega) (by omega), hq 2 (by omega) (by omega)]; rfl
theorem sc_none : (#[.int .u64 0, .int .u64 0, .int .u64 0, .int .u64 0] : Array Value) = sc (fun _ => false) := by kernel_rfl
theorem SA.zero (W : World) : SA (W.alloc (.cells #[.int .u64 0, .int .u64 0, .int .u64 0, .int .u64 0] 26)) W.heap.size (fun _ => false) := by rw [sc_none]; exact SA.new W _
/-- Block B alone has changed. -/
structure PutAt (B : Nat) (w w' : World) : Prop where
  os : w'.os = w.os
  tape : w'.tape = w.tape
  output : w'.output = w.output
  size : w'.heap.size = w.heap.size
  block : ∀ k, k ≠ B → w'.heap[k]? = w.heap[k]?
theorem PutAt.below {B n : Nat} {w w' : World} (h : PutAt B w w') (hn : n ≤ B) : Below n w w' := ⟨h.os, h.tape, h.output, by rw [h.size]; exact Nat.le_refl _, fun k hk => h.block k (by omega)⟩
theorem PutAt.sa {B C : Nat} {w w' : World} {p : Nat → Bool} (h : PutAt B w w') (hC : C ≠ B) (hs : SA w C p) : SA w' C p := (h.block C hC).trans hs
theorem PutAt.setRow (w : World) (B : Nat) (cs : Array Value) : PutAt B w (w.setRow B cs) := ⟨rfl, rfl, rfl, size_setRow w B cs, fun k hk => setRow_other w B k cs hk⟩
section
variable {ops : Array Oper} {rest : List Oper} {o : Oper} {a : Act} {w : World} {Q : Exit → Act → World → Prop}
theorem wpList_get (hgd : o.guard = none) (x : Operand) (ho : o.op = .load 26 x) (B : Nat) (hx : a.eval x = .pointer (some ⟨B, 0, none⟩)) (p : Nat → Bool) (hs : SA w B p)
    (h : wpList Try.prog ops Q rest (a.put o.dst (sv p)) w) : wpList Try.prog ops Q (o :: rest) a w :=
  wpList_load_row hgd 26 x ho B hx 26 (sc p) (0, 0) _ hs Try.underlying26 rfl (by kernel_rfl) h
theorem wpList_put (hgd : o.guard = none) (x y : Operand) (ho : o.op = .store 26 x y) (B : Nat) (hx : a.eval x = .pointer (some ⟨B, 0, none⟩)) (p q : Nat → Bool) (hy : a.eval y = sv q) (hs : SA w B p)
    (h : ∀ w', SA w' B q → PutAt B w w' → wpList Try.prog ops Q rest (a.put o.dst undef) w') : wpList Try.prog ops Q (o :: rest) a w :=
  wpList_store_row hgd 26 x y ho B (sc q) hx hy 26 (sc p) hs (by kernel_rfl) rfl (sc_one q) (h _ (setRow_heap w B _ _ _ _ hs) (PutAt.setRow w B _))
end
theorem set_result {fn : Func} {t : Tmp} (h : fn.results = #[.cell t 26]) (tmps : Array Value) (w : World) (B : Nat) (p : Nat → Bool) (hp : tmps.getD t undef = .pointer (some ⟨B, 0, none⟩)) (hs : SA w B p) :
    (results fn tmps).run Try.prog w = .ok (sv p) w :=
  results_cell_row h tmps w B 26 (sc p) (0, 0) _ hp hs Try.underlying26 rfl (by kernel_rfl)
theorem place_any (c : Nat) (w : World) (hc : c < 256) : Calls Try.prog 40 #[.int .u8 (c : Int)] w fun e w' => e = .returned (.int .u64 ((2 ^ (c % 64) : Nat) : Int)) ∧ w = w' := by
  go_enter Try.func40, Try.ntmps40
  go_wp2
  go_ret
  exact ⟨ret_int (wrap_pow (by omega)), rfl⟩
theorem has_any (p : Nat → Bool) (c : Nat) (w : World) (hc : c < 256) : Calls Try.prog 14 #[sv p, .int .u8 (c : Int)] w fun e w' => e = .returned (.bool (p c)) ∧ Below w.heap.size w w' := by
  have hs := SA.new w p
  have hcell := hs.cell (c / 64) (by omega)
  have R := Lib.hid (wd_and p c)
  clear hs
  go_enter Try.func14, Try.ntmps14
  go_wp2
  go_quiet ((go_at_call 40; exact Calls.quiet_of_same ((place_any _ _ (by omega)).mono (by rintro e w' ⟨rfl, rfl⟩; exact ⟨rfl, rfl⟩))))
  go_wp2
  go_ret
  refine ⟨ret_bool ?_, ((Below.refl _ w).alloc (Nat.le_refl _) _).trans ⟨rfl, rfl, rfl, Nat.le_refl _, fun _ _ => rfl⟩⟩
  exact R.out
theorem rhas_any (p : Nat → Bool) (c : Nat) (w : World) (hc : c < 256) : Calls Try.prog 15 #[sv p, .int .u8 (c : Int)] w fun e w' => e = .returned (.bool (p c)) ∧ Below w.heap.size w w' := by
  have hs := SA.new w p
  have hcell := hs.cell (c / 64) (by omega)
  have R := Lib.hid (wd_shr p c)
  clear hs
  go_enter Try.func15, Try.ntmps15
  go_wp2
  go_ret
  refine ⟨ret_bool ?_, (Below.refl _ w).alloc (Nat.le_refl _) _⟩
  have := R.out
  exact this
end Go.Proofs.Ytedbhjladpfafaa
