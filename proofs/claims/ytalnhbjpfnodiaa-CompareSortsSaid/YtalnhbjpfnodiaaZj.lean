/- awake; the laws on Of, Zero, Not, Select, Is. -/
import Derived.Test.YtalnhbjpfnodiaaZi
namespace Go.Proofs.Ytalnhbjpfnodiaa
open Go.RowKit
abbrev T4 : List (Nat × Nat) := [(2, 0), (2, 1), (2, 2), (2, 3)]
abbrev T12 : List (Nat × Nat) := T4 ++ [(1, 0), (1, 2), (2, 0), (2, 2), (1, 1), (1, 3), (2, 1), (2, 3)]
abbrev T16 : List (Nat × Nat) := T12 ++ [(1, 0), (1, 1), (2, 0), (2, 1)]
theorem i64_small (x : Int) (h : 0 ≤ x ∧ x ≤ 1000) : i64R x := by unfold i64R; omega
theorem lit4 (W : World) (a b c d : Nat) : URow (W.alloc (.cells #[.int .u64 (a : Int), .int .u64 (b : Int), .int .u64 (c : Int), .int .u64 (d : Int)] 22)) (.slice (some ⟨W.heap.size, 0, none⟩) 4 4) [a, b, c, d] := by
  have hb := heap_alloc_new W (.cells #[.int .u64 (a : Int), .int .u64 (b : Int), .int .u64 (c : Int), .int .u64 (d : Int)] 22)
  refine ⟨_, _, rfl, Nat.le_refl _, fun i x hi => ⟨W.heap.size, 0, rfl, ?_⟩⟩
  rw [Nat.zero_add, cell_blk hb]
  match i, hi with
  | 0, hi => cases hi; rfl
  | 1, hi => cases hi; rfl
  | 2, hi => cases hi; rfl
  | 3, hi => cases hi; rfl
theorem four_es (W : World) : ES (W.alloc (.cells #[.int .i32 1, .int .i32 0, .int .i32 1, .int .i32 1, .int .i32 2, .int .i32 0, .int .i32 2, .int .i32 1] 77)) (.slice (some ⟨W.heap.size, 0, none⟩) 4 4) [(1, 0), (1, 1), (2, 0), (2, 1)] := by
  have hb := heap_alloc_new W (.cells #[.int .i32 1, .int .i32 0, .int .i32 1, .int .i32 1, .int .i32 2, .int .i32 0, .int .i32 2, .int .i32 1] 77)
  refine ⟨_, _, rfl, fun i e hi => ⟨W.heap.size, 0, rfl, ?_⟩⟩
  rw [Nat.zero_add, cell_blk hb, cell_blk hb]
  match i, hi with
  | 0, hi => cases hi; exact ⟨rfl, rfl, by simp⟩
  | 1, hi => cases hi; exact ⟨rfl, rfl, by simp⟩
  | 2, hi => cases hi; exact ⟨rfl, rfl, by simp⟩
  | 3, hi => cases hi; exact ⟨rfl, rfl, by simp⟩
theorem aw_arena (w : World) : Calls Try.prog 22 #[.slice (some ⟨w.heap.size, 0, none⟩) 4 4] (w.alloc (.cells #[.int .u64 5, .int .u64 6, .int .u64 7, .int .u64 8] 22)) fun e w' => ∃ pa pb, e = .returned (.tuple #[.pointer (some ⟨pa, 0, none⟩), .pointer (some ⟨pb, 0, none⟩)]) ∧ Pr (w.alloc (.cells #[.int .u64 5, .int .u64 6, .int .u64 7, .int .u64 8] 22)) w' no pa pb [5, 6, 7, 8] [] T4 [5, 6, 7, 8] [] T4 :=
  arena_any _ [5, 6, 7, 8] _ (lit4 w 5 6 7 8) (by decide) (by decide)
section
variable {w0 W : World} {X : Nat → Prop} {pa pb : Nat} {cb : List Nat} {rb : List Rg} {tb : List (Nat × Nat)}
theorem aw1 (h : Pr w0 W X pa pb [5, 6, 7, 8] [] T4 cb rb tb) : Calls Try.prog 77 #[.pointer (some ⟨pa, 0, none⟩), .int .u64 18446744073709551615, .int .i64 0, .int .i64 2, .int .i64 2] W (PrPost w0 W X pa pb [7, 8, 5, 6] [] T12 cb rb tb (.int .i64 0)) := by
  have := pa_act h fun F ar => SwapRows_any ar onesN 0 2 2 (by decide) (i64_small _ (by decide)) (i64_small _ (by decide)) (i64_small _ (by decide))
  rw [show rowE [5, 6, 7, 8].length T4.length onesN 4 0 2 2 = 0 by decide +kernel, if_pos rfl, if_pos rfl, show swRC onesN (0 : Int).toNat (2 : Int).toNat [5, 6, 7, 8] (2 : Int).toNat = [7, 8, 5, 6] by decide +kernel] at this
  exact this
theorem aw2 (h : Pr w0 W X pa pb [7, 8, 5, 6] [] T12 cb rb tb) : Calls Try.prog 77 #[.pointer (some ⟨pa, 0, none⟩), .int .u64 18446744073709551615, .int .i64 0, .int .i64 1, .int .i64 2] W (PrPost w0 W X pa pb [7, 8, 5, 6] [] T12 cb rb tb (.int .i64 2)) := by
  have := pa_act h fun F ar => SwapRows_any ar onesN 0 1 2 (by decide) (i64_small _ (by decide)) (i64_small _ (by decide)) (i64_small _ (by decide))
  rw [show rowE [7, 8, 5, 6].length T12.length onesN 4 0 1 2 = 2 by decide +kernel, if_neg (by decide), if_neg (by decide)] at this
  exact this
end
theorem aw_of3 (w : World) : Calls Try.prog 64 #[.int .u64 3] w fun e w' => e = .returned (.int .u64 18446744073709551615) ∧ w = w' := of_any 3 w (by decide)
theorem aw_of2 (w : World) : Calls Try.prog 64 #[.int .u64 2] w fun e w' => e = .returned (.int .u64 0) ∧ w = w' := of_any 2 w (by decide)
theorem aw_sel (w : World) : Calls Try.prog 40 #[.int .u64 12, .int .u64 10, .int .u64 5] w fun e w' => e = .returned (.int .u64 9) ∧ w = w' := sel_any 12 10 5 w (by decide) (by decide) (by decide)
end Go.Proofs.Ytalnhbjpfnodiaa
