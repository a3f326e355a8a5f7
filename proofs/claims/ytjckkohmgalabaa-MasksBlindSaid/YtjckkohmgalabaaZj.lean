/- awake; the laws on Of, Zero, Not, Select, Is. -/
import Derived.Test.YtjckkohmgalabaaZi
namespace Go.Proofs.Ytjckkohmgalabaa
open Go.RowKit
abbrev T4 : List (Nat × Nat) := [(2, 0), (2, 1), (2, 2), (2, 3)]
abbrev T12 : List (Nat × Nat) := T4 ++ [(1, 0), (1, 2), (2, 0), (2, 2), (1, 1), (1, 3), (2, 1), (2, 3)]
abbrev T16 : List (Nat × Nat) := T12 ++ [(1, 0), (1, 1), (2, 0), (2, 1)]
theorem i64_small (x : Int) (h : 0 ≤ x ∧ x ≤ 1000) : i64R x := by unfold i64R; omega
theorem lit4 (W : World) (a b c d : Nat) : URow (W.alloc (.cells #[.int .u64 (a : Int), .int .u64 (b : Int), .int .u64 (c : Int), .int .u64 (d : Int)] 22)) (.slice (some ⟨W.heap.size, 0, none⟩) 4 4) [a, b, c, d] := by
  have hb := heap_alloc_new W (.cells #[.int .u64 (a : Int), .int .u64 (b : Int), .int .u64 (c : Int), .int .u64 (d : Int)] 22)
  refine ⟨_, _, rfl, Nat.le_refl _, fun i x hi => ⟨W.heap.size, 0, rfl, ?_⟩⟩
  rw [Nat.zero_add, cell_blk hb]
  match i, hi with
  | 0, hi => cases hi; rfl
  | 1, hi => cases hi; rfl
  | 2, hi => cases hi; rfl
  | 3, hi => cases hi; rfl
theorem four_es (W : World) : ES (W.alloc (.cells #[.int .i32 1, .int .i32 0, .int .i32 1, .int .i32 1, .int .i32 2, .int .i32 0, .int .i32 2, .int .i32 1] 62)) (.slice (some ⟨W.heap.size, 0, none⟩) 4 4) [(1, 0), (1, 1), (2, 0), (2, 1)] := by
  have hb := heap_alloc_new W (.cells #[.int .i32 1, .int .i32 0, .int .i32 1, .int .i32 1, .int .i32 2, .int .i32 0, .int .i32 2, .int .i32 1] 62)
  refine ⟨_, _, rfl, fun i e hi => ⟨W.heap.size, 0, rfl, ?_⟩⟩
  rw [Nat.zero_add, cell_blk hb, cell_blk hb]
  match i, hi with
  | 0, hi => cases hi; exact ⟨rfl, rfl, by simp⟩
  | 1, hi => cases hi; exact ⟨rfl, rfl, by simp⟩
  | 2, hi => cases hi; exact ⟨rfl, rfl, by simp⟩
  | 3, hi => cases hi; exact ⟨rfl, rfl, by simp⟩
theorem aw_arena (w : World) : Calls Try.prog 20 #[.slice (some ⟨w.heap.size, 0, none⟩) 4 4] (w.alloc (.cells #[.int .u64 5, .int .u64 6, .int .u64 7, .int .u64 8] 22)) fun e w' => ∃ pa pb, e = .returned (.tuple #[.pointer (some ⟨pa, 0, none⟩), .pointer (some ⟨pb, 0, none⟩)]) ∧ Pr (w.alloc (.cells #[.int .u64 5, .int .u64 6, .int .u64 7, .int .u64 8] 22)) w' no pa pb [5, 6, 7, 8] [] T4 [5, 6, 7, 8] [] T4 :=
  arena_any _ [5, 6, 7, 8] _ (lit4 w 5 6 7 8) (by decide) (by decide)
section
variable {w0 W : World} {X : Nat → Prop} {pa pb : Nat} {cb : List Nat} {rb : List Rg} {tb : List (Nat × Nat)}
theorem aw1 (h : Pr w0 W X pa pb [5, 6, 7, 8] [] T4 cb rb tb) : Calls Try.prog 26 #[.pointer (some ⟨pa, 0, none⟩), .int .u64 18446744073709551615, .int .i64 0, .int .i64 2, .int .i64 2] W (PrPost w0 W X pa pb [7, 8, 5, 6] [] T12 cb rb tb (.int .i64 0)) := by
  have := pa_act h fun F ar => SwapRows_any ar onesN 0 2 2 (by decide) (i64_small _ (by decide)) (i64_small _ (by decide)) (i64_small _ (by decide))
  rw [show rowE [5, 6, 7, 8].length T4.length onesN 4 0 2 2 = 0 by decide +kernel, if_pos rfl, if_pos rfl, show swRC onesN (0 : Int).toNat (2 : Int).toNat [5, 6, 7, 8] (2 : Int).toNat = [7, 8, 5, 6] by decide +kernel] at this
  exact this
theorem aw2 (h : Pr w0 W X pa pb [7, 8, 5, 6] [] T12 cb rb tb) : Calls Try.prog 26 #[.pointer (some ⟨pa, 0, none⟩), .int .u64 18446744073709551615, .int .i64 0, .int .i64 1, .int .i64 2] W (PrPost w0 W X pa pb [7, 8, 5, 6] [] T12 cb rb tb (.int .i64 2)) := by
  have := pa_act h fun F ar => SwapRows_any ar onesN 0 1 2 (by decide) (i64_small _ (by decide)) (i64_small _ (by decide)) (i64_small _ (by decide))
  rw [show rowE [7, 8, 5, 6].length T12.length onesN 4 0 1 2 = 2 by decide +kernel, if_neg (by decide), if_neg (by decide)] at this
  exact this
theorem aw3 (h : Pr w0 W X pa pb [7, 8, 5, 6] [] T12 cb rb tb) : Calls Try.prog 23 #[.pointer (some ⟨pa, 0, none⟩), .int .u64 0, .int .i64 0, .int .i64 1] W (PrPost w0 W X pa pb [7, 8, 5, 6] [] T16 cb rb tb (.int .i64 0)) := by
  have := pa_act h fun F ar => Swap_any ar 0 0 1 (by decide) (i64_small _ (by decide)) (i64_small _ (by decide))
  rw [show swE [7, 8, 5, 6].length T12.length 0 0 1 = 0 by decide +kernel, if_pos rfl, if_pos rfl, show swC 0 (0 : Int).toNat (1 : Int).toNat [7, 8, 5, 6] = [7, 8, 5, 6] by decide +kernel] at this
  exact this
theorem aw4 (h : Pr w0 W X pa pb [7, 8, 5, 6] [] T16 cb rb tb) : Calls Try.prog 23 #[.pointer (some ⟨pa, 0, none⟩), .int .u64 1, .int .i64 0, .int .i64 1] W (PrPost w0 W X pa pb [7, 8, 5, 6] [] T16 cb rb tb (.int .i64 2)) := by
  have := pa_act h fun F ar => Swap_any ar 1 0 1 (by decide) (i64_small _ (by decide)) (i64_small _ (by decide))
  rw [show swE [7, 8, 5, 6].length T16.length 1 0 1 = 2 by decide +kernel, if_neg (by decide), if_neg (by decide)] at this
  exact this
theorem aw5 (h : Pr w0 W X pa pb [7, 8, 5, 6] [] T16 cb rb tb) : Calls Try.prog 37 #[.pointer (some ⟨pa, 0, none⟩), .int .i64 12] W (SiPost W [(1, 0), (1, 1), (2, 0), (2, 1)]) := by
  obtain ⟨F, c, pv, rv, pg, hx⟩ := h.arx
  exact since_good hx 12 (by decide)
end
theorem aw_of3 (w : World) : Calls Try.prog 9 #[.int .u64 3] w fun e w' => e = .returned (.int .u64 18446744073709551615) ∧ w = w' := of_any 3 w (by decide)
theorem aw_of2 (w : World) : Calls Try.prog 9 #[.int .u64 2] w fun e w' => e = .returned (.int .u64 0) ∧ w = w' := of_any 2 w (by decide)
theorem aw_zero (w : World) : Calls Try.prog 11 #[.int .u64 0] w fun e w' => e = .returned (.int .u64 18446744073709551615) ∧ w = w' := zero_any 0 w (by decide)
theorem aw_sel (w : World) : Calls Try.prog 15 #[.int .u64 12, .int .u64 10, .int .u64 5] w fun e w' => e = .returned (.int .u64 9) ∧ w = w' := sel_any 12 10 5 w (by decide) (by decide) (by decide)
set_option maxRecDepth 100000 in
set_option maxHeartbeats 1600000 in
theorem awake_any (w : World) : Calls Try.prog 19 #[] w fun e w' => e = .returned (.bool true) ∧ Below w.heap.size w w' := by
  have NW := Lib.hid (aw_arena w)
  have B0 := Lib.hid (below_alloc w (.cells #[.int .u64 5, .int .u64 6, .int .u64 7, .int .u64 8] 22))
  obtain ⟨w0, hw0⟩ : ∃ W, W = w.alloc (.cells #[.int .u64 5, .int .u64 6, .int .u64 7, .int .u64 8] 22) := ⟨_, rfl⟩
  have HW0 := Lib.hid hw0
  rw [← hw0] at B0
  simp only [← hw0] at NW
  go_enter Try.func19, Try.ntmps19
  go_wp2_with (first
    | (go_at_call 20; rw [← HW0.out]; (with_reducible refine (NW.out).mono ?_); rintro e w1 ⟨pa, pb, rfl, h1⟩; have H1 := Lib.hid h1; clear h1)
    | (go_at_call 26; (with_reducible refine (aw1 H1.out).mono ?_); rintro e w2 ⟨rfl, h2, _⟩; have H2 := Lib.hid h2; clear h2)
    | (go_at_call 26; (with_reducible refine (aw2 H2.out).mono ?_); rintro e w3 ⟨rfl, h3, _⟩; have H3 := Lib.hid h3; clear h3)
    | (go_at_call 23; (with_reducible refine (aw3 H3.out).mono ?_); rintro e w4 ⟨rfl, h4, _⟩; have H4 := Lib.hid h4; clear h4)
    | (go_at_call 23; (with_reducible refine (aw4 H4.out).mono ?_); rintro e w5 ⟨rfl, h5, _⟩; have H5 := Lib.hid h5; clear h5)
    | (go_at_call 37; (with_reducible refine (aw5 H5.out).mono ?_); rintro e w6 ⟨v6, rfl, he, hb6⟩; have H6 := Lib.hid (H5.out.below hb6); have E6 := Lib.hid he; clear he hb6)
    | (go_at_call 9; (with_reducible refine (aw_of3 _).mono ?_); rintro e w' ⟨rfl, rfl⟩)
    | (go_at_call 9; (with_reducible refine (aw_of2 _).mono ?_); rintro e w' ⟨rfl, rfl⟩)
    | (go_at_call 11; (with_reducible refine (aw_zero _).mono ?_); rintro e w' ⟨rfl, rfl⟩)
    | (go_at_call 15; (with_reducible refine (aw_sel _).mono ?_); rintro e w' ⟨rfl, rfl⟩)
    | (go_at_call 30; (with_reducible refine (pa_cells H6.out).mono ?_); rintro e w7 ⟨v7, rfl, he, hb7⟩; have H7 := Lib.hid ((H6.out.below hb7).below (below_alloc w7 (.cells #[.int .u64 7, .int .u64 8, .int .u64 5, .int .u64 6] 22))); have E7 := Lib.hid (he.below (below_alloc w7 (.cells #[.int .u64 7, .int .u64 8, .int .u64 5, .int .u64 6] 22))); have F6 := Lib.hid ((E6.out.below hb7).below (below_alloc w7 (.cells #[.int .u64 7, .int .u64 8, .int .u64 5, .int .u64 6] 22))); clear he hb7)
    | (go_at_call 31; (with_reducible refine (law_css E7.out (lit4 w7 7 8 5 6) (by decide)).mono ?_); rintro e w8 ⟨rfl, hb8⟩; have H8 := Lib.hid ((H7.out.below hb8).below (below_alloc w8 (.cells #[.int .i32 1, .int .i32 0, .int .i32 1, .int .i32 1, .int .i32 2, .int .i32 0, .int .i32 2, .int .i32 1] 62))); have F8 := Lib.hid ((F6.out.below hb8).below (below_alloc w8 (.cells #[.int .i32 1, .int .i32 0, .int .i32 1, .int .i32 1, .int .i32 2, .int .i32 0, .int .i32 2, .int .i32 1] 62))); clear hb8)
    | (go_at_call 28; (with_reducible refine (law_evs F8.out (four_es w8) (by decide)).mono ?_); rintro e w9 ⟨rfl, hb9⟩; have H9 := Lib.hid (H8.out.below hb9); clear hb9))
  go_ret
  exact ⟨rfl, B0.out.trans (H9.out.bel.mono B0.out.size)⟩
end Go.Proofs.Ytjckkohmgalabaa
