/- Calls that give a mask, beside the reference's arena; awake. -/
import Derived.Test.YtalnhbjpfnodiaaYk
import Derived.Test.YtalnhbjpfnodiaaZo
namespace Go.Proofs.Ytalnhbjpfnodiaa
open Go.RowKit
abbrev mvE2 (m : Nat) (E : Int) : Value := .tuple #[.int .u64 ((if E = 0 then m else 0 : Nat) : Int), .int .i64 E]
section
variable {w0 W : World} {X : Nat → Prop} {pa pb : Nat} {ca cb : List Nat} {ra rb : List Rg} {ta tb t' : List (Nat × Nat)} {f m : Nat} {args : Array Value} {E : Int}
theorem pa_mask (h : Pr w0 W X pa pb ca ra ta cb rb tb) (hc : ∀ F, Ar W F pa ca ra ta → Calls Try.prog f args W (MrP W F pa ca ra ta m E t')) : Calls Try.prog f args W (PrPost w0 W X pa pb ca ra (if E = 0 then ta ++ t' else ta) cb rb tb (mvE2 m E)) := by
  obtain ⟨F, ar, nx⟩ := pr_a h
  refine (hc F ar).mono ?_
  rintro e w' ⟨rfl, hs⟩
  exact nx _ _ _ _ _ hs
theorem pb_mask (h : Pr w0 W X pa pb ca ra ta cb rb tb) (hc : ∀ F, Rb W F pb cb rb tb → Calls Try.prog f args W (RrP W F pb cb rb tb m E t')) : Calls Try.prog f args W (PrPost w0 W X pa pb ca ra ta cb rb (if E = 0 then tb ++ t' else tb) (mvE2 m E)) := by
  obtain ⟨F, rr, nx⟩ := pr_b h
  refine (hc F rr).mono ?_
  rintro e w' ⟨rfl, hs⟩
  exact nx _ _ _ _ _ hs
end
theorem lit6 (W : World) (a b c d e f : Nat) : URow (W.alloc (.cells #[.int .u64 (a : Int), .int .u64 (b : Int), .int .u64 (c : Int), .int .u64 (d : Int), .int .u64 (e : Int), .int .u64 (f : Int)] 22)) (.slice (some ⟨W.heap.size, 0, none⟩) 6 6) [a, b, c, d, e, f] := by
  have hb := heap_alloc_new W (.cells #[.int .u64 (a : Int), .int .u64 (b : Int), .int .u64 (c : Int), .int .u64 (d : Int), .int .u64 (e : Int), .int .u64 (f : Int)] 22)
  refine ⟨_, _, rfl, Nat.le_refl _, fun i x hi => ⟨W.heap.size, 0, rfl, ?_⟩⟩
  rw [Nat.zero_add, cell_blk hb]
  match i, hi with
  | 0, hi => cases hi; rfl
  | 1, hi => cases hi; rfl
  | 2, hi => cases hi; rfl
  | 3, hi => cases hi; rfl
  | 4, hi => cases hi; rfl
  | 5, hi => cases hi; rfl
abbrev A6 : List Nat := [3, 9, 1, 7, 3, 5]
abbrev B6 : List Nat := [1, 7, 3, 9, 3, 5]
abbrev U6 : List (Nat × Nat) := [(2, 0), (2, 1), (2, 2), (2, 3), (2, 4), (2, 5)]
abbrev U10 : List (Nat × Nat) := U6 ++ cmT 4 0 2
abbrev U12 : List (Nat × Nat) := U10 ++ cmT 0 4 1
abbrev U42 : List (Nat × Nat) := U12 ++ soT 0 2 (netK 2)
theorem ax_arena (w : World) : Calls Try.prog 22 #[.slice (some ⟨w.heap.size, 0, none⟩) 6 6] (w.alloc (.cells #[.int .u64 3, .int .u64 9, .int .u64 1, .int .u64 7, .int .u64 3, .int .u64 5] 22)) fun e w' => ∃ pa pb, e = .returned (.tuple #[.pointer (some ⟨pa, 0, none⟩), .pointer (some ⟨pb, 0, none⟩)]) ∧ Pr (w.alloc (.cells #[.int .u64 3, .int .u64 9, .int .u64 1, .int .u64 7, .int .u64 3, .int .u64 5] 22)) w' no pa pb A6 [] U6 A6 [] U6 :=
  arena_any _ A6 _ (lit6 w 3 9 1 7 3 5) (by decide) (by decide)
section
variable {w0 W : World} {X : Nat → Prop} {pa pb : Nat} {cb : List Nat} {rb : List Rg} {tb : List (Nat × Nat)}
theorem ax1 (h : Pr w0 W X pa pb A6 [] U6 cb rb tb) : Calls Try.prog 25 #[.pointer (some ⟨pa, 0, none⟩), .int .i64 4, .int .i64 0, .int .i64 2] W (PrPost w0 W X pa pb A6 [] U10 cb rb tb (.tuple #[.int .u64 18446744073709551615, .int .i64 0])) := by
  have := pa_mask h fun F ar => LessRows_any ar 4 0 2 (i64_small _ (by decide)) (i64_small _ (by decide))
  rw [show cmE A6.length U6.length 4 0 2 = 0 by decide +kernel, if_pos rfl, show ltO (cmO A6 4 0 2) = onesN by decide +kernel] at this
  exact this
theorem ax2 (h : Pr w0 W X pa pb A6 [] U10 cb rb tb) : Calls Try.prog 26 #[.pointer (some ⟨pa, 0, none⟩), .int .i64 0, .int .i64 4, .int .i64 1] W (PrPost w0 W X pa pb A6 [] U12 cb rb tb (.tuple #[.int .u64 18446744073709551615, .int .i64 0])) := by
  have := pa_mask h fun F ar => EqualRows_any ar 0 4 1 (i64_small _ (by decide)) (i64_small _ (by decide))
  rw [show cmE A6.length U10.length 0 4 1 = 0 by decide +kernel, if_pos rfl, show eqO (cmO A6 0 4 1) = onesN by decide +kernel] at this
  exact this
theorem ax3 (h : Pr w0 W X pa pb A6 [] U12 cb rb tb) : Calls Try.prog 28 #[.pointer (some ⟨pa, 0, none⟩), .int .i64 0, .int .i64 1, .int .i64 2] W (PrPost w0 W X pa pb A6 [] U12 cb rb tb (.int .i64 2)) := by
  have := pa_act h fun F ar => Exchange_any ar 0 1 2 (i64_small _ (by decide)) (i64_small _ (by decide))
  rw [show exE A6.length U12.length 0 1 2 = 2 by decide +kernel, if_neg (by decide), if_neg (by decide)] at this
  exact this
theorem ax4 (h : Pr w0 W X pa pb A6 [] U12 cb rb tb) : Calls Try.prog 29 #[.pointer (some ⟨pa, 0, none⟩), .int .i64 0, .int .i64 3, .int .i64 2] W (PrPost w0 W X pa pb B6 [] U42 cb rb tb (.int .i64 0)) := by
  have := pa_act h fun F ar => Sort_any ar 0 3 2 (i64_small _ (by decide))
  rw [show soE A6.length U12.length 0 3 2 = 0 by decide +kernel, if_pos rfl, if_pos rfl, show soC (0 : Int).toNat (2 : Int).toNat (netK ((3 : Int).toNat - 1)) A6 = B6 by decide +kernel] at this
  exact this
theorem ax5 (h : Pr w0 W X pa pb B6 [] U42 cb rb tb) : Calls Try.prog 34 #[.pointer (some ⟨pa, 0, none⟩)] W fun e w' => e = .returned (.int .i64 42) ∧ W = w' := pa_steps h
end
theorem ax_l1 (w : World) : Calls Try.prog 11 #[.int .u64 3, .int .u64 4] w fun e w' => e = .returned (.int .u64 18446744073709551615) ∧ w = w' := less_any 3 4 w (by decide) (by decide)
theorem ax_l2 (w : World) : Calls Try.prog 11 #[.int .u64 4, .int .u64 3] w fun e w' => e = .returned (.int .u64 0) ∧ w = w' := less_any 4 3 w (by decide) (by decide)
theorem ax_ls (w : World) : Calls Try.prog 13 #[.int .u64 18446744073709551615, .int .u64 0] w fun e w' => e = .returned (.int .u64 18446744073709551615) ∧ w = w' := signed_any onesN 0 w (by decide) (by decide)
theorem ax_bt (w : World) : Calls Try.prog 15 #[.int .u64 5, .int .u64 5, .int .u64 6] w fun e w' => e = .returned (.int .u64 18446744073709551615) ∧ w = w' := between_any 5 5 6 w (by decide) (by decide) (by decide)
set_option maxRecDepth 100000 in
set_option maxHeartbeats 1600000 in
theorem awake_any (w : World) : Calls Try.prog 21 #[] w fun e w' => e = .returned (.bool true) ∧ Below w.heap.size w w' := by
  have NW := Lib.hid (ax_arena w)
  have B0 := Lib.hid (below_alloc w (.cells #[.int .u64 3, .int .u64 9, .int .u64 1, .int .u64 7, .int .u64 3, .int .u64 5] 22))
  obtain ⟨w0, hw0⟩ : ∃ W, W = w.alloc (.cells #[.int .u64 3, .int .u64 9, .int .u64 1, .int .u64 7, .int .u64 3, .int .u64 5] 22) := ⟨_, rfl⟩
  have HW0 := Lib.hid hw0
  rw [← hw0] at B0
  simp only [← hw0] at NW
  clear hw0
  go_enter Try.func21, Try.ntmps21
  go_wp2_with (first
    | (go_at_call 22; rw [← HW0.out]; (with_reducible refine (NW.out).mono ?_); rintro e w1 ⟨pa, pb, rfl, h1⟩; have H1 := Lib.hid h1; clear h1)
    | (go_at_call 25; (with_reducible refine (ax1 H1.out).mono ?_); rintro e w2 ⟨rfl, h2, _⟩; have H2 := Lib.hid h2; clear h2)
    | (go_at_call 26; (with_reducible refine (ax2 H2.out).mono ?_); rintro e w3 ⟨rfl, h3, _⟩; have H3 := Lib.hid h3; clear h3)
    | (go_at_call 28; (with_reducible refine (ax3 H3.out).mono ?_); rintro e w4 ⟨rfl, h4, _⟩; have H4 := Lib.hid h4; clear h4)
    | (go_at_call 29; (with_reducible refine (ax4 H4.out).mono ?_); rintro e w5 ⟨rfl, h5, _⟩; have H5 := Lib.hid h5; clear h5)
    | (go_at_call 11; (with_reducible refine (ax_l1 _).mono ?_); rintro e w' ⟨rfl, rfl⟩)
    | (go_at_call 11; (with_reducible refine (ax_l2 _).mono ?_); rintro e w' ⟨rfl, rfl⟩)
    | (go_at_call 13; (with_reducible refine (ax_ls _).mono ?_); rintro e w' ⟨rfl, rfl⟩)
    | (go_at_call 15; (with_reducible refine (ax_bt _).mono ?_); rintro e w' ⟨rfl, rfl⟩)
    | (go_at_call 32; (with_reducible refine (pa_cells H5.out).mono ?_); rintro e w7 ⟨v7, rfl, he, hb7⟩; have H7 := Lib.hid ((H5.out.below hb7).below (below_alloc w7 (.cells #[.int .u64 1, .int .u64 7, .int .u64 3, .int .u64 9, .int .u64 3, .int .u64 5] 22))); have E7 := Lib.hid (he.below (below_alloc w7 (.cells #[.int .u64 1, .int .u64 7, .int .u64 3, .int .u64 9, .int .u64 3, .int .u64 5] 22))); clear he hb7)
    | (go_at_call 33; (with_reducible refine (law_css E7.out (lit6 w7 1 7 3 9 3 5) (by decide)).mono ?_); rintro e w8 ⟨rfl, hb8⟩; have H8 := Lib.hid (H7.out.below hb8); clear hb8)
    | (go_at_call 34; (with_reducible refine (ax5 H8.out).mono ?_); rintro e w' ⟨rfl, rfl⟩))
  go_ret
  exact ⟨rfl, B0.out.trans (H8.out.bel.mono B0.out.size)⟩
end Go.Proofs.Ytalnhbjpfnodiaa
