/- ArenaKnown: the examples of the document. -/
import Derived.Test.YtonkenicikjefaaO
namespace Go.Proofs.Ytonkenicikjefaa
open Go.RowKit
theorem one_es (W : World) (e1 : Nat × Nat) : ES (W.alloc (.cells #[.int .i32 (e1.1 : Int), .int .i32 (e1.2 : Int)] 70)) (.slice (some ⟨W.heap.size, 0, none⟩) 1 1) [e1] := by
  have hb := heap_alloc_new W (.cells #[.int .i32 (e1.1 : Int), .int .i32 (e1.2 : Int)] 70)
  refine ⟨_, _, rfl, fun i e hi => ⟨W.heap.size, 0, rfl, ?_⟩⟩
  rw [Nat.zero_add, cell_blk hb, cell_blk hb]
  match i, hi with
  | 0, hi => cases hi; exact ⟨rfl, rfl, by simp⟩
theorem kn_rb {w W : World} {p : Nat} (h : Ow w W no p [0, 0, 0, 0] r1 []) : Calls Try.prog 26 #[.pointer (some ⟨p, 0, none⟩), .string ⟨#[98]⟩, .int .i64 3] W fun e w' => e = .returned (.tuple #[.int .i64 0, .int .i64 5]) ∧ Below W.heap.size W w' := by
  have := ow_region_bad h sB 3 (by decide) (by decide +kernel)
  rw [show regE [0, 0, 0, 0].length r1 sB 3 = 5 by decide +kernel] at this
  exact this
theorem kn_ra {w W : World} {p : Nat} (h : Ow w W no p [0, 0, 0, 0] r2 []) : Calls Try.prog 26 #[.pointer (some ⟨p, 0, none⟩), .string ⟨#[97]⟩, .int .i64 1] W fun e w' => e = .returned (.tuple #[.int .i64 0, .int .i64 8]) ∧ Below W.heap.size W w' := by
  have := ow_region_bad h sA 1 (by decide) (by decide +kernel)
  rw [show regE [0, 0, 0, 0].length r2 sA 1 = 8 by decide +kernel] at this
  exact this
theorem kn_rc {w W : World} {p : Nat} (h : Ow w W no p [0, 0, 0, 0] r2 []) : Calls Try.prog 26 #[.pointer (some ⟨p, 0, none⟩), .string ⟨#[99]⟩, .int .i64 1] W fun e w' => e = .returned (.tuple #[.int .i64 0, .int .i64 5]) ∧ Below W.heap.size W w' := by
  have := ow_region_bad h ⟨#[99]⟩ 1 (by decide) (by decide +kernel)
  rw [show regE [0, 0, 0, 0].length r2 ⟨#[99]⟩ 1 = 5 by decide +kernel] at this
  exact this
abbrev t3 : List (Nat × Nat) := [(2, 3), (1, 3), (1, 0)]
theorem kn_l0 {w W : World} {p : Nat} (h : Ow w W no p [0, 0, 0, 7] r2 [(2, 3), (1, 3)]) : Calls Try.prog 28 #[.pointer (some ⟨p, 0, none⟩), .int .i64 0] W (OwPost w W no p [0, 0, 0, 7] r2 t3 (.tuple #[.int .u64 0, .int .i64 0])) := ow_load h 0 (by decide) (by decide)
theorem kn_si {w W : World} {p : Nat} (h : Ow w W no p [0, 0, 0, 7] r2 t3) : Calls Try.prog 29 #[.pointer (some ⟨p, 0, none⟩), .int .i64 2] W (SiPost W [(1, 0)]) := ow_since h 2 (by decide)
theorem kn_sp {w W : World} {p : Nat} (h : Ow w W no p [0, 0, 0, 7] r2 t3) : Calls Try.prog 15 #[.pointer (some ⟨p, 0, none⟩)] W fun e w' => e = .returned (.int .i64 3) ∧ W = w' := ow_steps h
theorem kn_se (v : Value) (W : World) (h : ES W v [(1, 0)]) : Calls Try.prog 17 #[v, .slice (some ⟨W.heap.size, 0, none⟩) 1 1] (W.alloc (.cells #[.int .i32 1, .int .i32 0] 70)) fun e w' => e = .returned (.bool true) ∧ Below W.heap.size W w' := by
  have h2 := one_es W (1, 0)
  have hb : Below W.heap.size W (W.alloc (.cells #[.int .i32 1, .int .i32 0] 70)) := (Below.refl _ W).alloc (Nat.le_refl _) _
  refine (same_ev v _ _ _ _ (h.below hb) h2 (by decide)).mono ?_
  rintro e w' ⟨rfl, d, rfl⟩
  exact ⟨by rw [eqB_true rfl], below_drewN hb d⟩
theorem kn_has {w W : World} {p : Nat} (a b r : Int) (h : Ow w W no p [0, 0, 0, 7] r2 t3) (ha : -9223372036854775808 ≤ a ∧ a ≤ 9223372036854775807) (hr : hasE 4 a b = r) : Calls Try.prog 31 #[.pointer (some ⟨p, 0, none⟩), .int .i64 a, .int .i64 b] W fun e w' => e = .returned (.int .i64 r) ∧ W = w' := by
  subst hr; exact ow_has h a b ha
theorem kn_room {w W : World} {p : Nat} {tr : List (Nat × Nat)} (a r : Int) (h : Ow w W no p [0, 0, 0, 7] r2 tr) (hr : roomE tr.length a = r) : Calls Try.prog 32 #[.pointer (some ⟨p, 0, none⟩), .int .i64 a] W fun e w' => e = .returned (.int .i64 r) ∧ W = w' := by
  subst hr; exact ow_room h a
set_option maxRecDepth 100000 in
set_option maxHeartbeats 4000000 in
theorem known_any (w : World) : Calls Try.prog 9 #[] w fun e w' => e = .returned (.bool true) ∧ Below w.heap.size w w' := by
  have NW := Lib.hid (aw_new w)
  have AW := Lib.hid awake_any
  go_enter Try.func9, Try.ntmps9
  go_wp2_with (first
    | (go_at_call 12; (with_reducible refine (NW.out).mono ?_); rintro e w1 ⟨p, rfl, h1, hb1⟩; have H1 := Lib.hid h1; clear h1 hb1)
    | (go_at_call 26; (with_reducible refine (aw_ra H1.out).mono ?_); rintro e w2 ⟨rfl, h2, _, _⟩; have H2 := Lib.hid h2; clear h2)
    | (go_at_call 26; (with_reducible refine (kn_rb H2.out).mono ?_); rintro e w3 ⟨rfl, hb3⟩; have H3 := Lib.hid (H2.out.below hb3); clear hb3)
    | (go_at_call 26; (with_reducible refine (aw_rb H3.out).mono ?_); rintro e w4 ⟨rfl, h4, _, _⟩; have H4 := Lib.hid h4; clear h4)
    | (go_at_call 26; (with_reducible refine (kn_ra H4.out).mono ?_); rintro e w5 ⟨rfl, hb5⟩; have H5 := Lib.hid (H4.out.below hb5); clear hb5)
    | (go_at_call 26; (with_reducible refine (kn_rc H5.out).mono ?_); rintro e w6 ⟨rfl, hb6⟩; have H6 := Lib.hid (H5.out.below hb6); clear hb6)
    | (go_at_call 30; (with_reducible refine (aw_st H6.out).mono ?_); rintro e w7 ⟨rfl, h7, _, _⟩; have H7 := Lib.hid h7; clear h7)
    | (go_at_call 28; (with_reducible refine (aw_ld H7.out).mono ?_); rintro e w8 ⟨rfl, h8, _, _⟩; have H8 := Lib.hid h8; clear h8)
    | (go_at_call 28; (with_reducible refine (aw_le H8.out).mono ?_); rintro e w' ⟨rfl, rfl⟩)
    | (go_at_call 28; (with_reducible refine (kn_l0 H8.out).mono ?_); rintro e w9 ⟨rfl, h9, _, _⟩; have H9 := Lib.hid h9; clear h9)
    | (go_at_call 29; (with_reducible refine (kn_si H9.out).mono ?_); rintro e w10 ⟨v, rfl, he, hb10⟩; have H10 := Lib.hid (H9.out.below hb10); have HE := Lib.hid he; clear he hb10)
    | (go_at_call 15; (with_reducible refine (kn_sp H10.out).mono ?_); rintro e w' ⟨rfl, rfl⟩)
    | (go_at_call 17; (with_reducible refine (kn_se _ _ HE.out).mono ?_); rintro e w11 ⟨rfl, hb11⟩; have H11 := Lib.hid (H10.out.below hb11); clear hb11)
    | (go_at_call 31; (with_reducible refine (kn_has 2 2 0 H11.out (by decide) (by decide +kernel)).mono ?_); rintro e w' ⟨rfl, rfl⟩)
    | (go_at_call 31; (with_reducible refine (kn_has 2 3 7 H11.out (by decide) (by decide +kernel)).mono ?_); rintro e w' ⟨rfl, rfl⟩)
    | (go_at_call 31; (with_reducible refine (kn_has 4 0 0 H11.out (by decide) (by decide +kernel)).mono ?_); rintro e w' ⟨rfl, rfl⟩)
    | (go_at_call 31; (with_reducible refine (kn_has 5 0 7 H11.out (by decide) (by decide +kernel)).mono ?_); rintro e w' ⟨rfl, rfl⟩)
    | (go_at_call 31; (with_reducible refine (kn_has (-1) 1 7 H11.out (by decide) (by decide +kernel)).mono ?_); rintro e w' ⟨rfl, rfl⟩)
    | (go_at_call 32; (with_reducible refine (kn_room 8388605 0 H11.out (by decide +kernel)).mono ?_); rintro e w' ⟨rfl, rfl⟩)
    | (go_at_call 32; (with_reducible refine (kn_room 8388606 0 H12.out (by decide +kernel)).mono ?_); rintro e w' ⟨rfl, rfl⟩)
    | (go_at_call 32; (with_reducible refine (kn_room 8388606 3 H11.out (by decide +kernel)).mono ?_); rintro e w' ⟨rfl, rfl⟩)
    | (go_at_call 33; (with_reducible refine (ow_forget H11.out).mono ?_); rintro e w12 ⟨rfl, h12, _, _⟩; have H12 := Lib.hid h12; clear h12)
    | (go_at_call 11; (with_reducible refine (AW.out _).mono ?_); rintro e w13 ⟨rfl, hb13⟩))
  go_ret
  exact ⟨rfl, H12.out.bel.trans (hb13.mono H12.out.bel.size)⟩
end Go.Proofs.Ytonkenicikjefaa
