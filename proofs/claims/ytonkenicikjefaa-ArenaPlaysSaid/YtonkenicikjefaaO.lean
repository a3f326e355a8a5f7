/- awake: the law's first calls. -/
import Derived.Test.YtonkenicikjefaaN
namespace Go.Proofs.Ytonkenicikjefaa
open Go.RowKit
abbrev no : Nat → Prop := fun _ => False
abbrev r1 : List Rg := [⟨sA, 0, 2⟩]
abbrev r2 : List Rg := [⟨sA, 0, 2⟩, ⟨sB, 2, 2⟩]
theorem aw_new (w : World) : Calls Try.prog 12 #[.int .i64 4] w fun e W' => ∃ p, e = .returned (.tuple #[.pointer (some ⟨p, 0, none⟩), .int .i64 0]) ∧ Ow w W' no p [0, 0, 0, 0] [] [] ∧ Below w.heap.size w W' :=
  ow_new 4 w w no (Below.refl _ w) (fun _ h => h.elim) (by decide) (by decide)
theorem aw_ra {w W : World} {p : Nat} (h : Ow w W no p [0, 0, 0, 0] [] []) : Calls Try.prog 26 #[.pointer (some ⟨p, 0, none⟩), .string ⟨#[97]⟩, .int .i64 2] W (OwPost w W no p [0, 0, 0, 0] r1 [] (.tuple #[.int .i64 0, .int .i64 0])) :=
  ow_region h sA 2 (by decide) (by decide +kernel)
theorem aw_rb {w W : World} {p : Nat} (h : Ow w W no p [0, 0, 0, 0] r1 []) : Calls Try.prog 26 #[.pointer (some ⟨p, 0, none⟩), .string ⟨#[98]⟩, .int .i64 2] W (OwPost w W no p [0, 0, 0, 0] r2 [] (.tuple #[.int .i64 2, .int .i64 0])) :=
  ow_region h sB 2 (by decide) (by decide +kernel)
theorem aw_st {w W : World} {p : Nat} {rs : List Rg} (h : Ow w W no p [0, 0, 0, 0] rs []) : Calls Try.prog 30 #[.pointer (some ⟨p, 0, none⟩), .int .i64 3, .int .u64 7] W (OwPost w W no p [0, 0, 0, 7] rs [(2, 3)] (.int .i64 0)) :=
  ow_store h 3 7 (by decide) (by decide) (by decide)
theorem aw_ld {w W : World} {p : Nat} {rs : List Rg} (h : Ow w W no p [0, 0, 0, 7] rs [(2, 3)]) : Calls Try.prog 28 #[.pointer (some ⟨p, 0, none⟩), .int .i64 3] W (OwPost w W no p [0, 0, 0, 7] rs [(2, 3), (1, 3)] (.tuple #[.int .u64 7, .int .i64 0])) :=
  ow_load h 3 (by decide) (by decide)
theorem aw_le {w W : World} {p : Nat} {rs : List Rg} (h : Ow w W no p [0, 0, 0, 7] rs [(2, 3), (1, 3)]) : Calls Try.prog 28 #[.pointer (some ⟨p, 0, none⟩), .int .i64 4] W fun e w' => e = .returned (.tuple #[.int .u64 0, .int .i64 7]) ∧ W = w' :=
  ow_load_bad h 4 (by decide +kernel)
theorem aw_sp {w W : World} {p : Nat} {rs : List Rg} (h : Ow w W no p [0, 0, 0, 7] rs [(2, 3), (1, 3)]) : Calls Try.prog 15 #[.pointer (some ⟨p, 0, none⟩)] W fun e w' => e = .returned (.int .i64 2) ∧ W = w' :=
  ow_steps h
theorem aw_se (v : Value) (W : World) (h : ES W v [(2, 3), (1, 3)]) : Calls Try.prog 17 #[v, .slice (some ⟨W.heap.size, 0, none⟩) 2 2] (W.alloc (.cells #[.int .i32 2, .int .i32 3, .int .i32 1, .int .i32 3] 70)) fun e w' => e = .returned (.bool true) ∧ Below W.heap.size W w' := by
  have h2 := two_es W (2, 3) (1, 3)
  have hb : Below W.heap.size W (W.alloc (.cells #[.int .i32 2, .int .i32 3, .int .i32 1, .int .i32 3] 70)) := (Below.refl _ W).alloc (Nat.le_refl _) _
  refine (same_ev v _ _ _ _ (h.below hb) h2 (by decide)).mono ?_
  rintro e w' ⟨rfl, d, rfl⟩
  exact ⟨by rw [eqB_true rfl], below_drewN hb d⟩
set_option maxRecDepth 100000 in
set_option maxHeartbeats 1600000 in
theorem awake_any (w : World) : Calls Try.prog 11 #[] w fun e w' => e = .returned (.bool true) ∧ Below w.heap.size w w' := by
  have NW := Lib.hid (aw_new w)
  go_enter Try.func11, Try.ntmps11
  go_wp2_with (first
    | (go_at_call 12; (with_reducible refine (NW.out).mono ?_); rintro e w1 ⟨p, rfl, h1, hb1⟩; have H1 := Lib.hid h1; clear h1 hb1)
    | (go_at_call 26; (with_reducible refine (aw_ra H1.out).mono ?_); rintro e w2 ⟨rfl, h2, _, _⟩; have H2 := Lib.hid h2; clear h2)
    | (go_at_call 26; (with_reducible refine (aw_rb H2.out).mono ?_); rintro e w3 ⟨rfl, h3, _, _⟩; have H3 := Lib.hid h3; clear h3)
    | (go_at_call 30; (with_reducible refine (aw_st H3.out).mono ?_); rintro e w4 ⟨rfl, h4, _, _⟩; have H4 := Lib.hid h4; clear h4)
    | (go_at_call 28; (with_reducible refine (aw_ld H4.out).mono ?_); rintro e w5 ⟨rfl, h5, _, _⟩; have H5 := Lib.hid h5; clear h5)
    | (go_at_call 28; (with_reducible refine (aw_le H5.out).mono ?_); rintro e w' ⟨rfl, rfl⟩)
    | (go_at_call 18; (with_reducible refine (ow_events H5.out).mono ?_); rintro e w6 ⟨v, rfl, he, hb6⟩; have H6 := Lib.hid (H5.out.below hb6); have HE := Lib.hid he; clear he)
    | (go_at_call 15; (with_reducible refine (aw_sp H6.out).mono ?_); rintro e w' ⟨rfl, rfl⟩)
    | (go_at_call 17; (with_reducible refine (aw_se _ _ HE.out).mono ?_); rintro e w7 ⟨rfl, hb7⟩))
  go_ret
  exact ⟨rfl, H6.out.bel.trans (hb7.mono H6.out.bel.size)⟩
end Go.Proofs.Ytonkenicikjefaa
