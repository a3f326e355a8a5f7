/- Layer 2: awake. -/
import Derived.Test.YtnegnmjjibhldaaO
namespace Go.Proofs.Ytnegnmjjibhldaa
open Go.RowKit
abbrev x0 : List Nat := [9223372036854775809, 1]
abbrev x1 : List Nat := [2, 3]
theorem wf0 : Wf x0 := by intro x hx; simp at hx; omega
theorem wf1 : Wf x1 := by intro x hx; simp at hx; omega
theorem pr0 (v : Value) (w : World) (h : URow w v x0) : Calls Try.prog 37 #[v] w fun e w' => e = .returned (.tuple #[.string ⟨#[48, 48, 48, 48, 48, 48, 48, 48, 48, 48, 48, 48, 48, 48, 48, 49, 46, 56, 48, 48, 48, 48, 48, 48, 48, 48, 48, 48, 48, 48, 48, 48, 49]⟩, .int .i64 0]) ∧ Below w.heap.size w w' :=
  (print_any v x0 w h wf0).mono fun _ _ ⟨he, hb⟩ => ⟨he.trans (by rw [show (⟨(printL x0).toArray⟩ : ByteArray) = ⟨#[48, 48, 48, 48, 48, 48, 48, 48, 48, 48, 48, 48, 48, 48, 48, 49, 46, 56, 48, 48, 48, 48, 48, 48, 48, 48, 48, 48, 48, 48, 48, 48, 49]⟩ by kernel_rfl, show chk x0.length = 0 by kernel_rfl]), hb⟩
theorem pr1 (v : Value) (w : World) (h : URow w v x1) : Calls Try.prog 37 #[v] w fun e w' => e = .returned (.tuple #[.string ⟨#[48, 48, 48, 48, 48, 48, 48, 48, 48, 48, 48, 48, 48, 48, 48, 51, 46, 48, 48, 48, 48, 48, 48, 48, 48, 48, 48, 48, 48, 48, 48, 48, 50]⟩, .int .i64 0]) ∧ Below w.heap.size w w' :=
  (print_any v x1 w h wf1).mono fun _ _ ⟨he, hb⟩ => ⟨he.trans (by rw [show (⟨(printL x1).toArray⟩ : ByteArray) = ⟨#[48, 48, 48, 48, 48, 48, 48, 48, 48, 48, 48, 48, 48, 48, 48, 51, 46, 48, 48, 48, 48, 48, 48, 48, 48, 48, 48, 48, 48, 48, 48, 48, 50]⟩ by kernel_rfl, show chk x1.length = 0 by kernel_rfl]), hb⟩
theorem sh0 (v : Value) (w : World) (h : URow w v x0) : Calls Try.prog 26 #[v, .bool false] w fun e w' => ∃ u, e = .returned (.tuple #[u, .bool false, .int .i64 0]) ∧ URow w' u x1 ∧ Below w.heap.size w w' :=
  (shift_any v x0 false w h wf0).mono fun _ _ ⟨u, he, hr, hb⟩ => ⟨u, he.trans (by rw [show shiftO x0 = false by kernel_rfl, show chk x0.length = 0 by kernel_rfl]), by rwa [show shiftR x0 false = x1 by kernel_rfl] at hr, hb⟩
theorem co0 (v : Value) (w : World) (h : URow w v x0) : Calls Try.prog 19 #[v] w fun e w' => e = .returned (.tuple #[.int .i64 3, .int .i64 0]) ∧ Below w.heap.size w w' :=
  (count_any v x0 w h wf0).mono fun _ _ ⟨he, hb⟩ => ⟨he.trans (by rw [show (onesR x0).length = 3 by kernel_rfl, show chk x0.length = 0 by kernel_rfl]; rfl), hb⟩
theorem irow3 (w : World) (a b c : Int) : IRow (w.alloc (.cells #[.int .i64 a, .int .i64 b, .int .i64 c] 3)) (.slice (some ⟨w.heap.size, 0, none⟩) 3 3) [a, b, c] := by
  refine ⟨_, 3, rfl, by simp, fun i x hi => ⟨w.heap.size, 0, rfl, ?_⟩⟩
  rw [cell_of_row _ _ _ _ _ (0, 0) (World.alloc_heap_new w _)]
  rcases i with _ | _ | _ | i
  all_goals first | (cases hi; rfl) | (simp at hi)
theorem of0 (w : World) : Calls Try.prog 24 #[.int .i64 2, .slice (some ⟨w.heap.size, 0, none⟩) 3 3] (w.alloc (.cells #[.int .i64 0, .int .i64 63, .int .i64 64] 3)) fun e w' => ∃ u, e = .returned (.tuple #[u, .int .i64 0]) ∧ URow w' u x0 ∧ Below w.heap.size w w' :=
  (of_any 2 _ [0, 63, 64] _ (irow3 w 0 63 64) (by simp)).mono fun _ _ ⟨u, he, hr, hb⟩ => ⟨u, he.trans (by rw [show ofE 2 [0, 63, 64] = 0 by kernel_rfl]), by rwa [show ofR 2 [0, 63, 64] = x0 by kernel_rfl] at hr, ((Below.refl _ w).alloc (Nat.le_refl _) _).trans (hb.mono (by simp))⟩
set_option maxRecDepth 100000 in
theorem awake_any (w : World) : Calls Try.prog 11 #[] w fun e w' => e = .returned (.bool true) ∧ Below w.heap.size w w' := by
  have OF := Lib.hid (of0 w)
  go_enter Try.func11, Try.ntmps11
  go_wp2_with (first
    | (go_at_call 24; refine OF.out.mono ?_; rintro e w1 ⟨v, rfl, h1, hb⟩)
    | (go_at_call 37; first
        | ((with_reducible refine (pr0 _ _ h1).mono ?_); rintro e w2 ⟨rfl, hb2⟩; have h1 := h1.below hb2; have hb := hb.trans (hb2.mono hb.size))
        | ((with_reducible refine (pr1 _ _ h2).mono ?_); rintro e w2 ⟨rfl, hb2⟩; have h1 := h1.below hb2; have hb := hb.trans (hb2.mono hb.size)))
    | (go_at_call 26; refine (sh0 _ _ h1).mono ?_; rintro e w3 ⟨u, rfl, h2, hb2⟩; have h1 := h1.below hb2; have hb := hb.trans (hb2.mono hb.size))
    | (go_at_call 19; refine (co0 _ _ h1).mono ?_; rintro e w4 ⟨rfl, hb2⟩; have hb := hb.trans (hb2.mono hb.size)))
  go_ret
  exact ⟨rfl, hb⟩
end Go.Proofs.Ytnegnmjjibhldaa
