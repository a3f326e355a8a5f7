/- Arenas that are none. -/
import Derived.Test.YtjckkohmgalabaaZj
namespace Go.Proofs.Ytjckkohmgalabaa
open Go.RowKit
theorem has_nil (a b : Int) (w : World) : Calls Try.prog 69 #[.pointer none, .int .i64 a, .int .i64 b] w fun e w' => e = .returned (.int .i64 1) ∧ w = w' := by
  go_enter Try.func69, Try.ntmps69
  go_wp2
  go_ret
  exact ⟨rfl, rfl⟩
theorem room_nil (a : Int) (w : World) : Calls Try.prog 70 #[.pointer none, .int .i64 a] w fun e w' => e = .returned (.int .i64 1) ∧ w = w' := by
  go_enter Try.func70, Try.ntmps70
  go_wp2
  go_ret
  exact ⟨rfl, rfl⟩
theorem rhas_nil (a b : Int) (w : World) : Calls Try.prog 75 #[.pointer none, .int .i64 a, .int .i64 b] w fun e w' => e = .returned (.int .i64 1) ∧ w = w' := by
  go_enter Try.func75, Try.ntmps75
  go_wp2
  go_ret
  exact ⟨rfl, rfl⟩
theorem rroom_nil (a : Int) (w : World) : Calls Try.prog 76 #[.pointer none, .int .i64 a] w fun e w' => e = .returned (.int .i64 1) ∧ w = w' := by
  go_enter Try.func76, Try.ntmps76
  go_wp2
  go_ret
  exact ⟨rfl, rfl⟩
theorem swap_nil (w : World) : Calls Try.prog 23 #[.pointer none, .int .u64 18446744073709551615, .int .i64 0, .int .i64 0] w fun e w' => e = .returned (.int .i64 1) ∧ Below w.heap.size w w' := by
  have CK : Hid (Calls Try.prog 49 #[.pointer none, .int .u64 18446744073709551615, .int .i64 4, .slice (some ⟨w.heap.size, 0, none⟩) 2 2] (w.alloc (.cells #[.int .i64 0, .int .i64 0] 3)) fun e w' => e = .returned (.int .i64 1) ∧ w.alloc (.cells #[.int .i64 0, .int .i64 0] 3) = w') :=
    Lib.hid (check_any (.pointer none) (fun _ => 1) 1 onesN 4 w.heap.size [0, 0] _ (by decide) (by simp) (r_two (i64_small _ (by decide)) (i64_small _ (by decide))) (cells_xy w 0 0 _) (fun v _ => has_nil v 1 _) (room_nil _ _))
  have B1 := Lib.hid (below_alloc w (.cells #[.int .i64 0, .int .i64 0] 3))
  go_enter Try.func23, Try.ntmps23
  go_wp2_with (first
    | (go_at_call 49; (with_reducible refine (CK.out).mono ?_); rintro e w' ⟨rfl, rfl⟩))
  go_ret
  exact ⟨rfl, B1.out⟩
theorem rswap_nil (w : World) : Calls Try.prog 42 #[.pointer none, .int .u64 18446744073709551615, .int .i64 0, .int .i64 0] w fun e w' => e = .returned (.int .i64 1) ∧ Below w.heap.size w w' := by
  have CK : Hid (Calls Try.prog 62 #[.pointer none, .int .u64 18446744073709551615, .slice (some ⟨w.heap.size, 0, none⟩) 2 2, .int .i64 1, .int .i64 4] (w.alloc (.cells #[.int .i64 0, .int .i64 0] 3)) fun e w' => e = .returned (.int .i64 1) ∧ w.alloc (.cells #[.int .i64 0, .int .i64 0] 3) = w') :=
    Lib.hid (asked_any (.pointer none) (fun _ => 1) 1 onesN w.heap.size 4 1 [0, 0] _ (by decide) (by simp) (r_two (i64_small _ (by decide)) (i64_small _ (by decide))) (cells_xy w 0 0 _) (fun v _ => rhas_nil v 1 _) (rroom_nil _ _))
  have B1 := Lib.hid (below_alloc w (.cells #[.int .i64 0, .int .i64 0] 3))
  go_enter Try.func42, Try.ntmps42
  go_wp2_with (first
    | (go_at_call 62; (with_reducible refine (CK.out).mono ?_); rintro e w' ⟨rfl, rfl⟩))
  go_ret
  exact ⟨rfl, B1.out⟩
set_option maxRecDepth 100000 in
theorem do_nil (w : World) : Calls Try.prog 21 #[.pointer none, .pointer none, .int .u8 0, .agg #[.int .u64 18446744073709551615, .int .i64 0, .int .i64 0, .int .i64 0]] w fun e w' => e = .returned (.tuple #[.int .i64 1, .int .i64 1]) ∧ Below w.heap.size w w' := by
  have B0 := (below_alloc w (cqO onesN 0 0 0)).drew
  have y := cq_cells (heap_alloc_new w (cqO onesN 0 0 0))
  have y0 := y.1
  have y1 := y.2.1
  have y2 := y.2.2.1
  have y3 := y.2.2.2
  clear y
  go_enter Try.func21, Try.ntmps21
  go_wp2
  go_region_held3 (fun w' => w'.cell? ⟨w.heap.size, 0, none⟩ = some (.int .u64 18446744073709551615) ∧ w'.cell? ⟨w.heap.size, 1, none⟩ = some (.int .i64 0) ∧ w'.cell? ⟨w.heap.size, 2, none⟩ = some (.int .i64 0))
    (first | exact ⟨y0, y1, y2⟩ | exact ⟨z0, z1, z2⟩)
    (first
      | (go_at_call 23; (with_reducible refine (swap_nil _).mono ?_); rintro e w2 ⟨rfl, h2⟩; have q0 := (h2.cell (World.block_lt_of_cell? _ _ y0) |>.trans y0); have q1 := (h2.cell (World.block_lt_of_cell? _ _ y1) |>.trans y1); have q2 := (h2.cell (World.block_lt_of_cell? _ _ y2) |>.trans y2); have z0 := q0; have z1 := q1; have z2 := q2; have P2 := Lib.hid (B0.trans (h2.mono B0.size)); clear h2 q0 q1 q2)
      | (go_at_call 42; (with_reducible refine (rswap_nil _).mono ?_); rintro e w2 ⟨rfl, h2⟩; have q0 := (h2.cell (World.block_lt_of_cell? _ _ y0) |>.trans y0); have q1 := (h2.cell (World.block_lt_of_cell? _ _ y1) |>.trans y1); have q2 := (h2.cell (World.block_lt_of_cell? _ _ y2) |>.trans y2); have z0 := q0; have z1 := q1; have z2 := q2; have P2 := Lib.hid (B0.trans (h2.mono B0.size)); clear h2 q0 q1 q2)
      | (go_at_call 42; (with_reducible refine (rswap_nil _).mono ?_); rintro e w3 ⟨rfl, h3⟩; have q0 := (h3.cell (World.block_lt_of_cell? _ _ z0) |>.trans z0); have q1 := (h3.cell (World.block_lt_of_cell? _ _ z1) |>.trans z1); have q2 := (h3.cell (World.block_lt_of_cell? _ _ z2) |>.trans z2); have z0 := q0; have z1 := q1; have z2 := q2; have P3 := Lib.hid (P2.out.trans (h3.mono P2.out.size)); clear h3 q0 q1 q2)
      | (go_at_call 23; (with_reducible refine (swap_nil _).mono ?_); rintro e w3 ⟨rfl, h3⟩; have q0 := (h3.cell (World.block_lt_of_cell? _ _ z0) |>.trans z0); have q1 := (h3.cell (World.block_lt_of_cell? _ _ z1) |>.trans z1); have q2 := (h3.cell (World.block_lt_of_cell? _ _ z2) |>.trans z2); have z0 := q0; have z1 := q1; have z2 := q2; have P3 := Lib.hid (P2.out.trans (h3.mono P2.out.size)); clear h3 q0 q1 q2))
  all_goals
    go_wp2
    go_ret2
    exact ⟨rfl, P3.out⟩
end Go.Proofs.Ytjckkohmgalabaa
