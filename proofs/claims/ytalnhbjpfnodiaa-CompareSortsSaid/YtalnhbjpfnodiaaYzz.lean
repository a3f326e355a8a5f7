/- CompareSorts. -/
import Derived.Test.YtalnhbjpfnodiaaYz
namespace Go.Proofs.Ytalnhbjpfnodiaa
open Go.RowKit
set_option maxRecDepth 100000 in
set_option maxHeartbeats 40000000 in
theorem sorts_any (v : Value) (xs : List Nat) (c : Cc) (mo : Nat) (w : World) (hv : URow w v xs) (hw : Wf xs) (hc : c.ok) (hmo : mo < 256) : Calls Try.prog 8 #[v, ccA c, .int .u8 (mo : Int)] w (TwP w) := by
  have AW := Lib.hid awake_any
  obtain ⟨x, y, k⟩ := c
  obtain ⟨hx, hy, hk⟩ := hc
  unfold ccA
  dsimp only at hx hy hk ⊢
  have B0 := Lib.hid (below_alloc w (ccO x y k))
  have hcc := cc_cells (heap_alloc_new w (ccO x y k))
  have Y0 := Lib.hid hcc
  have y0 := hcc.1
  have y1 := hcc.2.1
  have y2 := hcc.2.2
  clear hcc
  have H0 := Lib.hid (hv.below (below_alloc w (ccO x y k)))
  obtain ⟨q, cp, rfl, _⟩ := hv
  obtain ⟨l, hl⟩ : ∃ l, l = xs.length := ⟨_, rfl⟩
  rw [← hl] at H0 ⊢
  by_cases hf1 : 200 < l
  · have t1 : decide ((200 : Int) < (l : Int)) = true := decide_eq_true (by omega)
    have t1n : decide (200 < l) = true := decide_eq_true hf1
    clear hw hx hy hk hf1 hl
    go_enter Try.func8, Try.ntmps8
    go_wp2_with (first
      | (go_at_call 21; (with_reducible refine (AW.out _).mono ?_); rintro e w13 ⟨rfl, hb13⟩))
    go_ret
    exact ⟨rfl, B0.out.trans (hb13.mono B0.out.size)⟩
  have t1 : decide ((200 : Int) < (l : Int)) = false := decide_eq_false (by omega)
  have t1n : decide (200 < l) = false := decide_eq_false hf1
  by_cases hf2 : k < 2
  · have t2 : decide (k < 2) = true := decide_eq_true hf2
    clear hw hx hy hk hf1 hf2 hl
    go_enter Try.func8, Try.ntmps8
    go_wp2_with (first
      | (go_at_call 21; (with_reducible refine (AW.out _).mono ?_); rintro e w13 ⟨rfl, hb13⟩))
    go_ret
    exact ⟨rfl, B0.out.trans (hb13.mono B0.out.size)⟩
  have t2 : decide (k < 2) = false := decide_eq_false hf2
  by_cases hf3 : 64 < k
  · have t3 : decide (k > 64) = true := decide_eq_true hf3
    have t3' : decide (64 < k) = true := decide_eq_true hf3
    clear hw hx hy hk hf1 hf2 hf3 hl
    go_enter Try.func8, Try.ntmps8
    go_wp2_with (first
      | (go_at_call 21; (with_reducible refine (AW.out _).mono ?_); rintro e w13 ⟨rfl, hb13⟩))
    go_ret
    exact ⟨rfl, B0.out.trans (hb13.mono B0.out.size)⟩
  have t3 : decide (k > 64) = false := decide_eq_false hf3
  have t3' : decide (64 < k) = false := decide_eq_false hf3
  by_cases hf4 : y < 1
  · have t4 : decide (y < 1) = true := decide_eq_true hf4
    clear hw hx hy hk hf1 hf2 hf3 hf4 hl
    go_enter Try.func8, Try.ntmps8
    go_wp2_with (first
      | (go_at_call 21; (with_reducible refine (AW.out _).mono ?_); rintro e w13 ⟨rfl, hb13⟩))
    go_ret
    exact ⟨rfl, B0.out.trans (hb13.mono B0.out.size)⟩
  have t4 : decide (y < 1) = false := decide_eq_false hf4
  by_cases hf5 : 16 < y
  · have t5 : decide (y > 16) = true := decide_eq_true hf5
    have t5' : decide (16 < y) = true := decide_eq_true hf5
    clear hw hx hy hk hf1 hf2 hf3 hf4 hf5 hl
    go_enter Try.func8, Try.ntmps8
    go_wp2_with (first
      | (go_at_call 21; (with_reducible refine (AW.out _).mono ?_); rintro e w13 ⟨rfl, hb13⟩))
    go_ret
    exact ⟨rfl, B0.out.trans (hb13.mono B0.out.size)⟩
  have t5 : decide (y > 16) = false := decide_eq_false hf5
  have t5' : decide (16 < y) = false := decide_eq_false hf5
  by_cases hf6 : x < 0
  · have t6 : decide (x < 0) = true := decide_eq_true hf6
    clear hw hx hy hk hf1 hf2 hf3 hf4 hf5 hf6 hl
    go_enter Try.func8, Try.ntmps8
    go_wp2_with (first
      | (go_at_call 21; (with_reducible refine (AW.out _).mono ?_); rintro e w13 ⟨rfl, hb13⟩))
    go_ret
    exact ⟨rfl, B0.out.trans (hb13.mono B0.out.size)⟩
  have t6 : decide (x < 0) = false := decide_eq_false hf6
  by_cases hf7 : (l : Int) < x
  · have t7 : decide (x > (l : Int)) = true := decide_eq_true hf7
    have t7' : decide ((l : Int) < x) = true := decide_eq_true hf7
    clear hw hx hy hk hf1 hf2 hf3 hf4 hf5 hf6 hf7 hl
    go_enter Try.func8, Try.ntmps8
    go_wp2_with (first
      | (go_at_call 21; (with_reducible refine (AW.out _).mono ?_); rintro e w13 ⟨rfl, hb13⟩))
    go_ret
    exact ⟨rfl, B0.out.trans (hb13.mono B0.out.size)⟩
  have t7 : decide (x > (l : Int)) = false := decide_eq_false hf7
  have t7' : decide ((l : Int) < x) = false := decide_eq_false hf7
  obtain ⟨a, rfl⟩ : ∃ a : Nat, x = a := ⟨x.toNat, by omega⟩
  obtain ⟨Y, rfl⟩ : ∃ Y : Nat, y = Y := ⟨y.toNat, by omega⟩
  obtain ⟨N, rfl⟩ : ∃ N : Nat, k = N := ⟨k.toNat, by omega⟩
  have hal : a ≤ l := by omega
  have t7n : decide (l < a) = false := decide_eq_false (by omega)
  have hNY : N * Y ≤ 64 * 16 := Nat.mul_le_mul (by omega) (by omega)
  obtain ⟨ny, hny⟩ : ∃ z, z = N * Y := ⟨_, rfl⟩
  have e1' : ((N : Int) * (Y : Int)) = (ny : Int) := by rw [hny]; simp
  have e1 : IntKind.i64.wrap ((N : Int) * (Y : Int)) = (ny : Int) := by rw [e1', IntKind.wrap_i64]; omega
  have e2 : IntKind.i64.wrap ((l : Int) - (a : Int)) = ((l - a : Nat) : Int) := by rw [IntKind.wrap_i64]; omega
  obtain ⟨la, hla⟩ : ∃ z, z = l - a := ⟨_, rfl⟩
  rw [← hla] at e2
  obtain ⟨mi, hmi⟩ : ∃ z, z = min 64 la := ⟨_, rfl⟩
  have e3 : (if (la : Int) < 64 then (la : Int) else 64) = (mi : Int) := by split <;> omega
  have e3n : (if la < 64 then (la : Int) else 64) = (mi : Int) := by split <;> omega
  by_cases hf8 : mi < ny
  · have t8 : decide ((ny : Int) > (mi : Int)) = true := decide_eq_true (by omega)
    have t8' : decide ((mi : Int) < (ny : Int)) = true := decide_eq_true (by omega)
    have t8n : decide (mi < ny) = true := decide_eq_true hf8
    clear hw hx hy hk hf1 hf2 hf3 hf4 hf5 hf6 hf7 hf8 hl hNY hny e1' hla hmi
    go_enter Try.func8, Try.ntmps8
    go_wp2_with (first
      | (go_at_call 21; (with_reducible refine (AW.out _).mono ?_); rintro e w13 ⟨rfl, hb13⟩))
    go_ret
    exact ⟨rfl, B0.out.trans (hb13.mono B0.out.size)⟩
  have t8 : decide ((ny : Int) > (mi : Int)) = false := decide_eq_false (by omega)
  have t8' : decide ((mi : Int) < (ny : Int)) = false := decide_eq_false (by omega)
  have t8n : decide (mi < ny) = false := decide_eq_false hf8
  have hbnd : a + Y * N ≤ l ∧ Y * N ≤ 64 := by rw [Nat.mul_comm Y N, ← hny]; omega
  exact sorts_good q cp l xs a Y N mo w H0.out ⟨hl, hw, by omega, ⟨by omega, by omega⟩, ⟨by omega, by omega⟩, hbnd.1, hbnd.2⟩ hmo
theorem sorts_row (v : Value) (xs : List Nat) (c : Cc) (m : Int) (w : World) (hv : URow w v xs) (hw : Wf xs) (hc : c.ok) (hm : 0 ≤ m ∧ m < 256) : Calls Try.prog 8 #[v, ccA c, .int .u8 m] w fun e w' => e = .returned (.bool true) ∧ Below w.heap.size w w' := by
  obtain ⟨mo, rfl⟩ : ∃ mo : Nat, m = mo := ⟨m.toNat, by omega⟩
  exact sorts_any v xs c mo w hv hw hc (by omega)
end Go.Proofs.Ytalnhbjpfnodiaa
