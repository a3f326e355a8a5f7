/- ArenaNone: pointers that are no arena. -/
import Derived.Test.YtonkenicikjefaaR
namespace Go.Proofs.Ytonkenicikjefaa
open Go.RowKit
abbrev zeroA : Obj := .cells #[.slice none 0 0, .int .i64 0, .pointer none, .slice none 0 0, .slice none 0 0] 51
/-- A pointer that is none, or to an arena that New did not make. -/
def Bad (W : World) (v : Value) : Prop := v = .pointer none ∨ ∃ B, v = .pointer (some ⟨B, 0, none⟩) ∧ W.heap[B]? = some zeroA
theorem Bad.below {w w' : World} {v : Value} (h : Bad w v) (hb : Below w.heap.size w w') : Bad w' v := by
  rcases h with h | ⟨B, h, hB⟩
  · exact .inl h
  · exact .inr ⟨B, h, (hb.block B (Array.getElem?_eq_some_iff.1 hB).1).trans hB⟩
theorem ptr_none_some (B : Nat) (W : World) : (binOp .eql 25 (.pointer none) (.pointer (some ⟨B, 0, none⟩))).run Try.prog W = .ok (.bool false) W := by
  have h : ∀ d : Nat, (Op.equalIn (d + 1) 25 (.pointer none) (.pointer (some ⟨B, 0, none⟩))).run Try.prog W = .ok false W := fun d => by
    simp [Op.equalIn, run_underlying Try.underlying25]
  simp only [binOp]
  simp [Op.equal, Op.maxDepth, h 9999]
theorem bad_valid {w : World} {v : Value} (h : Bad w v) : Calls Try.prog 42 #[v] w fun e w' => e = .returned (.bool false) ∧ w = w' := by
  rcases h with rfl | ⟨B, rfl, hB⟩
  · go_enter Try.func42, Try.ntmps42
    go_wp2
    go_ret
    exact ⟨rfl, rfl⟩
  · have c2 : w.cell? ⟨B, 2, none⟩ = some (.pointer none) := cell_blk hB 2
    clear hB
    have hq := ptr_none_some B
    go_enter Try.func42, Try.ntmps42
    go_wp2
    go_ret
    exact ⟨rfl, rfl⟩
section
variable {w : World} {v : Value}
theorem bad_region (h : Bad w v) (s : ByteArray) (k : Int) : Calls Try.prog 26 #[v, .string s, .int .i64 k] w fun e w' => e = .returned (.tuple #[.int .i64 0, .int .i64 1]) ∧ w = w' := by
  have HV := Lib.hid (bad_valid h)
  go_enter Try.func26, Try.ntmps26
  go_wp2_with (go_at_call 42; refine HV.out.mono ?_; rintro e w' ⟨rfl, rfl⟩)
  go_ret2
  exact ⟨rfl, rfl⟩
theorem bad_step (h : Bad w v) (k x : Int) : Calls Try.prog 50 #[v, .int .i64 k, .int .i64 x] w fun e w' => e = .returned (.int .i64 1) ∧ w = w' := by
  have HV := Lib.hid (bad_valid h)
  go_enter Try.func50, Try.ntmps50
  go_wp2_with (go_at_call 42; refine HV.out.mono ?_; rintro e w' ⟨rfl, rfl⟩)
  go_ret
  exact ⟨rfl, rfl⟩
theorem bad_load (h : Bad w v) (x : Int) : Calls Try.prog 28 #[v, .int .i64 x] w fun e w' => e = .returned (.tuple #[.int .u64 0, .int .i64 1]) ∧ w = w' := by
  have HS := Lib.hid (bad_step h 1 x)
  go_enter Try.func28, Try.ntmps28
  go_wp2_with (go_at_call 50; refine HS.out.mono ?_; rintro e w' ⟨rfl, rfl⟩)
  go_ret2
  exact ⟨rfl, rfl⟩
theorem bad_store (h : Bad w v) (x u : Int) : Calls Try.prog 30 #[v, .int .i64 x, .int .u64 u] w fun e w' => e = .returned (.int .i64 1) ∧ w = w' := by
  have HS := Lib.hid (bad_step h 2 x)
  go_enter Try.func30, Try.ntmps30
  go_wp2_with (go_at_call 50; refine HS.out.mono ?_; rintro e w' ⟨rfl, rfl⟩)
  go_ret
  exact ⟨rfl, rfl⟩
theorem bad_since (h : Bad w v) (x : Int) : Calls Try.prog 29 #[v, .int .i64 x] w fun e w' => e = .returned (.tuple #[.slice none 0 0, .int .i64 1]) ∧ w = w' := by
  have HV := Lib.hid (bad_valid h)
  go_enter Try.func29, Try.ntmps29
  go_wp2_with (go_at_call 42; refine HV.out.mono ?_; rintro e w' ⟨rfl, rfl⟩)
  go_ret2
  exact ⟨rfl, rfl⟩
theorem bad_has (h : Bad w v) (x y : Int) : Calls Try.prog 31 #[v, .int .i64 x, .int .i64 y] w fun e w' => e = .returned (.int .i64 1) ∧ w = w' := by
  have HV := Lib.hid (bad_valid h)
  go_enter Try.func31, Try.ntmps31
  go_wp2_with (go_at_call 42; refine HV.out.mono ?_; rintro e w' ⟨rfl, rfl⟩)
  go_ret
  exact ⟨rfl, rfl⟩
theorem bad_room (h : Bad w v) (x : Int) : Calls Try.prog 32 #[v, .int .i64 x] w fun e w' => e = .returned (.int .i64 1) ∧ w = w' := by
  have HV := Lib.hid (bad_valid h)
  go_enter Try.func32, Try.ntmps32
  go_wp2_with (go_at_call 42; refine HV.out.mono ?_; rintro e w' ⟨rfl, rfl⟩)
  go_ret
  exact ⟨rfl, rfl⟩
theorem bad_forget (h : Bad w v) : Calls Try.prog 33 #[v] w fun e w' => e = .returned (.int .i64 1) ∧ w = w' := by
  have HV := Lib.hid (bad_valid h)
  go_enter Try.func33, Try.ntmps33
  go_wp2_with (go_at_call 42; refine HV.out.mono ?_; rintro e w' ⟨rfl, rfl⟩)
  go_ret
  exact ⟨rfl, rfl⟩
theorem bad_steps (h : Bad w v) : Calls Try.prog 15 #[v] w fun e w' => e = .returned (.int .i64 0) ∧ w = w' := by
  have HV := Lib.hid (bad_valid h)
  go_enter Try.func15, Try.ntmps15
  go_wp2_with (go_at_call 42; refine HV.out.mono ?_; rintro e w' ⟨rfl, rfl⟩)
  go_ret
  exact ⟨rfl, rfl⟩
theorem bad_events (h : Bad w v) : Calls Try.prog 18 #[v] w fun e w' => e = .returned (.slice none 0 0) ∧ w = w' := by
  have HV := Lib.hid (bad_valid h)
  go_enter Try.func18, Try.ntmps18
  go_wp2_with (go_at_call 42; refine HV.out.mono ?_; rintro e w' ⟨rfl, rfl⟩)
  go_ret
  exact ⟨rfl, rfl⟩
theorem bad_cells (h : Bad w v) : Calls Try.prog 24 #[v] w fun e w' => e = .returned (.slice none 0 0) ∧ w = w' := by
  have HV := Lib.hid (bad_valid h)
  go_enter Try.func24, Try.ntmps24
  go_wp2_with (go_at_call 42; refine HV.out.mono ?_; rintro e w' ⟨rfl, rfl⟩)
  go_ret
  exact ⟨rfl, rfl⟩
theorem bad_regions (h : Bad w v) : Calls Try.prog 21 #[v] w fun e w' => e = .returned (.slice none 0 0) ∧ w = w' := by
  have HV := Lib.hid (bad_valid h)
  go_enter Try.func21, Try.ntmps21
  go_wp2_with (go_at_call 42; refine HV.out.mono ?_; rintro e w' ⟨rfl, rfl⟩)
  go_ret
  exact ⟨rfl, rfl⟩
theorem bad_find (h : Bad w v) (s : ByteArray) : Calls Try.prog 27 #[v, .string s] w fun e w' => e = .returned (.tuple #[.agg #[.string ⟨#[]⟩, .int .i64 0, .int .i64 0], .int .i64 1]) ∧ Below w.heap.size w w' := by
  have hb : Below w.heap.size w (w.alloc zeroR) := (Below.refl _ w).alloc (Nat.le_refl _) _
  have HV := Lib.hid (bad_valid (h.below hb))
  clear h hb
  go_enter Try.func27, Try.ntmps27
  go_wp2_with (go_at_call 42; refine HV.out.mono ?_; rintro e w' ⟨rfl, rfl⟩)
  refine bodyPost_ret (v := .tuple #[.agg #[.string ⟨#[]⟩, .int .i64 0, .int .i64 0], .int .i64 1]) ?_ rfl ?_
  · simp [results, Try.results27, go_sem]
  · exact ⟨rfl, (Below.refl _ w).alloc (Nat.le_refl _) _⟩
end
set_option maxRecDepth 100000 in
set_option maxHeartbeats 4000000 in
theorem none_any (x : Cl) (w : World) (_ : x.ok) : Calls Try.prog 4 #[clA x] w fun e w' => e = .returned (.bool true) ∧ Below w.heap.size w w' := by
  have AW := Lib.hid awake_any
  obtain ⟨wh, ps, nm, vl, sn⟩ := x
  unfold clA
  dsimp only
  by_cases hs : 100 < sn.size
  · have t1 : decide ((100 : Int) < (sn.size : Int)) = true := decide_eq_true (by omega)
    clear hs
    go_enter Try.func4, Try.ntmps4
    go_wp2_with (go_at_call 11; (with_reducible refine (AW.out _).mono ?_); rintro e w7 ⟨rfl, hb7⟩)
    go_ret
    exact ⟨rfl, ((Below.refl _ w).alloc (Nat.le_refl _) _).trans (hb7.mono (by simp))⟩
  have t1 : decide ((100 : Int) < (sn.size : Int)) = false := decide_eq_false (by omega)
  clear hs
  go_enter Try.func4, Try.ntmps4
  go_wp2
  go_loopw [3, 4, 5, 6, 7, 8, 9, 10, 11, 12] (fun i _ _ _ _ _ _ _ _ _ wr => ∃ k : Nat, k ≤ 2 ∧ i = .int .i64 (k : Int) ∧ Below (w.alloc (clO wh ps nm vl sn)).heap.size (w.alloc (clO wh ps nm vl sn)) wr) (fun i _ _ _ _ _ _ _ _ _ _ => 2 - (intOf i).toNat)
  case atStart => exact ⟨0, by omega, rfl, Below.refl _ _⟩
  case round =>
    obtain ⟨k, hk, rfl, hb⟩ := hrel
    have hxx := cl_cells ((hb.block w.heap.size (by simp)).trans (heap_alloc_new w (clO wh ps nm vl sn)))
    obtain ⟨y0, y1, y2, y3, y4⟩ := hxx
    have hcase : k = 0 ∨ k = 1 ∨ k = 2 := by omega
    rcases hcase with rfl | rfl | rfl
    · have B0 := Lib.hid (show Bad wr (.pointer none) from .inl rfl)
      have K0 := Lib.hid hb
      clear hb
      go_wp2_with (first
        | (go_at_call 26; (with_reducible refine (bad_region B0.out _ _).mono ?_); rintro e w' ⟨rfl, rfl⟩)
        | (go_at_call 27; (with_reducible refine (bad_find B0.out _).mono ?_); rintro e w3 ⟨rfl, hb3⟩; have B3 := Lib.hid ((B0.out.below hb3).below ((Below.refl _ w3).alloc (Nat.le_refl _) (.cells #[.string ⟨#[]⟩, .int .i64 0, .int .i64 0] 55))); have K3 := Lib.hid (K0.out.trans ((hb3.mono K0.out.size).alloc (Nat.le_trans K0.out.size hb3.size) (.cells #[.string ⟨#[]⟩, .int .i64 0, .int .i64 0] 55))); have z := cl_cells ((K3.out.block w.heap.size (by simp)).trans (heap_alloc_new w _)); have z0 := z.1; have z1 := z.2.1; have z2 := z.2.2.1; have z3 := z.2.2.2.1; have z4 := z.2.2.2.2; clear z hb3)
        | (go_at_call 28; (with_reducible refine (bad_load B3.out _).mono ?_); rintro e w' ⟨rfl, rfl⟩)
        | (go_at_call 30; (with_reducible refine (bad_store B3.out _ _).mono ?_); rintro e w' ⟨rfl, rfl⟩)
        | (go_at_call 29; (with_reducible refine (bad_since B3.out _).mono ?_); rintro e w' ⟨rfl, rfl⟩)
        | (go_at_call 31; (with_reducible refine (bad_has B3.out _ _).mono ?_); rintro e w' ⟨rfl, rfl⟩)
        | (go_at_call 32; (with_reducible refine (bad_room B3.out _).mono ?_); rintro e w' ⟨rfl, rfl⟩)
        | (go_at_call 33; (with_reducible refine (bad_forget B3.out).mono ?_); rintro e w' ⟨rfl, rfl⟩)
        | (go_at_call 15; (with_reducible refine (bad_steps B3.out).mono ?_); rintro e w' ⟨rfl, rfl⟩)
        | (go_at_call 18; (with_reducible refine (bad_events B3.out).mono ?_); rintro e w' ⟨rfl, rfl⟩)
        | (go_at_call 24; (with_reducible refine (bad_cells B3.out).mono ?_); rintro e w' ⟨rfl, rfl⟩)
        | (go_at_call 21; (with_reducible refine (bad_regions B3.out).mono ?_); rintro e w' ⟨rfl, rfl⟩))
      go_roundw
      case rel => exact ⟨1, by omega, rfl, K3.out⟩
      case measure => simp [intOf]
    · have B0 := Lib.hid (show Bad (wr.alloc zeroA) (.pointer (some ⟨wr.heap.size, 0, none⟩)) from .inr ⟨_, rfl, heap_alloc_new _ _⟩)
      have K0 := Lib.hid (hb.alloc hb.size zeroA)
      have hxx := cl_cells ((K0.out.block w.heap.size (by simp)).trans (heap_alloc_new w (clO wh ps nm vl sn)))
      obtain ⟨v0, v1, v2, v3, v4⟩ := hxx
      clear hb y0 y1 y2 y3 y4
      go_wp2_with (first
        | (go_at_call 26; (with_reducible refine (bad_region B0.out _ _).mono ?_); rintro e w' ⟨rfl, rfl⟩)
        | (go_at_call 27; (with_reducible refine (bad_find B0.out _).mono ?_); rintro e w3 ⟨rfl, hb3⟩; have B3 := Lib.hid ((B0.out.below hb3).below ((Below.refl _ w3).alloc (Nat.le_refl _) (.cells #[.string ⟨#[]⟩, .int .i64 0, .int .i64 0] 55))); have K3 := Lib.hid (K0.out.trans ((hb3.mono K0.out.size).alloc (Nat.le_trans K0.out.size hb3.size) (.cells #[.string ⟨#[]⟩, .int .i64 0, .int .i64 0] 55))); have z := cl_cells ((K3.out.block w.heap.size (by simp)).trans (heap_alloc_new w _)); have z0 := z.1; have z1 := z.2.1; have z2 := z.2.2.1; have z3 := z.2.2.2.1; have z4 := z.2.2.2.2; clear z hb3)
        | (go_at_call 28; (with_reducible refine (bad_load B3.out _).mono ?_); rintro e w' ⟨rfl, rfl⟩)
        | (go_at_call 30; (with_reducible refine (bad_store B3.out _ _).mono ?_); rintro e w' ⟨rfl, rfl⟩)
        | (go_at_call 29; (with_reducible refine (bad_since B3.out _).mono ?_); rintro e w' ⟨rfl, rfl⟩)
        | (go_at_call 31; (with_reducible refine (bad_has B3.out _ _).mono ?_); rintro e w' ⟨rfl, rfl⟩)
        | (go_at_call 32; (with_reducible refine (bad_room B3.out _).mono ?_); rintro e w' ⟨rfl, rfl⟩)
        | (go_at_call 33; (with_reducible refine (bad_forget B3.out).mono ?_); rintro e w' ⟨rfl, rfl⟩)
        | (go_at_call 15; (with_reducible refine (bad_steps B3.out).mono ?_); rintro e w' ⟨rfl, rfl⟩)
        | (go_at_call 18; (with_reducible refine (bad_events B3.out).mono ?_); rintro e w' ⟨rfl, rfl⟩)
        | (go_at_call 24; (with_reducible refine (bad_cells B3.out).mono ?_); rintro e w' ⟨rfl, rfl⟩)
        | (go_at_call 21; (with_reducible refine (bad_regions B3.out).mono ?_); rintro e w' ⟨rfl, rfl⟩))
      go_roundw
      case rel => exact ⟨2, by omega, rfl, K3.out⟩
      case measure => simp [intOf]
    · go_wp2_with (go_at_call 11; (with_reducible refine (AW.out _).mono ?_); rintro e w7 ⟨rfl, hb7⟩)
      go_ret
      have B1 := (((Below.refl w.heap.size w).alloc (Nat.le_refl _) (clO wh ps nm vl sn)).trans (hb.mono (by simp)))
      exact ⟨rfl, B1.trans (hb7.mono B1.size)⟩
end Go.Proofs.Ytonkenicikjefaa
