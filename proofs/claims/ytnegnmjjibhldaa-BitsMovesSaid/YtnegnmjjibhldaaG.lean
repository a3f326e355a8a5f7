/- Layer 2: And, Or. -/
import Derived.Test.YtnegnmjjibhldaaF
namespace Go.Proofs.Ytnegnmjjibhldaa
open Go.RowKit
def pairE (n m : Nat) : Int := if chk n = 0 then (if chk m = 0 then (if n = m then 0 else 6) else chk m) else chk n
theorem and1_any (x y : Nat) (hx : x < 2 ^ 64) (hy : y < 2 ^ 64) (w : World) : Calls Try.prog 47 #[.int .u64 (x : Int), .int .u64 (y : Int)] w fun e w' => e = .returned (.int .u64 ((x &&& y : Nat) : Int)) ∧ w' = w := by
  have e1 := u64_and_nat x y hx hy
  go_enter Try.func47, Try.ntmps47
  go_wp2
  go_ret
  exact ⟨rfl, rfl⟩
theorem and_word {xs ys : List Nat} {k x y : Nat} (hx : xs[k]? = some x) (hy : ys[k]? = some y) (h1 : x < 2 ^ 64) (h2 : y < 2 ^ 64) : x &&& y = ofB (fun i => rbit xs (64 * k + i) && rbit ys (64 * k + i)) 64 :=
  ofB_eq (by have := h1; first | exact Nat.and_lt_two_pow _ h2 | exact Nat.or_lt_two_pow h1 h2) fun i hi => by rw [rbit_word hx hi, rbit_word hy hi]; simp
/-- A row with these bits, or none and an error. -/
def andR (xs ys : List Nat) : List Nat := if pairE xs.length ys.length = 0 then mkRow xs.length (fun i => rbit xs i && rbit ys i) else []
set_option maxHeartbeats 400000 in
set_option maxRecDepth 100000 in
theorem andC_any (v u : Value) (xs ys : List Nat) (w : World) (hv : URow w v xs) (hu : URow w u ys) (hw : Wf xs) (hwy : Wf ys) : Calls Try.prog 46 #[v, u, .func (.func 47) #[] #[]] w (RowPost w (andR xs ys) (pairE xs.length ys.length)) := by
  have C := Lib.hid (check_any v xs w hv)
  have D := Lib.hid (check_any u ys w hu)
  by_cases h0 : chk xs.length = 0
  · by_cases h1 : chk ys.length = 0
    · have hne : (chk xs.length != 0) = false := by simp [h0]
      have hne' : (chk ys.length != 0) = false := by simp [h1]
      by_cases hl : xs.length = ys.length
      · have hlt := chk_zero h0
        have hlt' := chk_zero h1
        have E : pairE xs.length ys.length = 0 := by unfold pairE; rw [if_pos h0, if_pos h1, if_pos hl]
        have R := Lib.hid (show andR xs ys = mkRow xs.length (fun i => rbit xs i && rbit ys i) by unfold andR; rw [if_pos E])
        obtain ⟨b2, o2, c2, rfl, _, hy⟩ := hu.later hlt'.1
        rw [← hl] at E D hne' ⊢
        have HM := Lib.hid hl
        have E := Lib.hid E
        obtain ⟨b, o, c, rfl, _, hx⟩ := hv.later hlt.1
        have MK := mk_any xs.length (by omega)
        generalize hxn : xs.length = n at *
        have hnn : ((n : Int) != (n : Int)) = false := by simp
        have HN := Lib.hid hxn
        have HC := Lib.hid hx
        have HD := Lib.hid hy
        clear hx hxn h0 h1 hy hl hv hu hlt'
        go_enter Try.func46, Try.ntmps46
        go_wp2_with (go_at_call 14; first | ((with_reducible refine C.out.mono ?_); rintro e w' ⟨rfl, rfl⟩) | ((with_reducible refine D.out.mono ?_); rintro e w' ⟨rfl, rfl⟩))
        go_loopw [11, 32] (fun _ i wr => ∃ k : Nat, k ≤ n ∧ i = .int .i64 k ∧ Own64 wr w.heap.size n (part (fun j => decide (j < k)) n (fun j => ofB (fun k => rbit xs (64 * j + k) && rbit ys (64 * j + k)) 64)) ∧ Below w.heap.size w wr) (fun _ i _ => n - (intOf i).toNat)
        case atStart =>
          refine ⟨0, Nat.zero_le _, rfl, ?_, (Below.refl _ w).alloc (Nat.le_refl _) _⟩
          rw [part_none _ _ _ (fun j _ => by simp)]
          exact made_own w n (by omega)
        case round =>
          obtain ⟨k, hk, rfl, hown, hb⟩ := hrel
          by_cases hlt2 : k < n
          · obtain ⟨x, hx⟩ : ∃ x, xs[k]? = some x := ⟨_, List.getElem?_eq_getElem (by rw [HN.out]; exact hlt2)⟩
            obtain ⟨y, hy⟩ : ∃ y, ys[k]? = some y := ⟨_, List.getElem?_eq_getElem (by rw [← HM.out]; exact hlt2)⟩
            have hcell := HC.out wr k x hb hx
            have hcell2 := HD.out wr k y hb hy
            have hc1 := hown.cell (j := k) (by rw [part_len]; exact hlt2)
            have hf1 := hown.frozen k
            have hx64 := hw x (List.mem_of_getElem? hx)
            have hy64 := hwy y (List.mem_of_getElem? hy)
            have HY := Lib.hid (and_word hx hy hx64 hy64)
            have CL := fun w' => and1_any x y hx64 hy64 w'
            have HO := Lib.hid hown
            clear hx hown hy hx64 hy64
            go_wp2
            refine wp_region_still_tail 13 (by kernel_rfl) (by kernel_rfl) ?_
            simp only [List.take_succ_cons, List.take_zero, List.drop_succ_cons, List.drop_zero]
            repeat (first | still_step | still_call (CL _))
            refine wpStill_nil ?_
            go_wp2
            go_roundw
            case rel => exact ⟨k + 1, by omega, by go_num, (own_step HO.out HY.out (upto_succ n k)).drew, (hb.setCell (p := ⟨w.heap.size, k, none⟩) (Nat.le_refl _) _).drew⟩
            case measure => simp [intOf]; omega
          · obtain rfl : k = n := by omega
            have HO := Lib.hid hown
            clear hown
            go_wp2
            go_ret2
            exact ⟨_, by rw [E.out]; rfl, by rw [R.out]; exact own_done HO.out (fun j hj => by simpa using hj), hb⟩
      · have E : pairE xs.length ys.length = 6 := by unfold pairE; rw [if_pos h0, if_pos h1, if_neg hl]
        have R := Lib.hid (show andR xs ys = [] by unfold andR; rw [if_neg (by rw [E]; decide)])
        have E := Lib.hid E
        have hnn : ((xs.length : Int) != (ys.length : Int)) = true := by rw [bne_iff_ne]; omega
        obtain ⟨p, c, rfl, _, _⟩ := hv
        obtain ⟨p2, c2, rfl, _, _⟩ := hu
        clear h0 h1 hl
        go_enter Try.func46, Try.ntmps46
        go_wp2_with (go_at_call 14; first | ((with_reducible refine C.out.mono ?_); rintro e w' ⟨rfl, rfl⟩) | ((with_reducible refine D.out.mono ?_); rintro e w' ⟨rfl, rfl⟩))
        go_ret2
        exact ⟨.slice none 0 0, by rw [E.out]; rfl, by rw [R.out]; exact URow.none _, Below.refl _ _⟩
    · have hne : (chk xs.length != 0) = false := by simp [h0]
      have hne' : (chk ys.length != 0) = true := by simp [h1]
      have E : pairE xs.length ys.length = chk ys.length := by unfold pairE; rw [if_pos h0, if_neg h1]
      have R := Lib.hid (show andR xs ys = [] by unfold andR; rw [if_neg (by rw [E]; exact h1)])
      have E := Lib.hid E
      clear h0 h1
      go_enter Try.func46, Try.ntmps46
      go_wp2_with (go_at_call 14; first | ((with_reducible refine C.out.mono ?_); rintro e w' ⟨rfl, rfl⟩) | ((with_reducible refine D.out.mono ?_); rintro e w' ⟨rfl, rfl⟩))
      go_ret2
      exact ⟨.slice none 0 0, by rw [E.out]; rfl, by rw [R.out]; exact URow.none _, Below.refl _ _⟩
  · have hne : (chk xs.length != 0) = true := by simp [h0]
    have E : pairE xs.length ys.length = chk xs.length := by unfold pairE; rw [if_neg h0]
    have R := Lib.hid (show andR xs ys = [] by unfold andR; rw [if_neg (by rw [E]; exact h0)])
    have E := Lib.hid E
    clear h0
    go_enter Try.func46, Try.ntmps46
    go_wp2_with (go_at_call 14; refine C.out.mono ?_; rintro e w' ⟨rfl, rfl⟩)
    go_ret2
    exact ⟨.slice none 0 0, by rw [E.out]; rfl, by rw [R.out]; exact URow.none _, Below.refl _ _⟩
theorem and_any (v u : Value) (xs ys : List Nat) (w : World) (hv : URow w v xs) (hu : URow w u ys) (hw : Wf xs) (hwy : Wf ys) : Calls Try.prog 30 #[v, u] w (RowPost w (andR xs ys) (pairE xs.length ys.length)) := by
  have C := Lib.hid (andC_any v u xs ys w hv hu hw hwy)
  unfold RowPost at C
  go_enter Try.func30, Try.ntmps30
  go_wp2_with (go_at_call 46; refine C.out.mono ?_; rintro e w' ⟨v', rfl, hr, hb⟩)
  go_ret2
  exact ⟨v', rfl, hr, hb⟩
theorem or1_any (x y : Nat) (hx : x < 2 ^ 64) (hy : y < 2 ^ 64) (w : World) : Calls Try.prog 49 #[.int .u64 (x : Int), .int .u64 (y : Int)] w fun e w' => e = .returned (.int .u64 ((x ||| y : Nat) : Int)) ∧ w' = w := by
  have e1 := u64_or_nat x y hx hy
  go_enter Try.func49, Try.ntmps49
  go_wp2
  go_ret
  exact ⟨rfl, rfl⟩
theorem or_word {xs ys : List Nat} {k x y : Nat} (hx : xs[k]? = some x) (hy : ys[k]? = some y) (h1 : x < 2 ^ 64) (h2 : y < 2 ^ 64) : x ||| y = ofB (fun i => rbit xs (64 * k + i) || rbit ys (64 * k + i)) 64 :=
  ofB_eq (by have := h1; first | exact Nat.and_lt_two_pow _ h2 | exact Nat.or_lt_two_pow h1 h2) fun i hi => by rw [rbit_word hx hi, rbit_word hy hi]; simp
/-- A row with these bits, or none and an error. -/
def orR (xs ys : List Nat) : List Nat := if pairE xs.length ys.length = 0 then mkRow xs.length (fun i => rbit xs i || rbit ys i) else []
set_option maxHeartbeats 400000 in
set_option maxRecDepth 100000 in
theorem orC_any (v u : Value) (xs ys : List Nat) (w : World) (hv : URow w v xs) (hu : URow w u ys) (hw : Wf xs) (hwy : Wf ys) : Calls Try.prog 46 #[v, u, .func (.func 49) #[] #[]] w (RowPost w (orR xs ys) (pairE xs.length ys.length)) := by
  have C := Lib.hid (check_any v xs w hv)
  have D := Lib.hid (check_any u ys w hu)
  by_cases h0 : chk xs.length = 0
  · by_cases h1 : chk ys.length = 0
    · have hne : (chk xs.length != 0) = false := by simp [h0]
      have hne' : (chk ys.length != 0) = false := by simp [h1]
      by_cases hl : xs.length = ys.length
      · have hlt := chk_zero h0
        have hlt' := chk_zero h1
        have E : pairE xs.length ys.length = 0 := by unfold pairE; rw [if_pos h0, if_pos h1, if_pos hl]
        have R := Lib.hid (show orR xs ys = mkRow xs.length (fun i => rbit xs i || rbit ys i) by unfold orR; rw [if_pos E])
        obtain ⟨b2, o2, c2, rfl, _, hy⟩ := hu.later hlt'.1
        rw [← hl] at E D hne' ⊢
        have HM := Lib.hid hl
        have E := Lib.hid E
        obtain ⟨b, o, c, rfl, _, hx⟩ := hv.later hlt.1
        have MK := mk_any xs.length (by omega)
        generalize hxn : xs.length = n at *
        have hnn : ((n : Int) != (n : Int)) = false := by simp
        have HN := Lib.hid hxn
        have HC := Lib.hid hx
        have HD := Lib.hid hy
        clear hx hxn h0 h1 hy hl hv hu hlt'
        go_enter Try.func46, Try.ntmps46
        go_wp2_with (go_at_call 14; first | ((with_reducible refine C.out.mono ?_); rintro e w' ⟨rfl, rfl⟩) | ((with_reducible refine D.out.mono ?_); rintro e w' ⟨rfl, rfl⟩))
        go_loopw [11, 32] (fun _ i wr => ∃ k : Nat, k ≤ n ∧ i = .int .i64 k ∧ Own64 wr w.heap.size n (part (fun j => decide (j < k)) n (fun j => ofB (fun k => rbit xs (64 * j + k) || rbit ys (64 * j + k)) 64)) ∧ Below w.heap.size w wr) (fun _ i _ => n - (intOf i).toNat)
        case atStart =>
          refine ⟨0, Nat.zero_le _, rfl, ?_, (Below.refl _ w).alloc (Nat.le_refl _) _⟩
          rw [part_none _ _ _ (fun j _ => by simp)]
          exact made_own w n (by omega)
        case round =>
          obtain ⟨k, hk, rfl, hown, hb⟩ := hrel
          by_cases hlt2 : k < n
          · obtain ⟨x, hx⟩ : ∃ x, xs[k]? = some x := ⟨_, List.getElem?_eq_getElem (by rw [HN.out]; exact hlt2)⟩
            obtain ⟨y, hy⟩ : ∃ y, ys[k]? = some y := ⟨_, List.getElem?_eq_getElem (by rw [← HM.out]; exact hlt2)⟩
            have hcell := HC.out wr k x hb hx
            have hcell2 := HD.out wr k y hb hy
            have hc1 := hown.cell (j := k) (by rw [part_len]; exact hlt2)
            have hf1 := hown.frozen k
            have hx64 := hw x (List.mem_of_getElem? hx)
            have hy64 := hwy y (List.mem_of_getElem? hy)
            have HY := Lib.hid (or_word hx hy hx64 hy64)
            have CL := fun w' => or1_any x y hx64 hy64 w'
            have HO := Lib.hid hown
            clear hx hown hy hx64 hy64
            go_wp2
            refine wp_region_still_tail 13 (by kernel_rfl) (by kernel_rfl) ?_
            simp only [List.take_succ_cons, List.take_zero, List.drop_succ_cons, List.drop_zero]
            repeat (first | still_step | still_call (CL _))
            refine wpStill_nil ?_
            go_wp2
            go_roundw
            case rel => exact ⟨k + 1, by omega, by go_num, (own_step HO.out HY.out (upto_succ n k)).drew, (hb.setCell (p := ⟨w.heap.size, k, none⟩) (Nat.le_refl _) _).drew⟩
            case measure => simp [intOf]; omega
          · obtain rfl : k = n := by omega
            have HO := Lib.hid hown
            clear hown
            go_wp2
            go_ret2
            exact ⟨_, by rw [E.out]; rfl, by rw [R.out]; exact own_done HO.out (fun j hj => by simpa using hj), hb⟩
      · have E : pairE xs.length ys.length = 6 := by unfold pairE; rw [if_pos h0, if_pos h1, if_neg hl]
        have R := Lib.hid (show orR xs ys = [] by unfold orR; rw [if_neg (by rw [E]; decide)])
        have E := Lib.hid E
        have hnn : ((xs.length : Int) != (ys.length : Int)) = true := by rw [bne_iff_ne]; omega
        obtain ⟨p, c, rfl, _, _⟩ := hv
        obtain ⟨p2, c2, rfl, _, _⟩ := hu
        clear h0 h1 hl
        go_enter Try.func46, Try.ntmps46
        go_wp2_with (go_at_call 14; first | ((with_reducible refine C.out.mono ?_); rintro e w' ⟨rfl, rfl⟩) | ((with_reducible refine D.out.mono ?_); rintro e w' ⟨rfl, rfl⟩))
        go_ret2
        exact ⟨.slice none 0 0, by rw [E.out]; rfl, by rw [R.out]; exact URow.none _, Below.refl _ _⟩
    · have hne : (chk xs.length != 0) = false := by simp [h0]
      have hne' : (chk ys.length != 0) = true := by simp [h1]
      have E : pairE xs.length ys.length = chk ys.length := by unfold pairE; rw [if_pos h0, if_neg h1]
      have R := Lib.hid (show orR xs ys = [] by unfold orR; rw [if_neg (by rw [E]; exact h1)])
      have E := Lib.hid E
      clear h0 h1
      go_enter Try.func46, Try.ntmps46
      go_wp2_with (go_at_call 14; first | ((with_reducible refine C.out.mono ?_); rintro e w' ⟨rfl, rfl⟩) | ((with_reducible refine D.out.mono ?_); rintro e w' ⟨rfl, rfl⟩))
      go_ret2
      exact ⟨.slice none 0 0, by rw [E.out]; rfl, by rw [R.out]; exact URow.none _, Below.refl _ _⟩
  · have hne : (chk xs.length != 0) = true := by simp [h0]
    have E : pairE xs.length ys.length = chk xs.length := by unfold pairE; rw [if_neg h0]
    have R := Lib.hid (show orR xs ys = [] by unfold orR; rw [if_neg (by rw [E]; exact h0)])
    have E := Lib.hid E
    clear h0
    go_enter Try.func46, Try.ntmps46
    go_wp2_with (go_at_call 14; refine C.out.mono ?_; rintro e w' ⟨rfl, rfl⟩)
    go_ret2
    exact ⟨.slice none 0 0, by rw [E.out]; rfl, by rw [R.out]; exact URow.none _, Below.refl _ _⟩
theorem or_any (v u : Value) (xs ys : List Nat) (w : World) (hv : URow w v xs) (hu : URow w u ys) (hw : Wf xs) (hwy : Wf ys) : Calls Try.prog 32 #[v, u] w (RowPost w (orR xs ys) (pairE xs.length ys.length)) := by
  have C := Lib.hid (orC_any v u xs ys w hv hu hw hwy)
  unfold RowPost at C
  go_enter Try.func32, Try.ntmps32
  go_wp2_with (go_at_call 46; refine C.out.mono ?_; rintro e w' ⟨v', rfl, hr, hb⟩)
  go_ret2
  exact ⟨v', rfl, hr, hb⟩
end Go.Proofs.Ytnegnmjjibhldaa
