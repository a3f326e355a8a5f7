/- Layer 2: Not, And, Or of the reference. -/
import Derived.Test.YtnegnmjjibhldaaG
namespace Go.Proofs.Ytnegnmjjibhldaa
open Go.RowKit
theorem mkRow_zero (n : Nat) (f : Nat → Bool) (h : ∀ j, j < 64 * n → f j = false) : mkRow n f = List.replicate n 0 := by
  refine (eq_mkRow ?_ (by simp) fun i hi => ?_).symm
  · intro x hx; rw [(List.mem_replicate.1 hx).2]; exact Nat.two_pow_pos 64
  · rw [h i hi]; unfold rbit
    rw [List.getD_eq_getElem?_getD, List.getElem?_replicate]
    split <;> simp
theorem with_step (n i : Nat) (t : Bool) {F G : Nat → Bool} {g c : Nat} {w : World} (h : Own64 w g c (mkRow n F)) (hn : n ≤ 1000) (hi : i < 64 * n) (hG : ∀ j, j < 64 * n → G j = if j = i then t else F j) :
    Calls Try.prog 43 #[rowV g n c, .int .i64 i, .bool t] w fun e w' => ∃ g' c', e = .returned (rowV g' n c') ∧ w.heap.size ≤ g' ∧ Own64 w' g' c' (mkRow n G) ∧ Below w.heap.size w w' := by
  have hr := h.row
  rw [mkRow_len] at hr
  refine (with_any _ (mkRow n F) i t w hr (mkRow_wf n F) (by rw [mkRow_len]; exact hn) (by rw [mkRow_len]; exact hi)).mono ?_
  rintro e w' ⟨g', c', rfl, hg, ho, hb⟩
  rw [setB_row (mkRow_wf n F) i t (by rw [mkRow_len]; exact hi), mkRow_len, mkRow_congr (g := G) (fun j hj => by rw [hG j hj, mkRow_bit n F j hj])] at ho
  exact ⟨g', c', by rw [mkRow_len], hg, ho, hb⟩
theorem upto_bits (f : Nat → Bool) (k : Nat) {t : Bool} (ht : t = f k) {n : Nat} : ∀ j, j < 64 * n → (decide (j < k + 1) && f j) = if j = k then t else (decide (j < k) && f j) := fun j _ => by
  by_cases e : j = k
  · subst e; simp [ht]
  · rw [if_neg e]; congr 1; rw [Bool.eq_iff_iff]; simp; omega
theorem bits_done {w : World} {g c n : Nat} {f : Nat → Bool} (h : Own64 w g c (mkRow n (fun j => decide (j < 64 * n) && f j))) : URow w (rowV g n c) (mkRow n f) := by
  rw [mkRow_congr (g := f) (fun j hj => by simp [hj])] at h
  have := h.row
  rw [mkRow_len] at this
  exact this
theorem pairE_zero {n m : Nat} (h : pairE n m = 0) : (0 < n ∧ n ≤ 8) ∧ n = m := by
  unfold pairE at h
  by_cases h0 : chk n = 0
  · rw [if_pos h0] at h
    by_cases h1 : chk m = 0
    · rw [if_pos h1] at h
      by_cases h2 : n = m
      · exact ⟨chk_zero h0, h2⟩
      · rw [if_neg h2] at h; omega
    · rw [if_neg h1] at h; exact absurd h h1
  · rw [if_neg h0] at h; exact absurd h h0
theorem two_any (v u : Value) (xs ys : List Nat) (w : World) (hv : URow w v xs) (hu : URow w u ys) : Calls Try.prog 48 #[v, u] w fun e w' => e = .returned (.int .i64 (pairE xs.length ys.length)) ∧ w = w' := by
  have C := Lib.hid (rcheck_any v xs w hv)
  have D := Lib.hid (rcheck_any u ys w hu)
  obtain ⟨p, c, rfl, _, _⟩ := hv
  obtain ⟨p2, c2, rfl, _, _⟩ := hu
  by_cases h0 : chk xs.length = 0
  · have t0 : (chk xs.length == 0) = true := by simp [h0]
    by_cases h1 : chk ys.length = 0
    · have t1 : (chk ys.length == 0) = true := by simp [h1]
      by_cases h2 : xs.length = ys.length
      · have t2 : ((xs.length : Int) != (ys.length : Int)) = false := by simp [h2]
        have E := Lib.hid (show pairE xs.length ys.length = chk ys.length by unfold pairE; rw [if_pos h0, if_pos h1, if_pos h2, h1])
        clear h0 h1 h2
        go_enter Try.func48, Try.ntmps48
        go_wp2_with (go_at_call 15; first | ((with_reducible refine C.out.mono ?_); rintro e w' ⟨rfl, rfl⟩) | ((with_reducible refine D.out.mono ?_); rintro e w' ⟨rfl, rfl⟩))
        go_ret
        exact ⟨ret_int E.out.symm, rfl⟩
      · have t2 : ((xs.length : Int) != (ys.length : Int)) = true := by rw [bne_iff_ne]; omega
        have E := Lib.hid (show pairE xs.length ys.length = 6 by unfold pairE; rw [if_pos h0, if_pos h1, if_neg h2])
        clear h0 h1 h2
        go_enter Try.func48, Try.ntmps48
        go_wp2_with (go_at_call 15; first | ((with_reducible refine C.out.mono ?_); rintro e w' ⟨rfl, rfl⟩) | ((with_reducible refine D.out.mono ?_); rintro e w' ⟨rfl, rfl⟩))
        go_ret
        exact ⟨ret_int E.out.symm, rfl⟩
    · have t1 : (chk ys.length == 0) = false := by simp [h1]
      have E := Lib.hid (show pairE xs.length ys.length = chk ys.length by unfold pairE; rw [if_pos h0, if_neg h1])
      clear h0 h1
      go_enter Try.func48, Try.ntmps48
      go_wp2_with (go_at_call 15; first | ((with_reducible refine C.out.mono ?_); rintro e w' ⟨rfl, rfl⟩) | ((with_reducible refine D.out.mono ?_); rintro e w' ⟨rfl, rfl⟩))
      go_ret
      exact ⟨ret_int E.out.symm, rfl⟩
  · have t0 : (chk xs.length == 0) = false := by simp [h0]
    have E := Lib.hid (show pairE xs.length ys.length = chk xs.length by unfold pairE; rw [if_neg h0])
    clear h0
    go_enter Try.func48, Try.ntmps48
    go_wp2_with (go_at_call 15; first | ((with_reducible refine C.out.mono ?_); rintro e w' ⟨rfl, rfl⟩) | ((with_reducible refine D.out.mono ?_); rintro e w' ⟨rfl, rfl⟩))
    go_ret
    exact ⟨ret_int E.out.symm, rfl⟩
set_option maxRecDepth 100000 in
theorem rnot_any (v : Value) (xs : List Nat) (w : World) (hv : URow w v xs) (hw : Wf xs) : Calls Try.prog 35 #[v] w (RowPost w (notR xs) (chk xs.length)) := by
  have C := Lib.hid (rcheck_any v xs w hv)
  by_cases h0 : chk xs.length = 0
  · have hlt := chk_zero h0
    have hne : (chk xs.length != 0) = false := by simp [h0]
    have R := Lib.hid (show notR xs = mkRow xs.length (fun i => !rbit xs i) by unfold notR; rw [if_pos h0])
    have E := Lib.hid h0
    have GA := Lib.hid (fun w' i (h : Below w.heap.size w w') hi => rget0_any v xs i w' (hv.below h) hw (by omega) hi)
    have MK := mk_any xs.length (by omega)
    obtain ⟨p, c, rfl, _, _⟩ := hv
    generalize xs.length = n at *
    clear h0
    go_enter Try.func35, Try.ntmps35
    go_wp2_with (go_at_call 15; refine C.out.mono ?_; rintro e w' ⟨rfl, rfl⟩)
    go_loopw [5, 6] (fun r i wr => ∃ k g c : Nat, k ≤ 64 * n ∧ i = .int .i64 k ∧ r = rowV g n c ∧ w.heap.size ≤ g ∧ Own64 wr g c (mkRow n (fun j => decide (j < k) && !rbit xs j)) ∧ Below w.heap.size w wr) (fun _ i _ => 64 * n - (intOf i).toNat)
    case atStart =>
      refine ⟨0, w.heap.size, n, Nat.zero_le _, rfl, rfl, Nat.le_refl _, ?_, (Below.refl _ w).alloc (Nat.le_refl _) _⟩
      rw [mkRow_zero _ _ (fun j _ => by simp)]
      exact made_own w n (by omega)
    case round =>
      obtain ⟨k, g, c', hk, rfl, rfl, hg, hown, hb⟩ := hrel
      by_cases hlt2 : k < 64 * n
      · have hltb : decide ((k : Int) < 64 * (n : Int)) = true := decide_eq_true (by omega)
        have WS := Lib.hid (fun t (ht : t = !rbit xs k) => with_step n k t (F := fun j => decide (j < k) && !rbit xs j) (G := fun j => decide (j < k + 1) && !rbit xs j) hown (by omega) hlt2 (upto_bits (fun j => !rbit xs j) k ht))
        have A := Lib.hid (GA.out wr k hb hlt2)
        clear hown
        go_wp2_with (first
          | (go_at_call 40; refine A.out.mono ?_; rintro e w' ⟨rfl, rfl⟩)
          | (go_at_call 43; refine (WS.out _ (by first | rfl | simp)).mono ?_; rintro e w1 ⟨g1, c1, rfl, hg1, ho1, hb1⟩))
        go_roundw
        case rel => exact ⟨k + 1, g1, c1, by omega, by go_num, rfl, by have := hb.size; omega, ho1, hb.trans (hb1.mono hb.size)⟩
        case measure => simp [intOf]; omega
      · obtain rfl : k = 64 * n := by omega
        have hltb : decide (((64 * n : Nat) : Int) < 64 * (n : Int)) = false := decide_eq_false (by omega)
        have HO := Lib.hid hown
        clear hown
        go_wp2
        go_ret2
        exact ⟨_, by rw [E.out]; rfl, by rw [R.out]; exact bits_done (f := fun j => !rbit xs j) HO.out, hb⟩
  · have hne : (chk xs.length != 0) = true := by simp [h0]
    have R := Lib.hid (show notR xs = [] by unfold notR; rw [if_neg h0])
    clear h0
    go_enter Try.func35, Try.ntmps35
    go_wp2_with (go_at_call 15; refine C.out.mono ?_; rintro e w' ⟨rfl, rfl⟩)
    go_ret2
    exact ⟨.slice none 0 0, rfl, by rw [R.out]; exact URow.none _, Below.refl _ _⟩
set_option maxHeartbeats 400000 in
set_option maxRecDepth 100000 in
theorem rand_any (v u : Value) (xs ys : List Nat) (w : World) (hv : URow w v xs) (hu : URow w u ys) (hw : Wf xs) (hwy : Wf ys) : Calls Try.prog 31 #[v, u] w (RowPost w (andR xs ys) (pairE xs.length ys.length)) := by
  have C := Lib.hid (two_any v u xs ys w hv hu)
  by_cases h0 : pairE xs.length ys.length = 0
  · obtain ⟨hlt, hl⟩ := pairE_zero h0
    have hne : (pairE xs.length ys.length != 0) = false := by simp [h0]
    have R := Lib.hid (show andR xs ys = mkRow xs.length (fun i => rbit xs i && rbit ys i) by unfold andR; rw [if_pos h0])
    have E := Lib.hid h0
    have GA := Lib.hid (fun w' i (h : Below w.heap.size w w') hi => rget0_any v xs i w' (hv.below h) hw (by omega) hi)
    have GB := Lib.hid (fun w' i (h : Below w.heap.size w w') hi => rget0_any u ys i w' (hu.below h) hwy (by omega) hi)
    rw [← hl] at GB
    have MK := mk_any xs.length (by omega)
    obtain ⟨p, c, rfl, _, _⟩ := hv
    obtain ⟨p2, c2, rfl, _, _⟩ := hu
    rw [← hl] at C hne GB E ⊢
    generalize xs.length = n at *
    clear hl h0
    go_enter Try.func31, Try.ntmps31
    go_wp2_with (go_at_call 48; refine C.out.mono ?_; rintro e w' ⟨rfl, rfl⟩)
    go_loopw [7, 8] (fun r i wr => ∃ k g c : Nat, k ≤ 64 * n ∧ i = .int .i64 k ∧ r = rowV g n c ∧ w.heap.size ≤ g ∧ Own64 wr g c (mkRow n (fun j => decide (j < k) && (rbit xs j && rbit ys j))) ∧ Below w.heap.size w wr) (fun _ i _ => 64 * n - (intOf i).toNat)
    case atStart =>
      refine ⟨0, w.heap.size, n, Nat.zero_le _, rfl, rfl, Nat.le_refl _, ?_, (Below.refl _ w).alloc (Nat.le_refl _) _⟩
      rw [mkRow_zero _ _ (fun j _ => by simp)]
      exact made_own w n (by omega)
    case round =>
      obtain ⟨k, g, c', hk, rfl, rfl, hg, hown, hb⟩ := hrel
      by_cases hlt2 : k < 64 * n
      · have hltb : decide ((k : Int) < 64 * (n : Int)) = true := decide_eq_true (by omega)
        have WS := Lib.hid (fun t (ht : t = (rbit xs k && rbit ys k)) => with_step n k t (F := fun j => decide (j < k) && (rbit xs j && rbit ys j)) (G := fun j => decide (j < k + 1) && (rbit xs j && rbit ys j)) hown (by omega) hlt2 (upto_bits _ k ht))
        have A := Lib.hid (GA.out wr k hb hlt2)
        have B := Lib.hid (GB.out wr k hb hlt2)
        clear hown
        rcases ha : rbit xs k with _ | _
        · have HA := Lib.hid ha
          rw [ha] at A
          clear ha
          rcases hbb : rbit ys k with _ | _
          · have HB := Lib.hid hbb
            rw [hbb] at B
            clear hbb
            go_wp2_with (first
              | (go_at_call 40; first | ((with_reducible refine A.out.mono ?_); rintro e w' ⟨rfl, rfl⟩) | ((with_reducible refine B.out.mono ?_); rintro e w' ⟨rfl, rfl⟩))
              | (go_at_call 43; refine (WS.out _ (by rw [HA.out, HB.out]; rfl)).mono ?_; rintro e w1 ⟨g1, c1, rfl, hg1, ho1, hb1⟩))
            go_roundw
            case rel => exact ⟨k + 1, g1, c1, by omega, by go_num, rfl, by have := hb.size; omega, ho1, hb.trans (hb1.mono hb.size)⟩
            case measure => simp [intOf]; omega
          · have HB := Lib.hid hbb
            rw [hbb] at B
            clear hbb
            go_wp2_with (first
              | (go_at_call 40; first | ((with_reducible refine A.out.mono ?_); rintro e w' ⟨rfl, rfl⟩) | ((with_reducible refine B.out.mono ?_); rintro e w' ⟨rfl, rfl⟩))
              | (go_at_call 43; refine (WS.out _ (by rw [HA.out, HB.out]; rfl)).mono ?_; rintro e w1 ⟨g1, c1, rfl, hg1, ho1, hb1⟩))
            go_roundw
            case rel => exact ⟨k + 1, g1, c1, by omega, by go_num, rfl, by have := hb.size; omega, ho1, hb.trans (hb1.mono hb.size)⟩
            case measure => simp [intOf]; omega
        · have HA := Lib.hid ha
          rw [ha] at A
          clear ha
          rcases hbb : rbit ys k with _ | _
          · have HB := Lib.hid hbb
            rw [hbb] at B
            clear hbb
            go_wp2_with (first
              | (go_at_call 40; first | ((with_reducible refine A.out.mono ?_); rintro e w' ⟨rfl, rfl⟩) | ((with_reducible refine B.out.mono ?_); rintro e w' ⟨rfl, rfl⟩))
              | (go_at_call 43; refine (WS.out _ (by rw [HA.out, HB.out]; rfl)).mono ?_; rintro e w1 ⟨g1, c1, rfl, hg1, ho1, hb1⟩))
            go_roundw
            case rel => exact ⟨k + 1, g1, c1, by omega, by go_num, rfl, by have := hb.size; omega, ho1, hb.trans (hb1.mono hb.size)⟩
            case measure => simp [intOf]; omega
          · have HB := Lib.hid hbb
            rw [hbb] at B
            clear hbb
            go_wp2_with (first
              | (go_at_call 40; first | ((with_reducible refine A.out.mono ?_); rintro e w' ⟨rfl, rfl⟩) | ((with_reducible refine B.out.mono ?_); rintro e w' ⟨rfl, rfl⟩))
              | (go_at_call 43; refine (WS.out _ (by rw [HA.out, HB.out]; rfl)).mono ?_; rintro e w1 ⟨g1, c1, rfl, hg1, ho1, hb1⟩))
            go_roundw
            case rel => exact ⟨k + 1, g1, c1, by omega, by go_num, rfl, by have := hb.size; omega, ho1, hb.trans (hb1.mono hb.size)⟩
            case measure => simp [intOf]; omega
      · obtain rfl : k = 64 * n := by omega
        have hltb : decide (((64 * n : Nat) : Int) < 64 * (n : Int)) = false := decide_eq_false (by omega)
        have HO := Lib.hid hown
        clear hown
        go_wp2
        go_ret2
        exact ⟨_, by rw [E.out]; rfl, by rw [R.out]; exact bits_done HO.out, hb⟩
  · have hne : (pairE xs.length ys.length != 0) = true := by simp [h0]
    have R := Lib.hid (show andR xs ys = [] by unfold andR; rw [if_neg h0])
    clear h0
    go_enter Try.func31, Try.ntmps31
    go_wp2_with (go_at_call 48; refine C.out.mono ?_; rintro e w' ⟨rfl, rfl⟩)
    go_ret2
    exact ⟨.slice none 0 0, rfl, by rw [R.out]; exact URow.none _, Below.refl _ _⟩
set_option maxHeartbeats 400000 in
set_option maxRecDepth 100000 in
theorem ror_any (v u : Value) (xs ys : List Nat) (w : World) (hv : URow w v xs) (hu : URow w u ys) (hw : Wf xs) (hwy : Wf ys) : Calls Try.prog 33 #[v, u] w (RowPost w (orR xs ys) (pairE xs.length ys.length)) := by
  have C := Lib.hid (two_any v u xs ys w hv hu)
  by_cases h0 : pairE xs.length ys.length = 0
  · obtain ⟨hlt, hl⟩ := pairE_zero h0
    have hne : (pairE xs.length ys.length != 0) = false := by simp [h0]
    have R := Lib.hid (show orR xs ys = mkRow xs.length (fun i => rbit xs i || rbit ys i) by unfold orR; rw [if_pos h0])
    have E := Lib.hid h0
    have GA := Lib.hid (fun w' i (h : Below w.heap.size w w') hi => rget0_any v xs i w' (hv.below h) hw (by omega) hi)
    have GB := Lib.hid (fun w' i (h : Below w.heap.size w w') hi => rget0_any u ys i w' (hu.below h) hwy (by omega) hi)
    rw [← hl] at GB
    have MK := mk_any xs.length (by omega)
    obtain ⟨p, c, rfl, _, _⟩ := hv
    obtain ⟨p2, c2, rfl, _, _⟩ := hu
    rw [← hl] at C hne GB E ⊢
    generalize xs.length = n at *
    clear hl h0
    go_enter Try.func33, Try.ntmps33
    go_wp2_with (go_at_call 48; refine C.out.mono ?_; rintro e w' ⟨rfl, rfl⟩)
    go_loopw [7, 8] (fun r i wr => ∃ k g c : Nat, k ≤ 64 * n ∧ i = .int .i64 k ∧ r = rowV g n c ∧ w.heap.size ≤ g ∧ Own64 wr g c (mkRow n (fun j => decide (j < k) && (rbit xs j || rbit ys j))) ∧ Below w.heap.size w wr) (fun _ i _ => 64 * n - (intOf i).toNat)
    case atStart =>
      refine ⟨0, w.heap.size, n, Nat.zero_le _, rfl, rfl, Nat.le_refl _, ?_, (Below.refl _ w).alloc (Nat.le_refl _) _⟩
      rw [mkRow_zero _ _ (fun j _ => by simp)]
      exact made_own w n (by omega)
    case round =>
      obtain ⟨k, g, c', hk, rfl, rfl, hg, hown, hb⟩ := hrel
      by_cases hlt2 : k < 64 * n
      · have hltb : decide ((k : Int) < 64 * (n : Int)) = true := decide_eq_true (by omega)
        have WS := Lib.hid (fun t (ht : t = (rbit xs k || rbit ys k)) => with_step n k t (F := fun j => decide (j < k) && (rbit xs j || rbit ys j)) (G := fun j => decide (j < k + 1) && (rbit xs j || rbit ys j)) hown (by omega) hlt2 (upto_bits _ k ht))
        have A := Lib.hid (GA.out wr k hb hlt2)
        have B := Lib.hid (GB.out wr k hb hlt2)
        clear hown
        rcases ha : rbit xs k with _ | _
        · have HA := Lib.hid ha
          rw [ha] at A
          clear ha
          rcases hbb : rbit ys k with _ | _
          · have HB := Lib.hid hbb
            rw [hbb] at B
            clear hbb
            go_wp2_with (first
              | (go_at_call 40; first | ((with_reducible refine A.out.mono ?_); rintro e w' ⟨rfl, rfl⟩) | ((with_reducible refine B.out.mono ?_); rintro e w' ⟨rfl, rfl⟩))
              | (go_at_call 43; refine (WS.out _ (by rw [HA.out, HB.out]; rfl)).mono ?_; rintro e w1 ⟨g1, c1, rfl, hg1, ho1, hb1⟩))
            go_roundw
            case rel => exact ⟨k + 1, g1, c1, by omega, by go_num, rfl, by have := hb.size; omega, ho1, hb.trans (hb1.mono hb.size)⟩
            case measure => simp [intOf]; omega
          · have HB := Lib.hid hbb
            rw [hbb] at B
            clear hbb
            go_wp2_with (first
              | (go_at_call 40; first | ((with_reducible refine A.out.mono ?_); rintro e w' ⟨rfl, rfl⟩) | ((with_reducible refine B.out.mono ?_); rintro e w' ⟨rfl, rfl⟩))
              | (go_at_call 43; refine (WS.out _ (by rw [HA.out, HB.out]; rfl)).mono ?_; rintro e w1 ⟨g1, c1, rfl, hg1, ho1, hb1⟩))
            go_roundw
            case rel => exact ⟨k + 1, g1, c1, by omega, by go_num, rfl, by have := hb.size; omega, ho1, hb.trans (hb1.mono hb.size)⟩
            case measure => simp [intOf]; omega
        · have HA := Lib.hid ha
          rw [ha] at A
          clear ha
          rcases hbb : rbit ys k with _ | _
          · have HB := Lib.hid hbb
            rw [hbb] at B
            clear hbb
            go_wp2_with (first
              | (go_at_call 40; first | ((with_reducible refine A.out.mono ?_); rintro e w' ⟨rfl, rfl⟩) | ((with_reducible refine B.out.mono ?_); rintro e w' ⟨rfl, rfl⟩))
              | (go_at_call 43; refine (WS.out _ (by rw [HA.out, HB.out]; rfl)).mono ?_; rintro e w1 ⟨g1, c1, rfl, hg1, ho1, hb1⟩))
            go_roundw
            case rel => exact ⟨k + 1, g1, c1, by omega, by go_num, rfl, by have := hb.size; omega, ho1, hb.trans (hb1.mono hb.size)⟩
            case measure => simp [intOf]; omega
          · have HB := Lib.hid hbb
            rw [hbb] at B
            clear hbb
            go_wp2_with (first
              | (go_at_call 40; first | ((with_reducible refine A.out.mono ?_); rintro e w' ⟨rfl, rfl⟩) | ((with_reducible refine B.out.mono ?_); rintro e w' ⟨rfl, rfl⟩))
              | (go_at_call 43; refine (WS.out _ (by rw [HA.out, HB.out]; rfl)).mono ?_; rintro e w1 ⟨g1, c1, rfl, hg1, ho1, hb1⟩))
            go_roundw
            case rel => exact ⟨k + 1, g1, c1, by omega, by go_num, rfl, by have := hb.size; omega, ho1, hb.trans (hb1.mono hb.size)⟩
            case measure => simp [intOf]; omega
      · obtain rfl : k = 64 * n := by omega
        have hltb : decide (((64 * n : Nat) : Int) < 64 * (n : Int)) = false := decide_eq_false (by omega)
        have HO := Lib.hid hown
        clear hown
        go_wp2
        go_ret2
        exact ⟨_, by rw [E.out]; rfl, by rw [R.out]; exact bits_done HO.out, hb⟩
  · have hne : (pairE xs.length ys.length != 0) = true := by simp [h0]
    have R := Lib.hid (show orR xs ys = [] by unfold orR; rw [if_neg h0])
    clear h0
    go_enter Try.func33, Try.ntmps33
    go_wp2_with (go_at_call 48; refine C.out.mono ?_; rintro e w' ⟨rfl, rfl⟩)
    go_ret2
    exact ⟨.slice none 0 0, rfl, by rw [R.out]; exact URow.none _, Below.refl _ _⟩
end Go.Proofs.Ytnegnmjjibhldaa
