/- Layer 2: the laws on pairs and sets, walked. -/
import Derived.Test.YtnegnmjjibhldaaQ
namespace Go.Proofs.Ytnegnmjjibhldaa
open Go.RowKit
theorem andR_len (xs ys : List Nat) (h : xs.length ≤ 1000) : (andR xs ys).length ≤ 1000000 := by
  unfold andR; split
  · rw [mkRow_len]; omega
  · simp
theorem orR_len (xs ys : List Nat) (h : xs.length ≤ 1000) : (orR xs ys).length ≤ 1000000 := by
  unfold orR; split
  · rw [mkRow_len]; omega
  · simp
theorem notR_len (xs : List Nat) (h : xs.length ≤ 1000) : (notR xs).length ≤ 1000000 := by
  unfold notR; split
  · rw [mkRow_len]; omega
  · simp
theorem setR_len (xs : List Nat) (i : Int) (t : Bool) (h : xs.length ≤ 1000) : (setR xs i t).length ≤ 1000000 := by
  unfold setR; split
  · rw [setB_len]; omega
  · simp
theorem ofR_len (n : Int) (zs : List Int) : (ofR n zs).length ≤ 1000000 := by
  unfold ofR; split
  · rename_i h
    rw [mkRow_len]
    unfold ofE at h
    split at h
    · omega
    · split at h
      · omega
      · omega
  · simp
theorem onesR_len (xs : List Nat) : (onesR xs).length ≤ 1000000 := by
  unfold onesR; split
  · rename_i h
    have := onesZ_le xs (64 * xs.length)
    have := chk_zero h
    omega
  · simp
set_option maxRecDepth 100000 in
theorem pairs_any (v u : Value) (xs ys : List Nat) (w : World) (hv : URow w v xs) (hu : URow w u ys) (hw : Wf xs) (hwy : Wf ys) : Calls Try.prog 5 #[v, u] w fun e w' => e = .returned (.bool true) ∧ Below w.heap.size w w' := by
  have FA := Lib.hid (far_any v xs w hv)
  have FB := Lib.hid (far_any u ys w hu)
  have AW := Lib.hid (fun w' => awake_any w')
  by_cases h20 : 20 < xs.length
  · rw [decide_eq_true h20] at FA
    clear h20
    go_enter Try.func5, Try.ntmps5
    go_wp2_with (first
      | (go_at_call 10; refine FA.out.mono ?_; rintro e w1 ⟨rfl, rfl⟩)
      | (go_at_call 11; refine (AW.out _).mono ?_; rintro e w2 ⟨rfl, hb⟩))
    go_ret
    exact ⟨rfl, hb⟩
  rw [decide_eq_false h20] at FA
  by_cases h21 : 20 < ys.length
  · rw [decide_eq_true h21] at FB
    clear h20 h21
    go_enter Try.func5, Try.ntmps5
    go_wp2_with (first
      | (go_at_call 10; first
        | ((with_reducible refine FA.out.mono ?_); rintro e w1 ⟨rfl, rfl⟩)
        | ((with_reducible refine FB.out.mono ?_); rintro e w1 ⟨rfl, rfl⟩))
      | (go_at_call 11; refine (AW.out _).mono ?_; rintro e w2 ⟨rfl, hb⟩))
    go_ret
    exact ⟨rfl, hb⟩
  rw [decide_eq_false h21] at FB
  have S1 := Lib.hid (fun w' (h : Below w.heap.size w w') => and_any v u xs ys w' (hv.below h) (hu.below h) hw hwy)
  have S2 := Lib.hid (fun w' (h : Below w.heap.size w w') => rand_any v u xs ys w' (hv.below h) (hu.below h) hw hwy)
  have B1 := Lib.hid (fun w' (h : Below w.heap.size w w') => or_any v u xs ys w' (hv.below h) (hu.below h) hw hwy)
  have B2 := Lib.hid (fun w' (h : Below w.heap.size w w') => ror_any v u xs ys w' (hv.below h) (hu.below h) hw hwy)
  have N1 := Lib.hid (fun w' (h : Below w.heap.size w w') => not_any v xs w' (hv.below h) hw)
  have N2 := Lib.hid (fun w' (h : Below w.heap.size w w') => rnot_any v xs w' (hv.below h) hw)
  have LA := Lib.hid (andR_len xs ys (by omega))
  have LO := Lib.hid (orR_len xs ys (by omega))
  have LN := Lib.hid (notR_len xs (by omega))
  generalize andR xs ys = ad at *
  generalize orR xs ys = os at *
  generalize notR xs = ns at *
  generalize pairE xs.length ys.length = E at *
  generalize chk xs.length = F at *
  clear h20 h21 hv hw hu hwy
  have hb := Below.refl w.heap.size w
  go_enter Try.func5, Try.ntmps5
  go_wp2_with (first
    | (go_at_call 10; first
        | ((with_reducible refine FA.out.mono ?_); rintro e w1 ⟨rfl, rfl⟩)
        | ((with_reducible refine FB.out.mono ?_); rintro e w1 ⟨rfl, rfl⟩))
    | (go_at_call 30; refine (S1.out _ hb).mono ?_; rintro e w1 ⟨a, rfl, ra, hb2⟩; have hb := hb.trans (hb2.mono hb.size))
    | (go_at_call 31; refine (S2.out _ hb).mono ?_; rintro e w2 ⟨b, rfl, rb, hb2⟩; have hb := hb.trans (hb2.mono hb.size); have ra := ra.below hb2)
    | (go_at_call 32; refine (B1.out _ hb).mono ?_; rintro e w3 ⟨c, rfl, rc, hb2⟩; have hb := hb.trans (hb2.mono hb.size); have ra := ra.below hb2; have rb := rb.below hb2)
    | (go_at_call 33; refine (B2.out _ hb).mono ?_; rintro e w4 ⟨d, rfl, rd, hb2⟩; have hb := hb.trans (hb2.mono hb.size); have ra := ra.below hb2; have rb := rb.below hb2; have rc := rc.below hb2)
    | (go_at_call 34; refine (N1.out _ hb).mono ?_; rintro e w3 ⟨p, rfl, rp, hb2⟩; have hb := hb.trans (hb2.mono hb.size); have ra := ra.below hb2; have rb := rb.below hb2; have rc := rc.below hb2; have rd := rd.below hb2)
    | (go_at_call 35; refine (N2.out _ hb).mono ?_; rintro e w4 ⟨q, rfl, rq, hb2⟩; have hb := hb.trans (hb2.mono hb.size); have ra := ra.below hb2; have rb := rb.below hb2; have rc := rc.below hb2; have rd := rd.below hb2; have rp := rp.below hb2)
    | (go_at_call 18; first
        | ((with_reducible refine (same_yes _ _ _ _ ra rb LA.out).mono ?_); rintro e w5 ⟨rfl, hb2⟩; have hb := hb.trans (hb2.mono hb.size); have rc := rc.below hb2; have rd := rd.below hb2; have rp := rp.below hb2; have rq := rq.below hb2)
        | ((with_reducible refine (same_yes _ _ _ _ rc rd LO.out).mono ?_); rintro e w5 ⟨rfl, hb2⟩; have hb := hb.trans (hb2.mono hb.size); have rp := rp.below hb2; have rq := rq.below hb2)
        | ((with_reducible refine (same_yes _ _ _ _ rp rq LN.out).mono ?_); rintro e w5 ⟨rfl, hb2⟩; have hb := hb.trans (hb2.mono hb.size)))
    | (go_at_call 11; refine (AW.out _).mono ?_; rintro e w6 ⟨rfl, hb2⟩; have hb := hb.trans (hb2.mono hb.size)))
  go_ret
  exact ⟨rfl, hb⟩
set_option maxHeartbeats 400000 in
set_option maxRecDepth 100000 in
theorem sets_any (v u : Value) (xs : List Nat) (i : Int) (zs : List Int) (w : World) (hv : URow w v xs) (hu : IRow w u zs) (hw : Wf xs) : Calls Try.prog 3 #[v, .int .i64 i, u] w fun e w' => e = .returned (.bool true) ∧ Below w.heap.size w w' := by
  have FA := Lib.hid (far_any v xs w hv)
  have AW := Lib.hid (fun w' => awake_any w')
  by_cases h20 : 20 < xs.length
  · rw [decide_eq_true h20] at FA
    clear h20
    go_enter Try.func3, Try.ntmps3
    go_wp2_with (first
      | (go_at_call 10; refine FA.out.mono ?_; rintro e w1 ⟨rfl, rfl⟩)
      | (go_at_call 11; refine (AW.out _).mono ?_; rintro e w2 ⟨rfl, hb⟩))
    go_ret
    exact ⟨rfl, hb⟩
  rw [decide_eq_false h20] at FA
  by_cases h100 : 100 < zs.length
  · obtain ⟨p, c, rfl, _, _⟩ := hu
    have hb1 : decide ((100 : Int) < (zs.length : Int)) = true := decide_eq_true (by omega)
    clear h20 h100
    go_enter Try.func3, Try.ntmps3
    go_wp2_with (first
      | (go_at_call 10; refine FA.out.mono ?_; rintro e w1 ⟨rfl, rfl⟩)
      | (go_at_call 11; refine (AW.out _).mono ?_; rintro e w2 ⟨rfl, hb⟩))
    go_ret
    exact ⟨rfl, hb⟩
  have hb1 : decide ((100 : Int) < (zs.length : Int)) = false := decide_eq_false (by omega)
  have hl : xs.length ≤ 1000 := by omega
  have C1 := Lib.hid (fun w' (h : Below w.heap.size w w') => check_any v xs w' (hv.below h))
  have C2 := Lib.hid (fun w' (h : Below w.heap.size w w') => rcheck_any v xs w' (hv.below h))
  have G1 := Lib.hid (fun w' (h : Below w.heap.size w w') => get_any v xs i w' (hv.below h) hw hl)
  have G2 := Lib.hid (fun w' (h : Below w.heap.size w w') => rget_any v xs i w' (hv.below h) hw hl)
  have S1 := Lib.hid (fun t w' (h : Below w.heap.size w w') => set_any v xs i t w' (hv.below h) hw hl)
  have S2 := Lib.hid (fun t w' (h : Below w.heap.size w w') => rset_any v xs i t w' (hv.below h) hw hl)
  have N1 := Lib.hid (fun w' (h : Below w.heap.size w w') => count_any v xs w' (hv.below h) hw)
  have N2 := Lib.hid (fun w' (h : Below w.heap.size w w') => rcount_any v xs w' (hv.below h) hw)
  have O1 := Lib.hid (fun w' (h : Below w.heap.size w w') => ones_any v xs w' (hv.below h) hw)
  have O2 := Lib.hid (fun w' (h : Below w.heap.size w w') => rones_any v xs w' (hv.below h) hw)
  have F1 := Lib.hid (fun n w' (h : Below w.heap.size w w') => of_any n u zs w' (hu.below h) (by omega))
  have F2 := Lib.hid (fun n w' (h : Below w.heap.size w w') => rof_any n u zs w' (hu.below h) (by omega))
  have LS := Lib.hid (fun t => setR_len xs i t hl)
  have LO := Lib.hid (onesR_len xs)
  unfold GetPost at G1 G2
  unfold NumPost at N1 N2
  generalize hgb : getB xs i = gb at *
  generalize getE xs.length i = ge at *
  have hgg : (!gb == gb) = false := by cases gb <;> rfl
  generalize onesR xs = os at *
  generalize chk xs.length = E at *
  generalize setR xs i = sr at *
  generalize os.length = ol at N1 N2
  obtain ⟨p, c, rfl, _, _⟩ := hu
  clear h20 h100 hv hw hl hgb
  have hb := Below.refl w.heap.size w
  go_enter Try.func3, Try.ntmps3
  go_wp2_with (first
    | (go_at_call 10; refine FA.out.mono ?_; rintro e w1 ⟨rfl, rfl⟩)
    | (go_at_call 12; refine (G1.out _ hb).mono ?_; rintro e w1 ⟨rfl, d1, rfl⟩; have hb := hb.trans ((below_drewN _ d1).mono hb.size))
    | (go_at_call 13; refine (G2.out _ hb).mono ?_; rintro e w1 ⟨rfl, d2, rfl⟩; have hb := hb.trans ((below_drewN _ d2).mono hb.size); rw [drewN_drewN] at hb)
    | (go_at_call 14; refine (C1.out _ hb).mono ?_; rintro e w1 ⟨rfl, rfl⟩)
    | (go_at_call 15; refine (C2.out _ hb).mono ?_; rintro e w1 ⟨rfl, rfl⟩))
  go_loopw [11, 12, 13, 14, 15] (fun i _ _ _ _ wr => ∃ k : Nat, k ≤ 2 ∧ i = .int .i64 k ∧ Below w.heap.size w wr) (fun i _ _ _ _ _ => 2 - (intOf i).toNat)
  case atStart => exact ⟨0, by omega, rfl, hb⟩
  case round =>
    obtain ⟨k, hk, rfl, hb⟩ := hrel
    by_cases hlt : k < 2
    · have hltb : decide ((k : Int) < 2) = true := decide_eq_true (by omega)
      go_wp2_with (first
        | (go_at_call 16; refine (S1.out _ _ hb).mono ?_; rintro e w1 ⟨a, rfl, ra, hb2⟩; have hb := hb.trans (hb2.mono hb.size))
        | (go_at_call 17; refine (S2.out _ _ hb).mono ?_; rintro e w1 ⟨b, rfl, rb, hb2⟩; have hb := hb.trans (hb2.mono hb.size); have ra := ra.below hb2)
        | (go_at_call 18; refine (same_yes _ _ _ _ ra rb (LS.out _)).mono ?_; rintro e w5 ⟨rfl, hb2⟩; have hb := hb.trans (hb2.mono hb.size)))
      go_roundw
      case rel => exact ⟨k + 1, by omega, by go_num, hb⟩
      case measure => simp [intOf]; omega
    · obtain rfl : k = 2 := by omega
      go_wp2_with (first
        | (go_at_call 19; refine (N1.out _ hb).mono ?_; rintro e w1 ⟨rfl, hb2⟩; have hb := hb.trans (hb2.mono hb.size))
        | (go_at_call 20; refine (N2.out _ hb).mono ?_; rintro e w1 ⟨rfl, hb2⟩; have hb := hb.trans (hb2.mono hb.size))
        | (go_at_call 21; refine (O1.out _ hb).mono ?_; rintro e w1 ⟨a, rfl, ra, hb2⟩; have hb := hb.trans (hb2.mono hb.size))
        | (go_at_call 22; refine (O2.out _ hb).mono ?_; rintro e w1 ⟨b, rfl, rb, hb2⟩; have hb := hb.trans (hb2.mono hb.size); have ra := ra.below hb2)
        | (go_at_call 23; refine (ints_yes _ _ _ _ ra rb LO.out).mono ?_; rintro e w5 ⟨rfl, hb2⟩; have hb := hb.trans (hb2.mono hb.size)))
      go_loopw [22, 23, 24, 25, 26] (fun i _ _ _ _ wr => ∃ n : Int, -1 ≤ n ∧ n ≤ 10 ∧ i = .int .i64 n ∧ Below w.heap.size w wr) (fun i _ _ _ _ _ => (10 - intOf i).toNat)
      case atStart => exact ⟨-1, by omega, by omega, rfl, hb⟩
      case round =>
        clear hb
        obtain ⟨n, hn1, hn2, rfl, hb⟩ := hrel
        have LF := Lib.hid (ofR_len n zs)
        have F1' := Lib.hid (F1.out n)
        have F2' := Lib.hid (F2.out n)
        generalize ofR n zs = fr at *
        generalize ofE n zs = fe at *
        by_cases hlt : n ≤ 9
        · have hltb : decide (n ≤ 9) = true := decide_eq_true hlt
          go_wp2_with (first
            | (go_at_call 24; refine (F1'.out _ hb).mono ?_; rintro e w1 ⟨a, rfl, ra, hb2⟩; have hb := hb.trans (hb2.mono hb.size))
            | (go_at_call 25; refine (F2'.out _ hb).mono ?_; rintro e w1 ⟨b, rfl, rb, hb2⟩; have hb := hb.trans (hb2.mono hb.size); have ra := ra.below hb2)
            | (go_at_call 18; refine (same_yes _ _ _ _ ra rb LF.out).mono ?_; rintro e w5 ⟨rfl, hb2⟩; have hb := hb.trans (hb2.mono hb.size)))
          go_roundw
          case rel => exact ⟨n + 1, by omega, by omega, rfl, hb⟩
          case measure => simp [intOf]; omega
        · have hltb : decide (n ≤ 9) = false := decide_eq_false hlt
          go_wp2_with (go_at_call 11; refine (AW.out _).mono ?_; rintro e w6 ⟨rfl, hb2⟩; have hb := hb.trans (hb2.mono hb.size))
          go_ret
          exact ⟨rfl, hb⟩
end Go.Proofs.Ytnegnmjjibhldaa
