/- Layer 2: the law on the bits that are 1, walked. -/
import Derived.Test.YtnegnmjjibhldaaV
namespace Go.Proofs.Ytnegnmjjibhldaa
open Go.RowKit
set_option maxHeartbeats 1600000 in
set_option maxRecDepth 100000 in
theorem ones_law (v u : Value) (xs : List Nat) (zs : List Int) (i : Int) (w : World) (hv : URow w v xs) (hu : IRow w u zs) (hw : Wf xs) : Calls Try.prog 8 #[v, u, .int .i64 i] w fun e w' => e = .returned (.bool true) ∧ Below w.heap.size w w' := by
  have FA := Lib.hid (far_any v xs w hv)
  have AW := Lib.hid (fun w' => awake_any w')
  by_cases h20 : 20 < xs.length
  · rw [decide_eq_true h20] at FA
    clear h20
    go_enter Try.func8, Try.ntmps8
    go_wp2_with (first
      | (go_at_call 10; refine FA.out.mono ?_; rintro e w1 ⟨rfl, rfl⟩)
      | (go_at_call 11; refine (AW.out _).mono ?_; rintro e w2 ⟨rfl, hb⟩))
    go_ret
    exact ⟨rfl, hb⟩
  rw [decide_eq_false h20] at FA
  by_cases h100 : 100 < zs.length
  · obtain ⟨p, c, rfl, _, _⟩ := hu
    have hb1 : decide ((100 : Int) < (zs.length : Int)) = true := decide_eq_true (by omega)
    clear h20 h100
    go_enter Try.func8, Try.ntmps8
    go_wp2_with (first
      | (go_at_call 10; refine FA.out.mono ?_; rintro e w1 ⟨rfl, rfl⟩)
      | (go_at_call 11; refine (AW.out _).mono ?_; rintro e w2 ⟨rfl, hb⟩))
    go_ret
    exact ⟨rfl, hb⟩
  have hb1 : decide ((100 : Int) < (zs.length : Int)) = false := decide_eq_false (by omega)
  have hb := Below.refl w.heap.size w
  by_cases hc : chk xs.length = 0
  · have h01 := chk_zero hc
    obtain ⟨n, hn⟩ : ∃ n, xs.length = n := ⟨_, rfl⟩
    have hcn : chk n = 0 := by rw [← hn]; exact hc
    obtain ⟨m, hm⟩ : ∃ m, m = zs.length := ⟨_, rfl⟩
    obtain ⟨p, c, hvE, _, _⟩ := id hv
    obtain ⟨p2, c2, huE, _, _⟩ := id hu
    rw [hn] at hvE
    rw [← hm] at huE hb1
    subst hvE
    subst huE
    have HVB := Lib.hid (fun w' (h : Below w.heap.size w w') => hv.below h)
    have HUB := Lib.hid (fun w' (h : Below w.heap.size w w') => hu.below h)
    have O1 := Lib.hid (fun w' (h : Below w.heap.size w w') => show Calls _ _ _ _ (fun e w2 => ∃ r, e = .returned (.tuple #[r, .int .i64 0]) ∧ IRow w2 r (onesZ xs (64 * n)) ∧ Below w'.heap.size w' w2) from
      (ones_any _ xs w' (hv.below h) hw).mono (by rintro e w2 ⟨r, rfl, hr, hb⟩; exact ⟨r, by rw [hc], by rw [← hn]; unfold onesR at hr; rwa [if_pos hc] at hr, hb⟩))
    have hofo := ofR_ones hw hn hcn
    have OF1 := Lib.hid (fun w' r (h : IRow w' r (onesZ xs (64 * n))) => show Calls _ _ _ _ (fun e w2 => ∃ y, e = .returned (.tuple #[y, .int .i64 0]) ∧ URow w2 y xs ∧ Below w'.heap.size w' w2) from
      (of_any n r _ w' h (by have := onesZ_le xs (64 * n); omega)).mono (by rintro e w2 ⟨y, rfl, hr, hb⟩; exact ⟨y, by rw [hofo.1], by rwa [hofo.2] at hr, hb⟩))
    have SA := Lib.hid (fun w' (a b : Value) (ha : URow w' a xs) (hb : URow w' b xs) => same_yes a b xs w' ha hb (by omega))
    have SRT := Lib.hid (onesZ_sorted xs (64 * n))
    have HN := Lib.hid hn
    have HI := Lib.hid (show getE xs.length i = 0 → ∃ k : Nat, i = k ∧ k < 64 * xs.length from fun h => by
      unfold getE at h; rw [if_pos hc] at h
      by_cases h2 : hasB xs.length i = true
      · exact hasB_true h2
      · rw [if_neg h2] at h; omega)
    have GG := Lib.hid (fun k (hk : k < 64 * xs.length) w' (h : Below w.heap.size w w') => get_ok _ xs k w' (hv.below h) hw hc hk)
    have GA := Lib.hid (fun w' (h : Below w.heap.size w w') => show Calls _ _ _ _ (fun e w2 => e = .returned (.tuple #[.bool (getB xs i), .int .i64 (getE xs.length i)]) ∧ Below w'.heap.size w' w2) from
      (get_any _ xs i w' (hv.below h) hw (by omega)).mono (by rintro e w2 ⟨rfl, d, rfl⟩; exact ⟨rfl, below_drewN w' d⟩))
    have S1 := Lib.hid (fun k t (hk : k < 64 * xs.length) w' (h : Below w.heap.size w w') => set_ok _ k t w' (hv.below h) hw hc hk rfl)
    have S2 := Lib.hid (fun k s t (hk : k < 64 * xs.length) (ht : rbit xs k = t) w' x (h : URow w' x (setB xs k s)) => set_ok x k t w' h (setB_wf hw _ _) (by rw [setB_len]; exact hc) (by rw [setB_len]; exact hk) (setB_back hw hk ht))
    have G2 := Lib.hid (fun k t (hk : k < 64 * xs.length) w' x (h : URow w' x (setB xs k t)) => show Calls _ _ _ _ (fun e w2 => e = .returned (.tuple #[.bool t, .int .i64 0]) ∧ Below w'.heap.size w' w2) from
      (get_ok x _ k w' h (setB_wf hw _ _) (by rw [setB_len]; exact hc) (by rw [setB_len]; exact hk)).mono (by rintro e w2 ⟨rfl, hb⟩; exact ⟨by rw [setB_bit _ _ _ hk, if_pos rfl], hb⟩))
    obtain ⟨zl, hzl⟩ : ∃ zl, zl = (onesZ xs (64 * n)).length := ⟨_, rfl⟩
    have hzc : zl = ((List.range (64 * n)).filter (rbit xs)).length := by rw [hzl]; unfold onesZ; rw [List.length_map]
    have CU := Lib.hid (fun k (hk : k < 64 * xs.length) (ht : rbit xs k = false) w' x (h : URow w' x (setB xs k true)) => count_ok (n := n) (c := zl + 1) x w' h (setB_wf hw _ _) (by rw [setB_len]; exact hc) (by rw [setB_len]; exact hn) (by
      unfold cnt
      rw [List.filter_congr (fun j _ => setB_bit xs k true hk j), cnt_up _ _ _ ht, if_pos (by omega), hzc]))
    have CD := Lib.hid (fun k (hk : k < 64 * xs.length) (ht : rbit xs k = true) w' x (h : URow w' x (setB xs k false)) => count_ok (n := n) (c := zl - 1) x w' h (setB_wf hw _ _) (by rw [setB_len]; exact hc) (by rw [setB_len]; exact hn) (by
      unfold cnt
      rw [List.filter_congr (fun j _ => setB_bit xs k false hk j)]
      have := cnt_down (rbit xs) k (64 * n) ht
      rw [if_pos (by omega)] at this
      omega))
    have ZP := Lib.hid (fun k (hk : k < 64 * xs.length) (ht : rbit xs k = true) => show 0 < zl by
      have := cnt_down (rbit xs) k (64 * n) ht
      rw [if_pos (by omega)] at this
      omega)
    have OF2 := Lib.hid (fun w' (h : Below w.heap.size w w') => of_any n _ zs w' (hu.below h) (by omega))
    have hzl5 : zl ≤ 512 := by rw [hzl]; have := onesZ_le xs (64 * n); omega
    have HZL := Lib.hid hzl
    have HM := Lib.hid hm
    have HCN := Lib.hid hcn
    have O2 := Lib.hid (fun w' y (h : URow w' y (mkRow n (inL zs))) => show Calls _ _ _ _ (fun e w2 => ∃ r, e = .returned (.tuple #[r, .int .i64 0]) ∧ IRow w2 r (onesZ (mkRow n (inL zs)) (64 * n)) ∧ Below w'.heap.size w' w2) from
      (ones_any _ _ w' h (mkRow_wf _ _)).mono (by rintro e w2 ⟨r, rfl, hr, hb⟩; exact ⟨r, by rw [mkRow_len, hcn], by unfold onesR at hr; rw [mkRow_len, if_pos hcn] at hr; exact hr, hb⟩))
    have OFR := Lib.hid (show ofE n zs = 0 → ofR n zs = mkRow n (inL zs) from fun h => by unfold ofR; rw [if_pos h, Int.toNat_natCast])
    have hm100 : m ≤ 100 := by omega
    rw [hn] at GA
    have hn8 : n ≤ 8 := by omega
    clear h20 h100 hzc hofo hm hw hc hzl hn hv hu
    go_enter Try.func8, Try.ntmps8
    go_wp2_with (first
      | (go_at_call 10; refine FA.out.mono ?_; rintro e w1 ⟨rfl, rfl⟩)
      | (go_at_call 21; (with_reducible refine (O1.out _ hb).mono ?_); rintro e w1 ⟨a1, rfl, r1, hb2⟩; have hb := hb.trans (hb2.mono hb.size))
      | (go_at_call 24; (with_reducible refine (OF1.out _ _ r1).mono ?_); rintro e w1 ⟨a2, rfl, r2, hb2⟩; have hb := hb.trans (hb2.mono hb.size); (try have r1 := r1.below hb2))
      | (go_at_call 18; refine (SA.out _ _ _ r2 (HVB.out _ hb)).mono ?_; rintro e w1 ⟨rfl, hb2⟩; have hb := hb.trans (hb2.mono hb.size); (try have r1 := r1.below hb2)))
    obtain ⟨pa, ca, ea, _, _⟩ := id r1
    rw [← HZL.out] at ea
    subst ea
    go_loopw [11] (fun i wr => ∃ k : Nat, 1 ≤ k ∧ k ≤ zl + 1 ∧ i = .int .i64 k ∧ IRow wr (.slice pa zl ca) (onesZ xs (64 * n)) ∧ Below w.heap.size w wr) (fun i _ => zl + 1 - (intOf i).toNat)
    case atStart => exact ⟨1, by omega, by omega, rfl, r1, hb⟩
    case round =>
      clear r1 hb
      obtain ⟨k, hk1, hk2, rfl, r1, hb⟩ := hrel
      by_cases hlt : k < zl
      · have hltb : decide ((k : Int) < (zl : Int)) = true := decide_eq_true (by omega)
        obtain ⟨j, rfl⟩ : ∃ j, k = j + 1 := ⟨k - 1, by omega⟩
        obtain ⟨x, hx⟩ : ∃ x, (onesZ xs (64 * n))[j]? = some x := ⟨_, List.getElem?_eq_getElem (by rw [← HZL.out]; omega)⟩
        obtain ⟨y, hy⟩ : ∃ y, (onesZ xs (64 * n))[j + 1]? = some y := ⟨_, List.getElem?_eq_getElem (by rw [← HZL.out]; omega)⟩
        have hxy : decide (y ≤ x) = false := decide_eq_false (by have := SRT.out j x y hx hy; omega)
        obtain ⟨b, o, rfl, cx⟩ := irow_get r1 hx
        obtain ⟨b', o', e, cy⟩ := irow_get r1 hy
        cases e
        have hj1 : ((j + 1 : Nat) : Int) - 1 = (j : Int) := by omega
        have R1 := Lib.hid r1
        have q0 : (0 : Int) ≤ (j : Int) := by omega
        have q1 : (j : Int) < (zl : Int) := by omega
        have q2 : (0 : Int) ≤ ((j + 1 : Nat) : Int) := by omega
        have q3 : ((j + 1 : Nat) : Int) < (zl : Int) := by omega
        have q4 : IntKind.i64.wrap (((j + 1 : Nat) : Int) - 1) = (j : Int) := by rw [hj1]; exact IntWalk.i64_in _ (by omega)
        clear hx hy r1
        go_wp2
        go_quiet (fail)
        go_wp2
        go_roundw
        case rel => exact ⟨j + 2, by omega, by omega, by go_num, R1.out.below (below_drewN _ _), hb.trans ((below_drewN _ _).mono hb.size)⟩
        case measure => simp [intOf]; omega
      · have hltb : decide ((k : Int) < (zl : Int)) = false := decide_eq_false (by omega)
        clear hk1 hk2 r1
        by_cases hoe : ofE n zs = 0
        · have hoe1 : (ofE n zs == 0) = true := by simp [hoe]
          have OF3 := Lib.hid (OF2.out _ hb)
          rw [OFR.out hoe, hoe] at OF3
          clear hoe hoe1
          go_wp2_with (first
            | (go_at_call 24; (with_reducible refine OF3.out.mono ?_); rintro e w1 ⟨a3, rfl, r3, hb2⟩; have hb := hb.trans (hb2.mono hb.size))
            | (go_at_call 21; (with_reducible refine (O2.out _ _ r3).mono ?_); rintro e w1 ⟨a4, rfl, r4, hb2⟩; have hb := hb.trans (hb2.mono hb.size); (try have r3 := r3.below hb2)))
          obtain ⟨p4, c4, e4, _, _⟩ := id r4
          obtain ⟨l4, hl4⟩ : ∃ l4, l4 = (onesZ (mkRow n (inL zs)) (64 * n)).length := ⟨_, rfl⟩
          rw [← hl4] at e4
          subst e4
          have hl45 : l4 ≤ 512 := by rw [hl4]; have := onesZ_le (mkRow n (inL zs)) (64 * n); omega
          have HL4 := Lib.hid hl4
          have R4 := Lib.hid r4
          have RU := Lib.hid (HUB.out _ hb)
          clear r3 r4 hl4
          go_loop [15, 16, 17, 18, 19] (fun q _ _ _ _ => ∃ k : Nat, k ≤ 64 * n ∧ q = .int .i64 k) (fun q _ _ _ _ => 64 * n - (intOf q).toNat)
          case atStart => exact ⟨0, by omega, rfl⟩
          case round =>
            obtain ⟨k, hk, rfl⟩ := hrel
            by_cases hlt : k < 64 * n
            · have hltb : decide ((k : Int) < 64 * (n : Int)) = true := decide_eq_true (by omega)
              have ME := Lib.hid (memB_eq (zs := zs) hlt HM.out HL4.out)
              go_wp2
              go_loop [16, 18] (fun b q => ∃ j : Nat, j ≤ m ∧ q = .int .i64 j ∧ b = .bool (memB zs k j)) (fun _ q => m - (intOf q).toNat)
              case atStart => exact ⟨0, by omega, rfl, by rw [memB_zero]⟩
              case round =>
                obtain ⟨j, hj, rfl, rfl⟩ := hrel
                by_cases hjm : j < m
                · have hjb : decide ((j : Int) < (m : Int)) = true := decide_eq_true (by omega)
                  obtain ⟨z, hz⟩ : ∃ z, zs[j]? = some z := ⟨_, List.getElem?_eq_getElem (by rw [← HM.out]; exact hjm)⟩
                  obtain ⟨b, o, rfl, cz⟩ := irow_get RU.out hz
                  have MS := Lib.hid (memB_succ (k := k) hz)
                  generalize memB zs k j = bv at *
                  clear hz
                  cases bv
                  · go_wp2
                    go_round
                    case rel => exact ⟨j + 1, by omega, by go_num, by rw [MS.out]; simp⟩
                    case measure => simp [intOf]; omega
                  · go_wp2
                    go_round
                    case rel => exact ⟨j + 1, by omega, by go_num, by rw [MS.out]; simp⟩
                    case measure => simp [intOf]; omega
                · obtain rfl : j = m := by omega
                  have hjb : decide ((j : Int) < (j : Int)) = false := decide_eq_false (by omega)
                  rw [← ME.out]
                  go_wp2
                  go_loop [17, 19] (fun b q => ∃ j : Nat, j ≤ l4 ∧ q = .int .i64 j ∧ b = .bool (memB (onesZ (mkRow n (inL zs)) (64 * n)) k j)) (fun _ q => l4 - (intOf q).toNat)
                  case atStart => exact ⟨0, by omega, rfl, by rw [memB_zero]⟩
                  case round =>
                    obtain ⟨i4, hi4, rfl, rfl⟩ := hrel
                    by_cases hil : i4 < l4
                    · have hib : decide ((i4 : Int) < (l4 : Int)) = true := decide_eq_true (by omega)
                      obtain ⟨z, hz⟩ : ∃ z, (onesZ (mkRow n (inL zs)) (64 * n))[i4]? = some z := ⟨_, List.getElem?_eq_getElem (by rw [← HL4.out]; exact hil)⟩
                      obtain ⟨b, o, rfl, cz⟩ := irow_get R4.out hz
                      have MS := Lib.hid (memB_succ (k := k) hz)
                      generalize hbv : memB (onesZ (mkRow n (inL zs)) (64 * n)) k i4 = bv at *
                      clear hz hbv
                      cases bv
                      · go_wp2
                        go_round
                        case rel => exact ⟨i4 + 1, by omega, by go_num, by rw [MS.out]; simp⟩
                        case measure => simp [intOf]; omega
                      · go_wp2
                        go_round
                        case rel => exact ⟨i4 + 1, by omega, by go_num, by rw [MS.out]; simp⟩
                        case measure => simp [intOf]; omega
                    · obtain rfl : i4 = l4 := by omega
                      have hib : decide ((i4 : Int) < (i4 : Int)) = false := decide_eq_false (by omega)
                      generalize memB (onesZ (mkRow n (inL zs)) (64 * n)) k i4 = bv at *
                      have hbv : (!bv == bv) = false := by cases bv <;> rfl
                      go_wp2
                      go_round
                      case rel => exact ⟨k + 1, by omega, by go_num⟩
                      case measure => simp [intOf]; omega
            · obtain rfl : k = 64 * n := by omega
              have hltb : decide (((64 * n : Nat) : Int) < 64 * (n : Int)) = false := decide_eq_false (by omega)
              clear hk hlt
              by_cases hge : getE xs.length i = 0
              · obtain ⟨kk, rfl, hkk⟩ : ∃ k : Nat, i = k ∧ k < 64 * n := by
                  have := HI.out hge; rwa [HN.out] at this
                have T1 := Lib.hid (GG.out kk (by rw [HN.out]; exact hkk))
                rcases hwas : rbit xs kk with _ | _
                · have T2 := Lib.hid (S1.out kk true (by rw [HN.out]; exact hkk))
                  have T3 := Lib.hid (S2.out kk true false (by rw [HN.out]; exact hkk) hwas)
                  have T4 := Lib.hid (CU.out kk (by rw [HN.out]; exact hkk) hwas)
                  have T5 := Lib.hid (G2.out kk true (by rw [HN.out]; exact hkk))
                  have hq : (((zl + 1 : Nat) : Int) == (zl : Int) + 1) = true := by rw [beq_iff_eq]; omega
                  rw [hwas] at T1
                  clear hge hkk hwas
                  go_wp2_with (first
                    | fail
                    | (go_at_call 12; first
                      | ((with_reducible refine (T1.out _ hb).mono ?_); rintro e w1 ⟨rfl, hb2⟩; have hb := hb.trans (hb2.mono hb.size); (try have rx := rx.below hb2); (try have ry := ry.below hb2))
                      | ((with_reducible refine (T5.out _ _ rx).mono ?_); rintro e w1 ⟨rfl, hb2⟩; have hb := hb.trans (hb2.mono hb.size); (try have rx := rx.below hb2); (try have ry := ry.below hb2)))
                    | (go_at_call 16; first
                      | ((with_reducible refine (T2.out _ hb).mono ?_); rintro e w1 ⟨x, rfl, rx, hb2⟩; have hb := hb.trans (hb2.mono hb.size); (try have ry := ry.below hb2))
                      | ((with_reducible refine (T3.out _ _ rx).mono ?_); rintro e w1 ⟨y, rfl, ry, hb2⟩; have hb := hb.trans (hb2.mono hb.size); (try have rx := rx.below hb2)))
                    | (go_at_call 19; refine (T4.out _ _ rx).mono ?_; rintro e w1 ⟨rfl, hb2⟩; have hb := hb.trans (hb2.mono hb.size); (try have rx := rx.below hb2); (try have ry := ry.below hb2))
                    | (go_at_call 18; refine (SA.out _ _ _ ry (HVB.out _ hb)).mono ?_; rintro e w1 ⟨rfl, hb2⟩; have hb := hb.trans (hb2.mono hb.size))
                    | (go_at_call 11; refine (AW.out _).mono ?_; rintro e w6 ⟨rfl, hb2⟩; have hb := hb.trans (hb2.mono hb.size)))
                  go_ret
                  exact ⟨rfl, hb⟩
                · have T2 := Lib.hid (S1.out kk false (by rw [HN.out]; exact hkk))
                  have T3 := Lib.hid (S2.out kk false true (by rw [HN.out]; exact hkk) hwas)
                  have T4 := Lib.hid (CD.out kk (by rw [HN.out]; exact hkk) hwas)
                  have T5 := Lib.hid (G2.out kk false (by rw [HN.out]; exact hkk))
                  have hz1 := Lib.hid (ZP.out kk (by rw [HN.out]; exact hkk) hwas)
                  have hq : (((zl - 1 : Nat) : Int) == (zl : Int) + -1) = true := by rw [beq_iff_eq]; have := hz1.out; omega
                  have hq' : ((zl - 1 : Nat) : Int) = (zl : Int) - 1 := by have := hz1.out; omega
                  rw [hq'] at T4
                  rw [hwas] at T1
                  clear hge hkk hwas hq hq'
                  have hq : ((zl : Int) - 1 == (zl : Int) + -1) = true := by rw [beq_iff_eq]; omega
                  go_wp2_with (first
                    | fail
                    | (go_at_call 12; first
                      | ((with_reducible refine (T1.out _ hb).mono ?_); rintro e w1 ⟨rfl, hb2⟩; have hb := hb.trans (hb2.mono hb.size); (try have rx := rx.below hb2); (try have ry := ry.below hb2))
                      | ((with_reducible refine (T5.out _ _ rx).mono ?_); rintro e w1 ⟨rfl, hb2⟩; have hb := hb.trans (hb2.mono hb.size); (try have rx := rx.below hb2); (try have ry := ry.below hb2)))
                    | (go_at_call 16; first
                      | ((with_reducible refine (T2.out _ hb).mono ?_); rintro e w1 ⟨x, rfl, rx, hb2⟩; have hb := hb.trans (hb2.mono hb.size); (try have ry := ry.below hb2))
                      | ((with_reducible refine (T3.out _ _ rx).mono ?_); rintro e w1 ⟨y, rfl, ry, hb2⟩; have hb := hb.trans (hb2.mono hb.size); (try have rx := rx.below hb2)))
                    | (go_at_call 19; refine (T4.out _ _ rx).mono ?_; rintro e w1 ⟨rfl, hb2⟩; have hb := hb.trans (hb2.mono hb.size); (try have rx := rx.below hb2); (try have ry := ry.below hb2))
                    | (go_at_call 18; refine (SA.out _ _ _ ry (HVB.out _ hb)).mono ?_; rintro e w1 ⟨rfl, hb2⟩; have hb := hb.trans (hb2.mono hb.size))
                    | (go_at_call 11; refine (AW.out _).mono ?_; rintro e w6 ⟨rfl, hb2⟩; have hb := hb.trans (hb2.mono hb.size)))
                  go_ret
                  exact ⟨rfl, hb⟩
              · have hgne : (getE xs.length i != 0) = true := by simp [hge]
                rw [HN.out] at hgne
                clear hge
                go_wp2_with (first
                  | fail
                  | (go_at_call 12; refine (GA.out _ hb).mono ?_; rintro e w1 ⟨rfl, hb2⟩; have hb := hb.trans (hb2.mono hb.size))
                  | (go_at_call 11; refine (AW.out _).mono ?_; rintro e w6 ⟨rfl, hb2⟩; have hb := hb.trans (hb2.mono hb.size)))
                go_ret
                exact ⟨rfl, hb⟩
        · have hoe1 : (ofE n zs == 0) = false := by simp [hoe]
          have OF3 := Lib.hid (OF2.out _ hb)
          clear hoe
          have CX := Lib.hid (fun w1 e (h : RowPost wr (ofR n zs) (ofE n zs) e w1) => show ∃ a3, e = .returned (.tuple #[a3, .int .i64 (ofE n zs)]) ∧ Below wr.heap.size wr w1 from by obtain ⟨a3, he, _, hb2⟩ := h; exact ⟨a3, he, hb2⟩)
          generalize ofE (n : Int) zs = E at *
          by_cases hge : getE xs.length i = 0
          · obtain ⟨kk, rfl, hkk⟩ : ∃ k : Nat, i = k ∧ k < 64 * n := by
              have := HI.out hge; rwa [HN.out] at this
            have T1 := Lib.hid (GG.out kk (by rw [HN.out]; exact hkk))
            rcases hwas : rbit xs kk with _ | _
            · have T2 := Lib.hid (S1.out kk true (by rw [HN.out]; exact hkk))
              have T3 := Lib.hid (S2.out kk true false (by rw [HN.out]; exact hkk) hwas)
              have T4 := Lib.hid (CU.out kk (by rw [HN.out]; exact hkk) hwas)
              have T5 := Lib.hid (G2.out kk true (by rw [HN.out]; exact hkk))
              have hq : (((zl + 1 : Nat) : Int) == (zl : Int) + 1) = true := by rw [beq_iff_eq]; omega
              rw [hwas] at T1
              clear hge hkk hwas
              go_wp2_with (first
                | (go_at_call 24; (with_reducible refine OF3.out.mono ?_); intro e w1 hh; obtain ⟨a3, rfl, hb2⟩ := CX.out _ _ hh; clear hh; have hb := hb.trans (hb2.mono hb.size); clear OF3)
                | (go_at_call 12; first
                  | ((with_reducible refine (T1.out _ hb).mono ?_); rintro e w1 ⟨rfl, hb2⟩; have hb := hb.trans (hb2.mono hb.size); (try have rx := rx.below hb2); (try have ry := ry.below hb2))
                  | ((with_reducible refine (T5.out _ _ rx).mono ?_); rintro e w1 ⟨rfl, hb2⟩; have hb := hb.trans (hb2.mono hb.size); (try have rx := rx.below hb2); (try have ry := ry.below hb2)))
                | (go_at_call 16; first
                  | ((with_reducible refine (T2.out _ hb).mono ?_); rintro e w1 ⟨x, rfl, rx, hb2⟩; have hb := hb.trans (hb2.mono hb.size); (try have ry := ry.below hb2))
                  | ((with_reducible refine (T3.out _ _ rx).mono ?_); rintro e w1 ⟨y, rfl, ry, hb2⟩; have hb := hb.trans (hb2.mono hb.size); (try have rx := rx.below hb2)))
                | (go_at_call 19; refine (T4.out _ _ rx).mono ?_; rintro e w1 ⟨rfl, hb2⟩; have hb := hb.trans (hb2.mono hb.size); (try have rx := rx.below hb2); (try have ry := ry.below hb2))
                | (go_at_call 18; refine (SA.out _ _ _ ry (HVB.out _ hb)).mono ?_; rintro e w1 ⟨rfl, hb2⟩; have hb := hb.trans (hb2.mono hb.size))
                | (go_at_call 11; refine (AW.out _).mono ?_; rintro e w6 ⟨rfl, hb2⟩; have hb := hb.trans (hb2.mono hb.size)))
              go_ret
              exact ⟨rfl, hb⟩
            · have T2 := Lib.hid (S1.out kk false (by rw [HN.out]; exact hkk))
              have T3 := Lib.hid (S2.out kk false true (by rw [HN.out]; exact hkk) hwas)
              have T4 := Lib.hid (CD.out kk (by rw [HN.out]; exact hkk) hwas)
              have T5 := Lib.hid (G2.out kk false (by rw [HN.out]; exact hkk))
              have hz1 := Lib.hid (ZP.out kk (by rw [HN.out]; exact hkk) hwas)
              have hq : (((zl - 1 : Nat) : Int) == (zl : Int) + -1) = true := by rw [beq_iff_eq]; have := hz1.out; omega
              have hq' : ((zl - 1 : Nat) : Int) = (zl : Int) - 1 := by have := hz1.out; omega
              rw [hq'] at T4
              rw [hwas] at T1
              clear hge hkk hwas hq hq'
              have hq : ((zl : Int) - 1 == (zl : Int) + -1) = true := by rw [beq_iff_eq]; omega
              go_wp2_with (first
                | (go_at_call 24; (with_reducible refine OF3.out.mono ?_); intro e w1 hh; obtain ⟨a3, rfl, hb2⟩ := CX.out _ _ hh; clear hh; have hb := hb.trans (hb2.mono hb.size); clear OF3)
                | (go_at_call 12; first
                  | ((with_reducible refine (T1.out _ hb).mono ?_); rintro e w1 ⟨rfl, hb2⟩; have hb := hb.trans (hb2.mono hb.size); (try have rx := rx.below hb2); (try have ry := ry.below hb2))
                  | ((with_reducible refine (T5.out _ _ rx).mono ?_); rintro e w1 ⟨rfl, hb2⟩; have hb := hb.trans (hb2.mono hb.size); (try have rx := rx.below hb2); (try have ry := ry.below hb2)))
                | (go_at_call 16; first
                  | ((with_reducible refine (T2.out _ hb).mono ?_); rintro e w1 ⟨x, rfl, rx, hb2⟩; have hb := hb.trans (hb2.mono hb.size); (try have ry := ry.below hb2))
                  | ((with_reducible refine (T3.out _ _ rx).mono ?_); rintro e w1 ⟨y, rfl, ry, hb2⟩; have hb := hb.trans (hb2.mono hb.size); (try have rx := rx.below hb2)))
                | (go_at_call 19; refine (T4.out _ _ rx).mono ?_; rintro e w1 ⟨rfl, hb2⟩; have hb := hb.trans (hb2.mono hb.size); (try have rx := rx.below hb2); (try have ry := ry.below hb2))
                | (go_at_call 18; refine (SA.out _ _ _ ry (HVB.out _ hb)).mono ?_; rintro e w1 ⟨rfl, hb2⟩; have hb := hb.trans (hb2.mono hb.size))
                | (go_at_call 11; refine (AW.out _).mono ?_; rintro e w6 ⟨rfl, hb2⟩; have hb := hb.trans (hb2.mono hb.size)))
              go_ret
              exact ⟨rfl, hb⟩
          · have hgne : (getE xs.length i != 0) = true := by simp [hge]
            rw [HN.out] at hgne
            clear hge
            go_wp2_with (first
              | (go_at_call 24; (with_reducible refine OF3.out.mono ?_); intro e w1 hh; obtain ⟨a3, rfl, hb2⟩ := CX.out _ _ hh; clear hh; have hb := hb.trans (hb2.mono hb.size); clear OF3)
              | (go_at_call 12; refine (GA.out _ hb).mono ?_; rintro e w1 ⟨rfl, hb2⟩; have hb := hb.trans (hb2.mono hb.size))
              | (go_at_call 11; refine (AW.out _).mono ?_; rintro e w6 ⟨rfl, hb2⟩; have hb := hb.trans (hb2.mono hb.size)))
            go_ret
            exact ⟨rfl, hb⟩
  · have O1 := Lib.hid (ones_any v xs w hv hw)
    have hne : (chk xs.length != 0) = true := by simp [hc]
    obtain ⟨p, c, rfl, _, _⟩ := hu
    clear h20 h100 hc
    go_enter Try.func8, Try.ntmps8
    go_wp2_with (first
      | (go_at_call 10; refine FA.out.mono ?_; rintro e w1 ⟨rfl, rfl⟩)
      | (go_at_call 21; refine O1.out.mono ?_; rintro e w1 ⟨a1, rfl, r1, hb2⟩; have hb := hb.trans (hb2.mono hb.size))
      | (go_at_call 11; refine (AW.out _).mono ?_; rintro e w2 ⟨rfl, hb2⟩; have hb := hb.trans (hb2.mono hb.size)))
    go_ret
    exact ⟨rfl, hb⟩
end Go.Proofs.Ytnegnmjjibhldaa
