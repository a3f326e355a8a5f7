/- CompareRows. -/
import Derived.Test.YtalnhbjpfnodiaaYu
namespace Go.Proofs.Ytalnhbjpfnodiaa
open Go.RowKit
theorem URow.cut {W : World} {q : Option Addr} {L n c : Nat} {xs : List Nat} (h : URow W (.slice q L c) xs) (hn : n ≤ xs.length) : URow W (.slice q n c) (xs.take n) ∧ xs.length ≤ c := by
  obtain ⟨q', c', e, hc, hx⟩ := h
  cases e
  refine ⟨⟨q, c, by rw [List.length_take, Nat.min_eq_left hn], by rw [List.length_take]; omega, fun i x hi => ?_⟩, hc⟩
  rw [List.getElem?_take] at hi
  split at hi
  · exact hx i x hi
  · cases hi
def RowP (w : World) (e : Ending) (w' : World) : Prop := e = .returned (.bool true) ∧ Below w.heap.size w w'
set_option maxRecDepth 100000 in
set_option maxHeartbeats 8000000 in
theorem rows_any8 (va vb : Value) (xs ys : List Nat) (w : World) (ha : URow w va xs) (hb : URow w vb ys) (hwa : Wf xs) (hwb : Wf ys) : Calls Try.prog 6 #[va, vb] w (RowP w) := by
  have AW := Lib.hid awake_any
  have HA := Lib.hid ha
  have HB := Lib.hid hb
  obtain ⟨q1, c1, rfl, _⟩ := ha
  obtain ⟨q2, c2, rfl, _⟩ := hb
  obtain ⟨n, hn⟩ : ∃ n, n = min xs.length ys.length := ⟨_, rfl⟩
  obtain ⟨la, hla⟩ : ∃ l, l = xs.length := ⟨_, rfl⟩
  obtain ⟨lb, hlb⟩ : ∃ l, l = ys.length := ⟨_, rfl⟩
  obtain ⟨cutx, hcx⟩ := HA.out.cut (n := n) (by omega)
  obtain ⟨cuty, hcy⟩ := HB.out.cut (n := n) (by omega)
  rw [← hla, ← hlb] at hn
  rw [← hla] at HA hcx ⊢
  rw [← hlb] at HB hcy ⊢
  have e1 : (if (lb : Int) < (la : Int) then (lb : Int) else (la : Int)) = (n : Int) := by split <;> omega
  have e1n : (if lb < la then (lb : Int) else (la : Int)) = (n : Int) := by split <;> omega
  by_cases h1 : n < 1
  · have t1 : decide ((n : Int) < 1) = true := decide_eq_true (by omega)
    have t1n : decide (n < 1) = true := decide_eq_true h1
    clear hwa hwb cutx cuty hcx hcy hn hla hlb h1
    go_enter Try.func6, Try.ntmps6
    go_wp2_with (first
      | (go_at_call 21; (with_reducible refine (AW.out _).mono ?_); rintro e w13 ⟨rfl, hb13⟩))
    go_ret
    exact ⟨rfl, hb13⟩
  have t1 : decide ((n : Int) < 1) = false := decide_eq_false (by omega)
  have t1n : decide (n < 1) = false := decide_eq_false h1
  by_cases h2 : 64 < n
  · have t2 : decide ((64 : Int) < (n : Int)) = true := decide_eq_true (by omega)
    have t2' : decide ((n : Int) > 64) = true := decide_eq_true (by omega)
    have t2n : decide (64 < n) = true := decide_eq_true h2
    clear hwa hwb cutx cuty hcx hcy hn hla hlb h1 h2
    go_enter Try.func6, Try.ntmps6
    go_wp2_with (first
      | (go_at_call 21; (with_reducible refine (AW.out _).mono ?_); rintro e w13 ⟨rfl, hb13⟩))
    go_ret
    exact ⟨rfl, hb13⟩
  have t2 : decide ((64 : Int) < (n : Int)) = false := decide_eq_false (by omega)
  have t2' : decide ((n : Int) > 64) = false := decide_eq_false (by omega)
  have t2n : decide (64 < n) = false := decide_eq_false h2
  have hlx : n = (xs.take n).length := by rw [List.length_take]; omega
  have hly : n = (ys.take n).length := by rw [List.length_take]; omega
  have hnc1 : (n : Int) ≤ (c1 : Int) := by omega
  have hnc2 : (n : Int) ≤ (c2 : Int) := by omega
  obtain ⟨v1, w1, v2, w2, r1, r2, hr2, hb2⟩ := run_two w.drew q1 q2 c1 c2 n _ _ hlx hly (cutx.below (Below.refl _ w).drew) (cuty.below (Below.refl _ w).drew) (by omega) (by omega)
  have hwt : Wf (xs.take n ++ ys.take n) := fun v hv => by
    rcases List.mem_append.1 hv with h | h
    · exact hwa v (List.mem_of_mem_take h)
    · exact hwb v (List.mem_of_mem_take h)
  have AR := Lib.hid (arena_any v2 (xs.take n ++ ys.take n) w2 hr2 hwt (by simp; omega))
  unfold ArenaP at AR
  obtain ⟨hC, hT, _, _⟩ := two_cells hlx hly (by omega)
  obtain ⟨hO1, hO2⟩ := two_ords hlx hly (by omega)
  have hgx : ∀ i, i < n → (xs.take n).getD i 0 = xs.getD i 0 := fun i hi => by rw [List.getD_eq_getElem?_getD, List.getD_eq_getElem?_getD, List.getElem?_take, if_pos hi]
  have hgy : ∀ i, i < n → (ys.take n).getD i 0 = ys.getD i 0 := fun i hi => by rw [List.getD_eq_getElem?_getD, List.getD_eq_getElem?_getD, List.getElem?_take, if_pos hi]
  rw [ordS_congr hgx hgy n (Nat.le_refl _)] at hO1 hO2
  obtain ⟨C, hCC⟩ : ∃ C, C = arC (xs.take n ++ ys.take n) := ⟨_, rfl⟩
  obtain ⟨T, hTT⟩ : ∃ T, T = arT (xs.take n ++ ys.take n) := ⟨_, rfl⟩
  simp only [← hCC, ← hTT] at AR hC hT hO1 hO2
  obtain ⟨u, hu⟩ : ∃ u : Nat → Nat, u = fun i => xs.getD i 0 := ⟨_, rfl⟩
  obtain ⟨v, hv⟩ : ∃ v : Nat → Nat, v = fun i => ys.getD i 0 := ⟨_, rfl⟩
  rw [← hu, ← hv] at hO1 hO2
  obtain ⟨o, ho⟩ : ∃ o, o = ordS u v n := ⟨_, rfl⟩
  rw [← ho] at hO1 hO2
  have ho2 : o ≤ 2 := by rw [ho]; exact ordS_le u v n
  have L1 := Lib.hid (fun (w0 W : World) (pa pb : Nat) (h : Pr w0 W no pa pb C [] T C [] T) => pa_mask h fun F ar => LessRows_any ar (0 : Nat) n n (by unfold i64R; omega) (by unfold i64R; omega))
  have hE1 : cmE C.length T.length ((0 : Nat) : Int) n n = 0 := cmE_good (by omega) (by omega) (by omega) (by omega) (by omega)
  obtain ⟨T1, hT1⟩ : ∃ T1, T1 = T ++ cmT ((0 : Nat) : Int).toNat (n : Int).toNat (n : Int).toNat := ⟨_, rfl⟩
  simp only [hE1, if_true, ← hT1, hO1] at L1
  have hl1 : T1.length = n + n + 2 * n := by rw [hT1, List.length_append, cmT_len, hT]; simp
  have L2 := Lib.hid (fun (w0 W : World) (pa pb : Nat) (h : Pr w0 W no pa pb C [] T1 C [] T) => pa_mask h fun F ar => LessRows_any ar n (0 : Nat) n (by unfold i64R; omega) (by unfold i64R; omega))
  have hE2 : cmE C.length T1.length n ((0 : Nat) : Int) n = 0 := cmE_good (by omega) (by omega) (by omega) (by omega) (by omega)
  obtain ⟨T2, hT2⟩ : ∃ T2, T2 = T1 ++ cmT (n : Int).toNat ((0 : Nat) : Int).toNat (n : Int).toNat := ⟨_, rfl⟩
  simp only [hE2, if_true, ← hT2, hO2] at L2
  have hl2 : T2.length = n + n + 2 * n + 2 * n := by rw [hT2, List.length_append, cmT_len, hl1]; simp
  have L3 := Lib.hid (fun (w0 W : World) (pa pb : Nat) (h : Pr w0 W no pa pb C [] T2 C [] T) => pa_mask h fun F ar => EqualRows_any ar (0 : Nat) n n (by unfold i64R; omega) (by unfold i64R; omega))
  have hE3 : cmE C.length T2.length ((0 : Nat) : Int) n n = 0 := cmE_good (by omega) (by omega) (by omega) (by omega) (by omega)
  obtain ⟨T3, hT3⟩ : ∃ T3, T3 = T2 ++ cmT ((0 : Nat) : Int).toNat (n : Int).toNat (n : Int).toNat := ⟨_, rfl⟩
  simp only [hE3, if_true, ← hT3, hO1] at L3
  unfold mvE2 at L1 L2 L3
  simp only [if_true] at L1 L2 L3
  obtain ⟨m1, hm1⟩ : ∃ m, m = ltO o := ⟨_, rfl⟩
  obtain ⟨m2, hm2⟩ : ∃ m, m = ltO (swO o) := ⟨_, rfl⟩
  obtain ⟨m3, hm3⟩ : ∃ m, m = eqO o := ⟨_, rfl⟩
  simp only [← hm1] at L1
  simp only [← hm2] at L2
  simp only [← hm3] at L3
  simp only [show ((0 : Nat) : Int) = 0 from rfl] at L1 L2 L3
  have R1 := Lib.hid (show (Builtin.append_ #[27, 27] 27 #[.slice (some ⟨w.heap.size, 0, none⟩) 0 0, .slice q1 n c1]).run Try.prog ((w.alloc (.cells #[] 22)).drew) = .ok v1 w1 from r1)
  have R2 := Lib.hid r2
  have HB2 := Lib.hid (show Below w.heap.size w w2 from ((Below.refl _ w).drew).trans hb2)
  have HU := Lib.hid hu
  have HV := Lib.hid hv
  have HO := Lib.hid ho
  have HN := Lib.hid (show n ≤ xs.length ∧ n ≤ ys.length ∧ n ≤ 64 by omega)
  obtain ⟨g1, g2, g3⟩ := ltO_val ho2
  rw [← hm1] at g1
  rw [← hm2] at g2
  rw [← hm3] at g3
  obtain ⟨z, hz⟩ : ∃ z, z = valO o := ⟨_, rfl⟩
  have HZ := Lib.hid hz
  rw [← hz] at g1 g2 g3
  obtain ⟨y1, hy1⟩ : ∃ y, decide (z < 0) = y := ⟨_, rfl⟩
  obtain ⟨y2, hy2⟩ : ∃ y, decide (z > 0) = y := ⟨_, rfl⟩
  have hy2' : decide (0 < z) = y2 := hy2
  obtain ⟨y3, hy3⟩ : ∃ y, (z == 0) = y := ⟨_, rfl⟩
  rw [hy1] at g1
  rw [hy2] at g2
  rw [hy3] at g3
  have K1 := Lib.hid (fun w => rmask_any y1 w)
  have K2 := Lib.hid (fun w => rmask_any y2 w)
  have K3 := Lib.hid (fun w => rmask_any y3 w)
  rw [g1] at K1
  rw [g2] at K2
  rw [g3] at K3
  clear hwa hwb cutx cuty hcx hcy hla hlb hn h1 h2 hlx hly r1 r2 hr2 hb2 hwt hgx hgy hCC hTT hC hT hu hv hO1 hO2 ho ho2 hE1 hE2 hE3 hT1 hT2 hT3 hl1 hl2 hm1 hm2 hm3 g1 g2 g3 hz
  go_enter Try.func6, Try.ntmps6
  go_wp2
  go_region_law (first
    | (refine step_append_run _ rfl _ _ 27 27 rfl _ _ rfl rfl R1.out ?_)
    | (refine step_append_run _ rfl _ _ 27 27 rfl _ _ rfl rfl R2.out ?_)
    | (go_simp; go_at_call 22; (with_reducible refine (AR.out).mono ?_); rintro e w3 ⟨pa, pb, rfl, hp⟩; have P3 := Lib.hid hp; clear hp))
  clear R1 R2 AR e1 e1n t1 t1n t2 t2' t2n hnc1 hnc2
  go_wp2_with (first
    | (go_at_call 25; (with_reducible refine (L1.out _ _ _ _ P3.out).mono ?_); rintro e w4 ⟨rfl, hp, _⟩; have P4 := Lib.hid hp; clear hp)
    | (go_at_call 25; (with_reducible refine (L2.out _ _ _ _ P4.out).mono ?_); rintro e w5 ⟨rfl, hp, _⟩; have P5 := Lib.hid hp; clear hp)
    | (go_at_call 26; (with_reducible refine (L3.out _ _ _ _ P5.out).mono ?_); rintro e w6 ⟨rfl, hp, _⟩; have P6 := Lib.hid hp; clear hp))
  have B6 := Lib.hid (HB2.out.trans (P6.out.bel.mono HB2.out.size))
  clear L1 L2 L3 P3 P4 P5 P6 HB2
  go_loopw [14, 15] (fun q i wr => ∃ k : Nat, k ≤ n ∧ i = .int .i64 (k : Int) ∧ q = .int .i64 (valO (ordS u v k)) ∧ ∃ d, wr = w6.drewN d) (fun _ i _ => n - (intOf i).toNat)
  case atStart => exact ⟨0, Nat.zero_le _, rfl, rfl, 0, rfl⟩
  case round =>
    obtain ⟨k, hk, rfl, rfl, d, rfl⟩ := hrel
    obtain ⟨hn1, hn2, hn64⟩ := HN.out
    obtain ⟨zk, hzk⟩ : ∃ zk, zk = valO (ordS u v k) := ⟨_, rfl⟩
    have hle := ordS_le u v k
    rw [← hzk]
    by_cases hlt : k < n
    · have t1 : decide ((k : Int) < (n : Int)) = true := decide_eq_true (by omega)
      have t1n : decide (k < n) = true := decide_eq_true hlt
      by_cases h0 : ordS u v k = 0
      · have hz0 : zk = 0 := by rw [hzk, h0]; rfl
        subst hz0
        clear hzk
        obtain ⟨q1', c1', ea, _, hxa⟩ := HA.out
        cases ea
        obtain ⟨b1, o1, hq1, hc1⟩ := hxa k (xs.getD k 0) (by rw [List.getD_eq_getElem?_getD, List.getElem?_eq_getElem (by omega)]; rfl)
        obtain ⟨q2', c2', eb, _, hxb⟩ := HB.out
        cases eb
        obtain ⟨b2, o2, hq2, hc2⟩ := hxb k (ys.getD k 0) (by rw [List.getD_eq_getElem?_getD, List.getElem?_eq_getElem (by omega)]; rfl)
        subst hq1
        subst hq2
        have x0 := (B6.out.cell (p := ⟨b1, o1 + k, none⟩) (World.block_lt_of_cell? _ _ hc1)).trans hc1
        have y0 := (B6.out.cell (p := ⟨b2, o2 + k, none⟩) (World.block_lt_of_cell? _ _ hc2)).trans hc2
        have hux : xs.getD k 0 = u k := by rw [HU.out]
        have hvy : ys.getD k 0 = v k := by rw [HV.out]
        rw [hux] at x0
        rw [hvy] at y0
        have i1 : (k : Int) < (xs.length : Int) := by omega
        have i2 : (k : Int) < (ys.length : Int) := by omega
        by_cases h1 : u k < v k
        · have HO := Lib.hid (valO_less h0 h1)
          obtain ⟨uk, huk⟩ : ∃ z, z = u k := ⟨_, rfl⟩
          obtain ⟨vk, hvk⟩ : ∃ z, z = v k := ⟨_, rfl⟩
          have s1 : decide (uk < vk) = true := decide_eq_true (by rw [huk, hvk]; exact h1)
          have s1i : decide ((uk : Int) < (vk : Int)) = true := decide_eq_true (by have := of_decide_eq_true s1; omega)
          have s2 : decide (vk < uk) = false := decide_eq_false (by have := of_decide_eq_true s1; omega)
          have s2i : decide ((vk : Int) < (uk : Int)) = false := decide_eq_false (by have := of_decide_eq_true s1; omega)
          rw [← huk] at x0
          rw [← hvk] at y0
          clear huk hvk h0 h1 hux hvy hc1 hc2 hxa hxb hle hn1 hn2
          go_wp2
          go_quiet (fail)
          go_wp2
          go_quiet (fail)
          go_wp2
          go_roundw
          case rel => exact ⟨k + 1, by omega, by go_num, by rw [HO.out], _, rfl⟩
          case measure => simp [intOf]; omega
        · by_cases h2 : v k < u k
          · have HO := Lib.hid (valO_more h0 h1 h2)
            obtain ⟨uk, huk⟩ : ∃ z, z = u k := ⟨_, rfl⟩
            obtain ⟨vk, hvk⟩ : ∃ z, z = v k := ⟨_, rfl⟩
            have s2 : decide (vk < uk) = true := decide_eq_true (by rw [huk, hvk]; exact h2)
            have s2i : decide ((vk : Int) < (uk : Int)) = true := decide_eq_true (by have := of_decide_eq_true s2; omega)
            have s1 : decide (uk < vk) = false := decide_eq_false (by have := of_decide_eq_true s2; omega)
            have s1i : decide ((uk : Int) < (vk : Int)) = false := decide_eq_false (by have := of_decide_eq_true s2; omega)
            rw [← huk] at x0
            rw [← hvk] at y0
            clear huk hvk h0 h1 h2 hux hvy hc1 hc2 hxa hxb hle hn1 hn2
            go_wp2
            go_quiet (fail)
            go_wp2
            go_quiet (fail)
            go_wp2
            go_roundw
            case rel => exact ⟨k + 1, by omega, by go_num, by rw [HO.out], _, rfl⟩
            case measure => simp [intOf]; omega
          · have HO := Lib.hid (valO_same h0 h1 h2)
            obtain ⟨uk, huk⟩ : ∃ z, z = u k := ⟨_, rfl⟩
            obtain ⟨vk, hvk⟩ : ∃ z, z = v k := ⟨_, rfl⟩
            have s1 : decide (uk < vk) = false := decide_eq_false (by rw [huk, hvk]; exact h1)
            have s1i : decide ((uk : Int) < (vk : Int)) = false := decide_eq_false (by have := of_decide_eq_false s1; omega)
            have s2 : decide (vk < uk) = false := decide_eq_false (by rw [huk, hvk]; exact h2)
            have s2i : decide ((vk : Int) < (uk : Int)) = false := decide_eq_false (by have := of_decide_eq_false s2; omega)
            rw [← huk] at x0
            rw [← hvk] at y0
            clear huk hvk h0 h1 h2 hux hvy hc1 hc2 hxa hxb hle hn1 hn2
            go_wp2
            go_quiet (fail)
            go_wp2
            go_quiet (fail)
            go_wp2
            go_roundw
            case rel => exact ⟨k + 1, by omega, by go_num, by rw [HO.out], _, rfl⟩
            case measure => simp [intOf]; omega
      · have hz0 : zk = z := by
          have := ordS_keep h0 (n - k)
          rw [show k + (n - k) = n by omega, ← HO.out] at this
          rw [hzk, HZ.out, this]
        subst hz0
        have hne : ¬ zk = 0 := by rw [hzk]; exact valO_ne h0
        have hy30 : y3 = false := by rw [← hy3, beq_eq_false_iff_ne]; exact hne
        subst hy30
        clear hzk h0 hne hle hn1 hn2 hn64
        go_wp2_with (first
          | (go_at_call 27; (first | (with_reducible refine (K1.out _).mono ?_) | (with_reducible refine (K2.out _).mono ?_) | (with_reducible refine (K3.out _).mono ?_)); rintro e w' ⟨rfl, rfl⟩)
          | (go_at_call 21; (with_reducible refine (AW.out _).mono ?_); rintro e w13 ⟨rfl, hb13⟩; have B13 := Lib.hid (((below_drewN (Below.refl _ w6) d).trans hb13)); clear hb13))
        go_ret
        exact ⟨rfl, B6.out.trans (B13.out.mono B6.out.size)⟩
    · obtain rfl : k = n := by omega
      have t1 : decide ((k : Int) < (k : Int)) = false := decide_eq_false (by omega)
      have hz0 : zk = z := by rw [hzk, HZ.out, HO.out]
      subst hz0
      clear hzk hle hn1 hn2 hn64
      go_wp2_with (first
        | (go_at_call 27; (first | (with_reducible refine (K1.out _).mono ?_) | (with_reducible refine (K2.out _).mono ?_) | (with_reducible refine (K3.out _).mono ?_)); rintro e w' ⟨rfl, rfl⟩)
        | (go_at_call 21; (with_reducible refine (AW.out _).mono ?_); rintro e w13 ⟨rfl, hb13⟩; have B13 := Lib.hid (((below_drewN (Below.refl _ w6) d).trans hb13)); clear hb13))
      go_ret
      exact ⟨rfl, B6.out.trans (B13.out.mono B6.out.size)⟩
theorem rows_row8 (va vb : Value) (xs ys : List Nat) (w : World) (ha : URow w va xs) (hb : URow w vb ys) (hwa : Wf xs) (hwb : Wf ys) : Calls Try.prog 6 #[va, vb] w fun e w' => e = .returned (.bool true) ∧ Below w.heap.size w w' := rows_any8 va vb xs ys w ha hb hwa hwb
end Go.Proofs.Ytalnhbjpfnodiaa
