/- Layer 2: the law on shifts that lead through, walked. -/
import Derived.Test.YtnegnmjjibhldaaR
namespace Go.Proofs.Ytnegnmjjibhldaa
open Go.RowKit
/-- Contracts where all is well. -/
theorem get_ok (v : Value) (xs : List Nat) (i : Nat) (w : World) (hv : URow w v xs) (hw : Wf xs) (hc : chk xs.length = 0) (hi : i < 64 * xs.length) :
    Calls Try.prog 12 #[v, .int .i64 i] w fun e w' => e = .returned (.tuple #[.bool (rbit xs i), .int .i64 0]) ∧ Below w.heap.size w w' := by
  have h8 := chk_zero hc
  have E : getE xs.length i = 0 := by unfold getE; rw [if_pos hc, show hasB xs.length i = true by unfold hasB; simp; omega]; rfl
  have G : getB xs i = rbit xs i := by unfold getB; rw [E]; simp
  refine (get_any v xs i w hv hw (by omega)).mono ?_
  rintro e w' ⟨rfl, d, rfl⟩
  exact ⟨by rw [E, G], below_drewN w d⟩
theorem shift_ok (v : Value) (xs ys : List Nat) (b o : Bool) (w : World) (hv : URow w v xs) (hw : Wf xs) (hc : chk xs.length = 0) (hr : mkRow xs.length (shF xs b) = ys) (ho : rbit xs (64 * xs.length - 1) = o) :
    Calls Try.prog 26 #[v, .bool b] w fun e w' => ∃ u, e = .returned (.tuple #[u, .bool o, .int .i64 0]) ∧ URow w' u ys ∧ Below w.heap.size w w' := by
  refine (shift_any v xs b w hv hw).mono ?_
  rintro e w' ⟨u, rfl, hu, hb⟩
  refine ⟨u, by rw [hc, ← ho]; unfold shiftO; rw [hc]; simp, ?_, hb⟩
  unfold shiftR at hu
  rwa [if_pos hc, hr] at hu
theorem back_ok (v : Value) (xs ys : List Nat) (b o : Bool) (w : World) (hv : URow w v xs) (hw : Wf xs) (hc : chk xs.length = 0) (hr : mkRow xs.length (baF xs b) = ys) (ho : rbit xs 0 = o) :
    Calls Try.prog 28 #[v, .bool b] w fun e w' => ∃ u, e = .returned (.tuple #[u, .bool o, .int .i64 0]) ∧ URow w' u ys ∧ Below w.heap.size w w' := by
  refine (back_any v xs b w hv hw).mono ?_
  rintro e w' ⟨u, rfl, hu, hb⟩
  refine ⟨u, by rw [hc, ← ho]; unfold backO; rw [hc]; simp, ?_, hb⟩
  unfold backR at hu
  rwa [if_pos hc, hr] at hu
theorem back_shift {xs : List Nat} (b : Bool) (hw : Wf xs) (h0 : 0 < xs.length) : mkRow xs.length (baF (mkRow xs.length (shF xs b)) (rbit xs (64 * xs.length - 1))) = xs := by
  refine (eq_mkRow hw rfl fun i hi => ?_).symm
  unfold baF
  rw [mkRow_len]
  by_cases h : i = 64 * xs.length - 1
  · rw [if_pos h, h]
  · rw [if_neg h, mkRow_bit _ _ _ (by omega)]; unfold shF; rw [if_neg (by omega)]; rfl
theorem shift_back {xs : List Nat} (b : Bool) (hw : Wf xs) (h0 : 0 < xs.length) : mkRow xs.length (shF (mkRow xs.length (baF xs b)) (rbit xs 0)) = xs := by
  refine (eq_mkRow hw rfl fun i hi => ?_).symm
  unfold shF
  by_cases h : i = 0
  · rw [if_pos h, h]
  · rw [if_neg h, mkRow_bit _ _ _ (by omega)]; unfold baF; rw [if_neg (by omega), show i - 1 + 1 = i by omega]
def thr (xs ys : List Nat) (n r : Nat) : List Nat := mkRow n (fun j => if j < r then rbit ys (64 * n - r + j) else rbit xs (j - r))
theorem thr_zero {xs ys : List Nat} {n : Nat} (hw : Wf xs) (hn : xs.length = n) : thr xs ys n 0 = xs := by
  refine (eq_mkRow hw hn fun i _ => ?_).symm
  simp
theorem thr_all {xs ys : List Nat} {n : Nat} (hw : Wf ys) (hn : ys.length = n) : thr xs ys n (64 * n) = ys := by
  refine (eq_mkRow hw hn fun i hi => ?_).symm
  rw [if_pos hi, show 64 * n - 64 * n + i = i by omega]
theorem thr_next {xs ys : List Nat} {n r : Nat} (hr : r < 64 * n) : mkRow n (shF (thr xs ys n r) (rbit ys (64 * n - 1 - r))) = thr xs ys n (r + 1) := by
  refine mkRow_congr fun j hj => ?_
  unfold shF
  by_cases h : j = 0
  · rw [if_pos h, h, if_pos (by omega), show 64 * n - (r + 1) + 0 = 64 * n - 1 - r by omega]
  · rw [if_neg h]; unfold thr; rw [mkRow_bit _ _ _ (by omega)]
    by_cases h2 : j - 1 < r
    · rw [if_pos h2, if_pos (by omega), show 64 * n - r + (j - 1) = 64 * n - (r + 1) + j by omega]
    · rw [if_neg h2, if_neg (by omega), show j - 1 - r = j - (r + 1) by omega]
theorem thr_out {xs ys : List Nat} {n r : Nat} (hr : r < 64 * n) : rbit (thr xs ys n r) (64 * n - 1) = rbit xs (64 * n - 1 - r) := by
  unfold thr; rw [mkRow_bit _ _ _ (by omega), if_neg (by omega)]
set_option maxHeartbeats 400000 in
set_option maxRecDepth 100000 in
theorem through_any (v u : Value) (xs ys : List Nat) (bt : Bool) (w : World) (hv : URow w v xs) (hu : URow w u ys) (hw : Wf xs) (hwy : Wf ys) : Calls Try.prog 6 #[v, u, .bool bt] w fun e w' => e = .returned (.bool true) ∧ Below w.heap.size w w' := by
  have AW := Lib.hid (fun w' => awake_any w')
  have hbb : (!bt == bt) = false := by cases bt <;> rfl
  by_cases h0 : chk xs.length = 0
  · have h01 := chk_zero h0
    have S1 := Lib.hid (fun w' (h : Below w.heap.size w w') => shift_ok v xs _ bt _ w' (hv.below h) hw h0 rfl rfl)
    have S2 := Lib.hid (fun w' u (h : URow w' u (mkRow xs.length (shF xs bt))) => back_ok u _ xs (rbit xs (64 * xs.length - 1)) bt w' h (mkRow_wf _ _) (by rw [mkRow_len]; exact h0) (by rw [mkRow_len]; exact back_shift bt hw h01.1) (by rw [mkRow_bit _ _ _ (by omega)]; rfl))
    have B1 := Lib.hid (fun w' (h : Below w.heap.size w w') => back_ok v xs _ bt _ w' (hv.below h) hw h0 rfl rfl)
    have B2 := Lib.hid (fun w' u (h : URow w' u (mkRow xs.length (baF xs bt))) => shift_ok u _ xs (rbit xs 0) bt w' h (mkRow_wf _ _) (by rw [mkRow_len]; exact h0) (by rw [mkRow_len]; exact shift_back bt hw h01.1) (by rw [mkRow_len, mkRow_bit _ _ _ (by omega)]; unfold baF; rw [if_pos rfl]))
    generalize mkRow xs.length (shF xs bt) = ys1 at *
    generalize mkRow xs.length (baF xs bt) = zs1 at *
    generalize rbit xs (64 * xs.length - 1) = o at *
    generalize rbit xs 0 = q at *
    have HVB := Lib.hid (fun w' (h : Below w.heap.size w w') => hv.below h)
    have HUB := Lib.hid (fun w' (h : Below w.heap.size w w') => hu.below h)
    have SA := Lib.hid (fun w' (a b : Value) (ha : URow w' a xs) (hb : URow w' b xs) => same_yes a b xs w' ha hb (by omega))
    have hb := Below.refl w.heap.size w
    by_cases hl : ys.length = xs.length
    · have hl8 := h01
      have GV := Lib.hid (fun w' (h : Below w.heap.size w w') m (hm : m < 64 * xs.length) => get_ok u ys m w' (hu.below h) hwy (by rw [hl]; exact h0) (by rw [hl]; exact hm))
      have GW := Lib.hid (fun w' (h : Below w.heap.size w w') m (hm : m < 64 * xs.length) => get_ok v xs m w' (hv.below h) hw h0 hm)
      have SK := Lib.hid (fun w' t r (hr : r < 64 * xs.length) (h : URow w' t (thr xs ys xs.length r)) => shift_ok t _ (thr xs ys xs.length (r + 1)) (rbit ys (64 * xs.length - 1 - r)) (rbit xs (64 * xs.length - 1 - r)) w' h (mkRow_wf _ _) (by unfold thr; rw [mkRow_len]; exact h0) (by rw [show (thr xs ys xs.length r).length = xs.length by unfold thr; rw [mkRow_len]]; exact thr_next hr) (by rw [show (thr xs ys xs.length r).length = xs.length by unfold thr; rw [mkRow_len]]; exact thr_out hr))
      have TZ := Lib.hid (show thr xs ys xs.length 0 = xs from thr_zero hw rfl)
      have TA := Lib.hid (show thr xs ys xs.length (64 * xs.length) = ys from thr_all hwy hl)
      have SB := Lib.hid (fun w' (a b : Value) (ha : URow w' a ys) (hb : URow w' b ys) => same_yes a b ys w' ha hb (by omega))
      obtain ⟨b0, o', c0, rfl, hlt, hx⟩ := hv.later h01.1
      obtain ⟨p2, c2, rfl, _, _⟩ := id hu
      have HX := Lib.hid hx
      rw [hl] at HUB GV ⊢
      have hll : ((xs.length : Int) != (xs.length : Int)) = false := by simp
      generalize hn : xs.length = n at *
      have HN := Lib.hid hn
      clear h0 hl hw hwy hu hv hx hn
      go_enter Try.func6, Try.ntmps6
      go_wp2_with (first
        | (go_at_call 26; first
            | ((with_reducible refine (S1.out _ hb).mono ?_); rintro e w1 ⟨a, rfl, ra, hb2⟩; have hb := hb.trans (hb2.mono hb.size))
            | ((with_reducible refine (B2.out _ _ rc).mono ?_); rintro e w1 ⟨d, rfl, rd, hb2⟩; have hb := hb.trans (hb2.mono hb.size); have rb := rb.below hb2))
        | (go_at_call 28; first
            | ((with_reducible refine (S2.out _ _ ra).mono ?_); rintro e w1 ⟨b, rfl, rb, hb2⟩; have hb := hb.trans (hb2.mono hb.size))
            | ((with_reducible refine (B1.out _ hb).mono ?_); rintro e w1 ⟨c, rfl, rc, hb2⟩; have hb := hb.trans (hb2.mono hb.size); have rb := rb.below hb2))
        | (go_at_call 18; first
            | ((with_reducible refine (SA.out _ _ _ rb (HVB.out _ hb)).mono ?_); rintro e w1 ⟨rfl, hb2⟩; have hb := hb.trans (hb2.mono hb.size); have rd := rd.below hb2)
            | ((with_reducible refine (SA.out _ _ _ rd (HVB.out _ hb)).mono ?_); rintro e w1 ⟨rfl, hb2⟩; have hb := hb.trans (hb2.mono hb.size)))
        | (at_builtin; refine wpList_cloneU rfl _ _ rfl xs b0 o' n c0 (by rfl) (by rfl) HN (by omega) (by omega) (fun i x h => HX.out _ i x hb h) ?_; intro g cap wc hg hown hbc; have hb := hb.trans (hbc.mono hb.size)))
      have hrow := hown.row
      rw [HN.out] at hrow
      have LZ : URow wc (rowV g n cap) (thr xs ys n 0) := by rw [TZ.out]; exact hrow
      clear hrow hown hbc
      go_loopw [19, 20, 21, 22, 23, 24, 25, 26, 27] (fun t i _ _ _ _ _ _ _ wr => ∃ r : Nat, r ≤ 64 * n ∧ i = .int .i64 (64 * (n : Int) - 1 - (r : Int)) ∧ URow wr t (thr xs ys n r) ∧ Below w.heap.size w wr) (fun _ i _ _ _ _ _ _ _ _ => (intOf i + 1).toNat)
      case atStart => exact ⟨0, by omega, by simp, LZ, hb⟩
      case round =>
        clear LZ hb
        obtain ⟨r, hr, rfl, hrow, hb⟩ := hrel
        by_cases hlt : r < 64 * n
        · obtain ⟨m, hm⟩ : ∃ m : Nat, 64 * (n : Int) - 1 - (r : Int) = (m : Int) := ⟨64 * n - 1 - r, by omega⟩
          have HM := Lib.hid hm
          have hm' : 64 * n - 1 - r = m := by omega
          have SKr := Lib.hid (fun w' t h => SK.out w' t r hlt h)
          rw [hm'] at SKr
          have GVm := Lib.hid (fun w' h => GV.out w' h m (by omega))
          have GWm := Lib.hid (fun w' h => GW.out w' h m (by omega))
          generalize rbit ys m = ob at *
          generalize rbit xs m = oa at *
          have hoo : (!oa == oa) = false := by cases oa <;> rfl
          clear hm'
          go_wp2_with (first
            | (go_at_call 12; first
                | ((with_reducible refine (GVm.out _ hb).mono ?_); rintro e w1 ⟨rfl, hb2⟩; have hb := hb.trans (hb2.mono hb.size); have hrow := hrow.below hb2)
                | ((with_reducible refine (GWm.out _ hb).mono ?_); rintro e w1 ⟨rfl, hb2⟩; have hb := hb.trans (hb2.mono hb.size); have hnx := hnx.below hb2))
            | (go_at_call 26; refine (SKr.out _ _ hrow).mono ?_; rintro e w1 ⟨nx, rfl, hnx, hb2⟩; have hb := hb.trans (hb2.mono hb.size)))
          go_roundw
          case rel => exact ⟨r + 1, by omega, by have := HM.out; congr 1; omega, hnx, hb⟩
          case measure => simp [intOf]; omega
        · obtain rfl : r = 64 * n := by omega
          have hm : 64 * (n : Int) - 1 - ((64 * n : Nat) : Int) = -1 := by omega
          rw [TA.out] at hrow
          go_wp2_with (first
            | (go_at_call 18; refine (SB.out _ _ _ hrow (HUB.out _ hb)).mono ?_; rintro e w1 ⟨rfl, hb2⟩; have hb := hb.trans (hb2.mono hb.size))
            | (go_at_call 11; refine (AW.out _).mono ?_; rintro e w6 ⟨rfl, hb2⟩; have hb := hb.trans (hb2.mono hb.size)))
          go_ret
          exact ⟨rfl, hb⟩
    · have hll : ((ys.length : Int) != (xs.length : Int)) = true := by rw [bne_iff_ne]; omega
      obtain ⟨p, c, rfl, _, _⟩ := hv
      obtain ⟨p2, c2, rfl, _, _⟩ := hu
      clear h0 hl hw hwy
      go_enter Try.func6, Try.ntmps6
      go_wp2_with (first
        | (go_at_call 26; first
            | ((with_reducible refine (S1.out _ hb).mono ?_); rintro e w1 ⟨a, rfl, ra, hb2⟩; have hb := hb.trans (hb2.mono hb.size))
            | ((with_reducible refine (B2.out _ _ rc).mono ?_); rintro e w1 ⟨d, rfl, rd, hb2⟩; have hb := hb.trans (hb2.mono hb.size); have rb := rb.below hb2))
        | (go_at_call 28; first
            | ((with_reducible refine (S2.out _ _ ra).mono ?_); rintro e w1 ⟨b, rfl, rb, hb2⟩; have hb := hb.trans (hb2.mono hb.size))
            | ((with_reducible refine (B1.out _ hb).mono ?_); rintro e w1 ⟨c, rfl, rc, hb2⟩; have hb := hb.trans (hb2.mono hb.size); have rb := rb.below hb2))
        | (go_at_call 18; first
            | ((with_reducible refine (SA.out _ _ _ rb (HVB.out _ hb)).mono ?_); rintro e w1 ⟨rfl, hb2⟩; have hb := hb.trans (hb2.mono hb.size); have rd := rd.below hb2)
            | ((with_reducible refine (SA.out _ _ _ rd (HVB.out _ hb)).mono ?_); rintro e w1 ⟨rfl, hb2⟩; have hb := hb.trans (hb2.mono hb.size)))
        | (go_at_call 11; refine (AW.out _).mono ?_; rintro e w6 ⟨rfl, hb2⟩; have hb := hb.trans (hb2.mono hb.size)))
      go_ret
      exact ⟨rfl, hb⟩
  · have hne : (chk xs.length != 0) = true := by simp [h0]
    have S := Lib.hid (shift_any v xs bt w hv hw)
    rw [show shiftR xs bt = [] by unfold shiftR; rw [if_neg h0]] at S
    clear h0
    go_enter Try.func6, Try.ntmps6
    go_wp2_with (first
      | (go_at_call 26; refine S.out.mono ?_; rintro e w1 ⟨a, rfl, ⟨p, c, rfl, _, _⟩, hb⟩)
      | (go_at_call 11; refine (AW.out _).mono ?_; rintro e w6 ⟨rfl, hb2⟩; have hb := hb.trans (hb2.mono hb.size)))
    go_ret
    exact ⟨rfl, hb⟩
end Go.Proofs.Ytnegnmjjibhldaa
