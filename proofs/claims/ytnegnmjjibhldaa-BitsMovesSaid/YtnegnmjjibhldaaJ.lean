/- Layer 2: Shift, Back of the reference. -/
import Derived.Test.YtnegnmjjibhldaaI
import Derived.Test.YtnegnmjjibhldaaH
namespace Go.Proofs.Ytnegnmjjibhldaa
open Go.RowKit
set_option maxRecDepth 100000 in
theorem rshift_any (v : Value) (xs : List Nat) (bt : Bool) (w : World) (hv : URow w v xs) (hw : Wf xs) : Calls Try.prog 27 #[v, .bool bt] w (ShPost w (shiftR xs bt) (shiftO xs) (chk xs.length)) := by
  have C := Lib.hid (rcheck_any v xs w hv)
  by_cases h0 : chk xs.length = 0
  · have hlt := chk_zero h0
    have hne : (chk xs.length != 0) = false := by simp [h0]
    have R := Lib.hid (show shiftR xs bt = mkRow xs.length (shF xs bt) by unfold shiftR; rw [if_pos h0])
    have O := Lib.hid (show shiftO xs = rbit xs (64 * xs.length - 1) by unfold shiftO; rw [h0]; simp)
    have E := Lib.hid h0
    have GA := Lib.hid (fun w' i (h : Below w.heap.size w w') hi => rget0_any v xs i w' (hv.below h) hw (by omega) hi)
    have MK := mk_any xs.length (by omega)
    obtain ⟨p, c, rfl, _, _⟩ := hv
    generalize xs.length = n at *
    clear h0
    have W0 := Lib.hid (with_step n 0 bt (F := fun _ => false) (G := fun j => decide (j < 1) && shF xs bt j) (w := w.alloc (.cells (madeCells #[.int .u64 0] n) 55)) (g := w.heap.size) (c := n) (by rw [mkRow_zero _ _ (fun _ _ => rfl)]; exact made_own w n (by omega)) (by omega) (by omega) (fun j _ => by
      by_cases e : j = 0
      · subst e; simp [shF]
      · simp [e]))
    go_enter Try.func27, Try.ntmps27
    go_wp2_with (first
      | (go_at_call 15; refine C.out.mono ?_; rintro e w' ⟨rfl, rfl⟩)
      | (go_at_call 43; refine W0.out.mono ?_; rintro e w0 ⟨g0, c0, rfl, hg0, ho0, hb0⟩))
    have hb00 : Below w.heap.size w w0 := ((Below.refl _ w).alloc (Nat.le_refl _) _).trans (hb0.mono (by simp))
    have hg00 : w.heap.size ≤ g0 := by simp at hg0; omega
    go_loopw [9, 10] (fun r i wr => ∃ k g c : Nat, 1 ≤ k ∧ k ≤ 64 * n ∧ i = .int .i64 k ∧ r = rowV g n c ∧ w.heap.size ≤ g ∧ Own64 wr g c (mkRow n (fun j => decide (j < k) && shF xs bt j)) ∧ Below w.heap.size w wr) (fun _ i _ => 64 * n - (intOf i).toNat)
    case atStart => exact ⟨1, g0, c0, by omega, by omega, rfl, rfl, hg00, ho0, hb00⟩
    case round =>
      clear hg0 hg00 ho0 hb0 hb00
      obtain ⟨k, g, c', hk1, hk, rfl, rfl, hg, hown, hb⟩ := hrel
      by_cases hlt2 : k < 64 * n
      · have hltb : decide ((k : Int) < 64 * (n : Int)) = true := decide_eq_true (by omega)
        obtain ⟨m, rfl⟩ : ∃ m, k = m + 1 := ⟨k - 1, by omega⟩
        have hm : ((m + 1 : Nat) : Int) - 1 = (m : Int) := by omega
        have WS := Lib.hid (fun t (ht : t = shF xs bt (m + 1)) => with_step n (m + 1) t (F := fun j => decide (j < m + 1) && shF xs bt j) (G := fun j => decide (j < m + 1 + 1) && shF xs bt j) hown (by omega) hlt2 (upto_bits (shF xs bt) (m + 1) ht))
        have A := Lib.hid (GA.out wr m hb (by omega))
        clear hown
        go_wp2_with (first
          | (go_at_call 40; refine A.out.mono ?_; rintro e w' ⟨rfl, rfl⟩)
          | (go_at_call 43; refine (WS.out _ (by unfold shF; rw [if_neg (by omega)]; rfl)).mono ?_; rintro e w1 ⟨g1, c1, rfl, hg1, ho1, hb1⟩))
        go_roundw
        case rel => exact ⟨m + 2, g1, c1, by omega, by omega, by go_num, rfl, by have := hb.size; omega, ho1, hb.trans (hb1.mono hb.size)⟩
        case measure => simp [intOf]; omega
      · obtain rfl : k = 64 * n := by omega
        have hltb : decide (((64 * n : Nat) : Int) < 64 * (n : Int)) = false := decide_eq_false (by omega)
        have HO := Lib.hid hown
        obtain ⟨m, hm⟩ : ∃ m : Nat, 64 * (n : Int) - 1 = (m : Int) := ⟨64 * n - 1, by omega⟩
        have A := Lib.hid (GA.out wr m hb (by omega))
        have O2 := Lib.hid (show shiftO xs = rbit xs m by rw [O.out]; congr 1; omega)
        clear hown
        go_wp2_with (go_at_call 40; refine A.out.mono ?_; rintro e w' ⟨rfl, rfl⟩)
        go_ret3
        exact ⟨rowV g n c', by rw [E.out, O2.out]; rfl, by rw [R.out]; exact bits_done HO.out, hb⟩
  · have hne : (chk xs.length != 0) = true := by simp [h0]
    have R := Lib.hid (show shiftR xs bt = [] by unfold shiftR; rw [if_neg h0])
    have O := Lib.hid (show shiftO xs = false by unfold shiftO; simp [h0])
    clear h0
    go_enter Try.func27, Try.ntmps27
    go_wp2_with (go_at_call 15; refine C.out.mono ?_; rintro e w' ⟨rfl, rfl⟩)
    go_ret3
    exact ⟨.slice none 0 0, by rw [O.out]; rfl, by rw [R.out]; exact URow.none _, Below.refl _ _⟩
set_option maxRecDepth 100000 in
theorem rback_any (v : Value) (xs : List Nat) (bt : Bool) (w : World) (hv : URow w v xs) (hw : Wf xs) : Calls Try.prog 29 #[v, .bool bt] w (ShPost w (backR xs bt) (backO xs) (chk xs.length)) := by
  have C := Lib.hid (rcheck_any v xs w hv)
  by_cases h0 : chk xs.length = 0
  · have hlt := chk_zero h0
    have hne : (chk xs.length != 0) = false := by simp [h0]
    have R := Lib.hid (show backR xs bt = mkRow xs.length (baF xs bt) by unfold backR; rw [if_pos h0])
    have O := Lib.hid (show backO xs = rbit xs 0 by unfold backO; rw [h0]; simp)
    have E := Lib.hid h0
    have GA := Lib.hid (fun w' i (h : Below w.heap.size w w') hi => rget0_any v xs i w' (hv.below h) hw (by omega) hi)
    have MK := mk_any xs.length (by omega)
    have BF := Lib.hid (fun j (h : ¬ j = 64 * xs.length - 1) => show baF xs bt j = rbit xs (j + 1) by unfold baF; rw [if_neg h])
    have BL := Lib.hid (show baF xs bt (64 * xs.length - 1) = bt by unfold baF; rw [if_pos rfl])
    obtain ⟨p, c, rfl, _, _⟩ := hv
    generalize xs.length = n at *
    clear h0
    obtain ⟨m, hm⟩ : ∃ m : Nat, 64 * (n : Int) - 1 = (m : Int) := ⟨64 * n - 1, by omega⟩
    have HM := Lib.hid (show 64 * n = m + 1 by omega)
    have W0 := Lib.hid (with_step n m bt (F := fun _ => false) (G := fun j => (decide (j < 0) || decide (j = m)) && baF xs bt j) (w := w.alloc (.cells (madeCells #[.int .u64 0] n) 55)) (g := w.heap.size) (c := n) (by rw [mkRow_zero _ _ (fun _ _ => rfl)]; exact made_own w n (by omega)) (by omega) (by omega) (fun j _ => by
      by_cases e : j = m
      · have := BL.out; rw [show 64 * n - 1 = m by omega] at this; subst e; simp [this]
      · simp [e]))
    go_enter Try.func29, Try.ntmps29
    go_wp2_with (first
      | (go_at_call 15; refine C.out.mono ?_; rintro e w' ⟨rfl, rfl⟩)
      | (go_at_call 43; refine W0.out.mono ?_; rintro e w0 ⟨g0, c0, rfl, hg0, ho0, hb0⟩))
    have hb00 : Below w.heap.size w w0 := ((Below.refl _ w).alloc (Nat.le_refl _) _).trans (hb0.mono (by simp))
    have hg00 : w.heap.size ≤ g0 := by simp at hg0; omega
    go_loopw [9, 10] (fun r i wr => ∃ k g c : Nat, k ≤ m ∧ i = .int .i64 k ∧ r = rowV g n c ∧ w.heap.size ≤ g ∧ Own64 wr g c (mkRow n (fun j => (decide (j < k) || decide (j = m)) && baF xs bt j)) ∧ Below w.heap.size w wr) (fun _ i _ => 64 * n - (intOf i).toNat)
    case atStart => exact ⟨0, g0, c0, by omega, rfl, rfl, hg00, ho0, hb00⟩
    case round =>
      clear hg0 hg00 ho0 hb0 hb00
      obtain ⟨k, g, c', hk, rfl, rfl, hg, hown, hb⟩ := hrel
      by_cases hlt2 : k < m
      · have hm64 := HM.out
        have hltb : decide ((k : Int) + 1 < 64 * (n : Int)) = true := decide_eq_true (by omega)
        have WS := Lib.hid (fun t (ht : t = baF xs bt k) => with_step n k t (F := fun j => (decide (j < k) || decide (j = m)) && baF xs bt j) (G := fun j => (decide (j < k + 1) || decide (j = m)) && baF xs bt j) hown (by omega) (by omega) (fun j _ => by
          by_cases e : j = k
          · subst e; simp [ht]
          · rw [if_neg e]; congr 1; rw [Bool.eq_iff_iff]; simp; omega))
        have A := Lib.hid (GA.out wr (k + 1) hb (by omega))
        have hk1 : (((k + 1 : Nat) : Int)) = (k : Int) + 1 := by omega
        rw [hk1] at A
        have BK := Lib.hid (BF.out k (by omega))
        clear hown hm64 hk1
        go_wp2_with (first
          | (go_at_call 40; refine A.out.mono ?_; rintro e w' ⟨rfl, rfl⟩)
          | (go_at_call 43; refine (WS.out _ (by rw [BK.out])).mono ?_; rintro e w1 ⟨g1, c1, rfl, hg1, ho1, hb1⟩))
        go_roundw
        case rel => exact ⟨k + 1, g1, c1, by omega, by go_num, rfl, by have := hb.size; omega, ho1, hb.trans (hb1.mono hb.size)⟩
        case measure => have := HM.out; simp [intOf]; omega
      · obtain rfl : k = m := by omega
        have hltb : decide ((k : Int) + 1 < 64 * (n : Int)) = false := decide_eq_false (by omega)
        have A := Lib.hid (GA.out wr 0 hb (by omega))
        have HO := Lib.hid (show URow wr (rowV g n c') (mkRow n (baF xs bt)) from by
          rw [mkRow_congr (g := baF xs bt) (fun j hj => by
            have := HM.out
            rw [show (decide (j < k) || decide (j = k)) = true by simp; omega]; simp)] at hown
          have := hown.row
          rw [mkRow_len] at this
          exact this)
        clear hown
        go_wp2_with (go_at_call 40; refine A.out.mono ?_; rintro e w' ⟨rfl, rfl⟩)
        go_ret3
        exact ⟨rowV g n c', by rw [E.out, O.out]; rfl, by rw [R.out]; exact HO.out, hb⟩
  · have hne : (chk xs.length != 0) = true := by simp [h0]
    have R := Lib.hid (show backR xs bt = [] by unfold backR; rw [if_neg h0])
    have O := Lib.hid (show backO xs = false by unfold backO; simp [h0])
    clear h0
    go_enter Try.func29, Try.ntmps29
    go_wp2_with (go_at_call 15; refine C.out.mono ?_; rintro e w' ⟨rfl, rfl⟩)
    go_ret3
    exact ⟨.slice none 0 0, by rw [O.out]; rfl, by rw [R.out]; exact URow.none _, Below.refl _ _⟩
end Go.Proofs.Ytnegnmjjibhldaa
