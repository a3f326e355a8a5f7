/- Layer 2: Shift, Back. -/
import Derived.Test.YtnegnmjjibhldaaF
namespace Go.Proofs.Ytnegnmjjibhldaa
open Go.RowKit
/-- A row, a bit and an error are returned. -/
def ShPost (w : World) (ys : List Nat) (o : Bool) (E : Int) (e : Ending) (w' : World) : Prop := ∃ v, e = .returned (.tuple #[v, .bool o, .int .i64 E]) ∧ URow w' v ys ∧ Below w.heap.size w w'
def shF (xs : List Nat) (b : Bool) (i : Nat) : Bool := if i = 0 then b else rbit xs (i - 1)
def baF (xs : List Nat) (b : Bool) (i : Nat) : Bool := if i = 64 * xs.length - 1 then b else rbit xs (i + 1)
def shiftR (xs : List Nat) (b : Bool) : List Nat := if chk xs.length = 0 then mkRow xs.length (shF xs b) else []
def shiftO (xs : List Nat) : Bool := decide (chk xs.length = 0) && rbit xs (64 * xs.length - 1)
def backR (xs : List Nat) (b : Bool) : List Nat := if chk xs.length = 0 then mkRow xs.length (baF xs b) else []
def backO (xs : List Nat) : Bool := decide (chk xs.length = 0) && rbit xs 0
theorem toNat_one (b : Bool) : (((b.toNat : Nat) : Int) == 1) = b := by cases b <;> rfl
theorem shF_word {xs : List Nat} {bt : Bool} {k x : Nat} (hx : xs[k]? = some x) : ofB (fun i => if i = 0 then shF xs bt (64 * k) else x.testBit (i - 1)) 64 = ofB (fun i => shF xs bt (64 * k + i)) 64 :=
  ofB_eq (ofB_lt _ _) fun i hi => by
    rw [ofB_bit _ _ _ hi]
    by_cases h : i = 0
    · subst h; simp
    · rw [if_neg h]; unfold shF; rw [if_neg (by omega), show 64 * k + i - 1 = 64 * k + (i - 1) by omega, rbit_word hx (by omega)]
theorem shF_next {xs : List Nat} {bt : Bool} {k x : Nat} (hx : xs[k]? = some x) : shF xs bt (64 * (k + 1)) = x.testBit 63 := by
  unfold shF; rw [if_neg (by omega), show 64 * (k + 1) - 1 = 64 * k + 63 by omega, rbit_word hx (by omega)]
def cB (xs : List Nat) (bt : Bool) (n k : Nat) : Bool := if k = 0 then bt else rbit xs (64 * (n - k))
theorem baF_word {xs : List Nat} {bt : Bool} {n k j x : Nat} (hn : xs.length = n) (hj : j + 1 + k = n) (hx : xs[j]? = some x) : ofB (fun i => if i = 63 then cB xs bt n k else x.testBit (i + 1)) 64 = ofB (fun i => baF xs bt (64 * j + i)) 64 :=
  ofB_eq (ofB_lt _ _) fun i hi => by
    rw [ofB_bit _ _ _ hi]
    unfold baF cB
    rw [hn]
    by_cases h : i = 63
    · subst h; rw [if_pos rfl]
      by_cases h0 : k = 0
      · rw [if_pos h0, if_pos (by omega)]
      · rw [if_neg h0, if_neg (by omega), show 64 * j + 63 + 1 = 64 * (n - k) by omega]
    · rw [if_neg h, if_neg (by omega), show 64 * j + i + 1 = 64 * j + (i + 1) by omega, rbit_word hx (by omega)]
theorem cB_next {xs : List Nat} {bt : Bool} {n k j x : Nat} (hj : j + 1 + k = n) (hx : xs[j]? = some x) : cB xs bt n (k + 1) = x.testBit 0 := by
  unfold cB; rw [if_neg (by omega), show 64 * (n - (k + 1)) = 64 * j + 0 by omega, rbit_word hx (by omega)]
set_option maxRecDepth 100000 in
theorem shift_any (v : Value) (xs : List Nat) (bt : Bool) (w : World) (hv : URow w v xs) (hw : Wf xs) : Calls Try.prog 26 #[v, .bool bt] w (ShPost w (shiftR xs bt) (shiftO xs) (chk xs.length)) := by
  have C := Lib.hid (check_any v xs w hv)
  have LB := Lib.hid (fun w' => lowBit_any bt w')
  by_cases h0 : chk xs.length = 0
  · have h01 := chk_zero h0
    have hne : (chk xs.length != 0) = false := by simp [h0]
    have R := Lib.hid (show shiftR xs bt = mkRow xs.length (shF xs bt) by unfold shiftR; rw [if_pos h0])
    have O := Lib.hid (show shiftO xs = shF xs bt (64 * xs.length) by unfold shiftO shF; rw [if_neg (by omega), h0]; simp)
    have E := Lib.hid h0
    obtain ⟨b, o, c, rfl, hc, hx⟩ := hv.later h01.1
    have MK := mk_any xs.length (by omega)
    generalize hxn : xs.length = n at *
    have HN := Lib.hid hxn
    have HC := Lib.hid hx
    clear hx hxn h0
    go_enter Try.func26, Try.ntmps26
    go_wp2_with (first
      | (go_at_call 14; refine C.out.mono ?_; rintro e w' ⟨rfl, rfl⟩)
      | (go_at_call 45; refine (LB.out _).mono ?_; rintro e w' ⟨rfl, rfl⟩))
    go_loopw [7, 8, 21] (fun cy _ i wr => ∃ k : Nat, k ≤ n ∧ i = .int .i64 k ∧ cy = .int .u64 (((shF xs bt (64 * k)).toNat : Nat) : Int) ∧ Own64 wr w.heap.size n (part (fun j => decide (j < k)) n (fun j => ofB (fun k => shF xs bt (64 * j + k)) 64)) ∧ Below w.heap.size w wr) (fun _ _ i _ => n - (intOf i).toNat)
    case atStart =>
      refine ⟨0, Nat.zero_le _, rfl, rfl, ?_, (Below.refl _ w).alloc (Nat.le_refl _) _⟩
      rw [part_none _ _ _ (fun j _ => by simp)]
      exact made_own w n (by omega)
    case round =>
      obtain ⟨k, hk, rfl, rfl, hown, hb⟩ := hrel
      by_cases hlt : k < n
      · obtain ⟨x, hx⟩ : ∃ x, xs[k]? = some x := ⟨_, List.getElem?_eq_getElem (by rw [HN.out]; exact hlt)⟩
        have hcell := HC.out wr k x hb hx
        have hc1 := hown.cell (j := k) (by rw [part_len]; exact hlt)
        have hf1 := hown.frozen k
        have HO := Lib.hid hown
        have HX := Lib.hid hx
        generalize hcy : shF xs bt (64 * k) = cy
        have e1 := shl_word (x := x) cy
        have e2 := top_word (hw x (List.mem_of_getElem? hx))
        have hst := HC.out _ k x (hb.setCell (p := ⟨w.heap.size, k, none⟩) (Nat.le_refl _) (.int .u64 ((ofB (fun i => if i = 0 then cy else x.testBit (i - 1)) 64 : Nat) : Int))) hx
        generalize hY : ofB (fun i => if i = 0 then cy else x.testBit (i - 1)) 64 = Y at e1 hst
        have HY := Lib.hid hY
        have HCY := Lib.hid hcy
        clear hx hown hY hcy
        go_wp2
        go_roundw
        case rel => exact ⟨k + 1, by omega, by go_num, by rw [shF_next HX.out], own_step HO.out (by rw [← HY.out, ← HCY.out]; exact shF_word HX.out) (upto_succ n k), hb.setCell (p := ⟨w.heap.size, k, none⟩) (Nat.le_refl _) _⟩
        case measure => simp [intOf]; omega
      · obtain rfl : k = n := by omega
        have HO := Lib.hid hown
        have e1 := toNat_one (shF xs bt (64 * k))
        clear hown
        go_wp2
        go_ret3
        exact ⟨rowV w.heap.size k k, by rw [E.out, O.out]; rfl, by rw [R.out]; exact own_done HO.out (fun j hj => by simpa using hj), hb⟩
  · have hne : (chk xs.length != 0) = true := by simp [h0]
    have R := Lib.hid (show shiftR xs bt = [] by unfold shiftR; rw [if_neg h0])
    have O := Lib.hid (show shiftO xs = false by unfold shiftO; simp [h0])
    clear h0
    go_enter Try.func26, Try.ntmps26
    go_wp2_with (go_at_call 14; refine C.out.mono ?_; rintro e w' ⟨rfl, rfl⟩)
    go_ret3
    exact ⟨.slice none 0 0, by rw [O.out]; rfl, by rw [R.out]; exact URow.none _, Below.refl _ _⟩
set_option maxRecDepth 100000 in
theorem back_any (v : Value) (xs : List Nat) (bt : Bool) (w : World) (hv : URow w v xs) (hw : Wf xs) : Calls Try.prog 28 #[v, .bool bt] w (ShPost w (backR xs bt) (backO xs) (chk xs.length)) := by
  have C := Lib.hid (check_any v xs w hv)
  have LB := Lib.hid (fun w' => lowBit_any bt w')
  by_cases h0 : chk xs.length = 0
  · have h01 := chk_zero h0
    have hne : (chk xs.length != 0) = false := by simp [h0]
    have R := Lib.hid (show backR xs bt = mkRow xs.length (baF xs bt) by unfold backR; rw [if_pos h0])
    have O := Lib.hid (show backO xs = cB xs bt xs.length xs.length by unfold backO cB; rw [if_neg (by omega), h0]; simp)
    have E := Lib.hid h0
    obtain ⟨b, o, c, rfl, hc, hx⟩ := hv.later h01.1
    have MK := mk_any xs.length (by omega)
    generalize hxn : xs.length = n at *
    have HN := Lib.hid hxn
    have HC := Lib.hid hx
    clear hx hxn h0
    go_enter Try.func28, Try.ntmps28
    go_wp2_with (first
      | (go_at_call 14; refine C.out.mono ?_; rintro e w' ⟨rfl, rfl⟩)
      | (go_at_call 45; refine (LB.out _).mono ?_; rintro e w' ⟨rfl, rfl⟩))
    go_loopw [7, 8, 9, 22] (fun cy _ _ i wr => ∃ k : Nat, k ≤ n ∧ i = .int .i64 k ∧ cy = .int .u64 (((cB xs bt n k).toNat : Nat) : Int) ∧ Own64 wr w.heap.size n (part (fun j => decide (n - k ≤ j)) n (fun j => ofB (fun k => baF xs bt (64 * j + k)) 64)) ∧ Below w.heap.size w wr) (fun _ _ _ i _ => n - (intOf i).toNat)
    case atStart =>
      refine ⟨0, Nat.zero_le _, rfl, rfl, ?_, (Below.refl _ w).alloc (Nat.le_refl _) _⟩
      rw [part_none _ _ _ (fun j hj => by simp; exact hj)]
      exact made_own w n (by omega)
    case round =>
      obtain ⟨k, hk, rfl, rfl, hown, hb⟩ := hrel
      by_cases hlt : k < n
      · obtain ⟨j, hj⟩ : ∃ j, j + 1 + k = n := ⟨n - 1 - k, by omega⟩
        obtain ⟨x, hx⟩ : ∃ x, xs[j]? = some x := ⟨_, List.getElem?_eq_getElem (by rw [HN.out]; omega)⟩
        have hcell := HC.out wr j x hb hx
        have hc1 := hown.cell (j := j) (by rw [part_len]; omega)
        have hf1 := hown.frozen j
        have HO := Lib.hid hown
        have HX := Lib.hid hx
        generalize hcy : cB xs bt n k = cy
        have e1 := shr_word (hw x (List.mem_of_getElem? hx)) cy
        have e2 := low_word x (hw x (List.mem_of_getElem? hx))
        have hst := HC.out _ j x (hb.setCell (p := ⟨w.heap.size, j, none⟩) (Nat.le_refl _) (.int .u64 ((ofB (fun i => if i = 63 then cy else x.testBit (i + 1)) 64 : Nat) : Int))) hx
        generalize hY : ofB (fun i => if i = 63 then cy else x.testBit (i + 1)) 64 = Y at e1 hst
        have hji : (n : Int) - 1 - (k : Int) = (j : Int) := by omega
        have HY := Lib.hid hY
        have HCY := Lib.hid hcy
        have HJ := Lib.hid hj
        have hjn : j < n := by omega
        clear hx hown hY hcy hj
        go_wp2
        go_roundw
        case rel => exact ⟨k + 1, by omega, by go_num, by rw [cB_next HJ.out HX.out, Nat.testBit_zero], own_step HO.out (by rw [← HY.out, ← HCY.out]; exact baF_word HN.out HJ.out HX.out) (fun i hi => by have := HJ.out; rw [Bool.eq_iff_iff]; simp; omega), hb.setCell (p := ⟨w.heap.size, j, none⟩) (Nat.le_refl _) _⟩
        case measure => simp [intOf]; omega
      · obtain rfl : k = n := by omega
        have HO := Lib.hid hown
        have e1 := toNat_one (cB xs bt k k)
        clear hown
        go_wp2
        go_ret3
        exact ⟨rowV w.heap.size k k, by rw [E.out, O.out]; rfl, by rw [R.out]; exact own_done HO.out (fun j hj => by simp), hb⟩
  · have hne : (chk xs.length != 0) = true := by simp [h0]
    have R := Lib.hid (show backR xs bt = [] by unfold backR; rw [if_neg h0])
    have O := Lib.hid (show backO xs = false by unfold backO; simp [h0])
    clear h0
    go_enter Try.func28, Try.ntmps28
    go_wp2_with (go_at_call 14; refine C.out.mono ?_; rintro e w' ⟨rfl, rfl⟩)
    go_ret3
    exact ⟨.slice none 0 0, by rw [O.out]; rfl, by rw [R.out]; exact URow.none _, Below.refl _ _⟩
end Go.Proofs.Ytnegnmjjibhldaa
