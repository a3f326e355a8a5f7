/- Layer 2: Get, Set of the program; get, with, Get, Set, Same, Ints of the reference. -/
import Derived.Test.YtnegnmjjibhldaaB
namespace Go.Proofs.Ytnegnmjjibhldaa
open Go.RowKit
def getE (n : Nat) (i : Int) : Int := if chk n = 0 then (if hasB n i then 0 else 7) else chk n
def getB (xs : List Nat) (i : Int) : Bool := decide (getE xs.length i = 0) && rbit xs i.toNat
def setR (xs : List Nat) (i : Int) (v : Bool) : List Nat := if getE xs.length i = 0 then setB xs i.toNat v else []
theorem chk_zero {n : Nat} (h : chk n = 0) : 0 < n ∧ n ≤ 8 := by unfold chk at h; split at h <;> first | omega | (split at h <;> omega)
theorem hasB_true {n : Nat} {i : Int} (h : hasB n i = true) : ∃ k : Nat, i = k ∧ k < 64 * n := by
  unfold hasB at h; simp at h; exact ⟨i.toNat, by omega, by omega⟩
theorem URow.none (w : World) : URow w (.slice none 0 0) [] := ⟨_, 0, rfl, Nat.zero_le _, fun i x h => by simp at h⟩
def GetPost (xs : List Nat) (i : Int) (w : World) (e : Ending) (w' : World) : Prop := e = .returned (.tuple #[.bool (getB xs i), .int .i64 (getE xs.length i)]) ∧ ∃ d, w' = w.drewN d
theorem get_any (v : Value) (xs : List Nat) (i : Int) (w : World) (hv : URow w v xs) (hw : Wf xs) (hl : xs.length ≤ 1000) : Calls Try.prog 12 #[v, .int .i64 i] w (GetPost xs i w) := by
  have C := Lib.hid (check_any v xs w hv)
  have H := Lib.hid (has_any v xs i w hv (by omega))
  by_cases h0 : chk xs.length = 0
  · have hne : (chk xs.length != 0) = false := by simp [h0]
    by_cases h1 : hasB xs.length i = true
    · obtain ⟨k, rfl, hk⟩ := hasB_true h1
      have B := Lib.hid (bit_any v xs k w hv hw hl hk)
      have E : getE xs.length k = 0 := by unfold getE; rw [if_pos h0, if_pos h1]
      have G : getB xs k = rbit xs k := by unfold getB; rw [E]; simp
      have E := Lib.hid E
      have G := Lib.hid G
      clear h0 hk hl
      go_enter Try.func12, Try.ntmps12
      go_wp2_with (first
        | (go_at_call 14; refine C.out.mono ?_; rintro e w' ⟨rfl, rfl⟩)
        | (go_at_call 38; refine H.out.mono ?_; rintro e w' ⟨rfl, rfl⟩)
        | (go_at_call 39; refine B.out.mono ?_; rintro e w' ⟨rfl, d, rfl⟩))
      go_ret2
      exact ⟨by rw [E.out, G.out]; rfl, d, rfl⟩
    · have h1 : hasB xs.length i = false := by simpa using h1
      have E := Lib.hid (show getE xs.length i = 7 by unfold getE; rw [if_pos h0, h1]; rfl)
      have G := Lib.hid (show getB xs i = false by unfold getB; rw [E.out]; rfl)
      clear h0
      go_enter Try.func12, Try.ntmps12
      go_wp2_with (first
        | (go_at_call 14; refine C.out.mono ?_; rintro e w' ⟨rfl, rfl⟩)
        | (go_at_call 38; refine H.out.mono ?_; rintro e w' ⟨rfl, rfl⟩))
      go_ret2
      exact ⟨by rw [E.out, G.out]; rfl, 0, rfl⟩
  · have hne : (chk xs.length != 0) = true := by simp [h0]
    have E := Lib.hid (show getE xs.length i = chk xs.length by unfold getE; rw [if_neg h0])
    have G := Lib.hid (show getB xs i = false by unfold getB; rw [E.out]; simp [h0])
    clear h0
    go_enter Try.func12, Try.ntmps12
    go_wp2_with (go_at_call 14; refine C.out.mono ?_; rintro e w' ⟨rfl, rfl⟩)
    go_ret2
    exact ⟨by rw [E.out, G.out]; rfl, 0, rfl⟩
/-- A row and an error are returned. -/
def RowPost (w : World) (ys : List Nat) (E : Int) (e : Ending) (w' : World) : Prop := ∃ v, e = .returned (.tuple #[v, .int .i64 E]) ∧ URow w' v ys ∧ Below w.heap.size w w'
theorem below_drewN (w : World) (d : Nat) : Below w.heap.size w (w.drewN d) := ⟨rfl, rfl, rfl, Nat.le_refl _, fun _ _ => rfl⟩
set_option maxRecDepth 100000 in
theorem set_any (v : Value) (xs : List Nat) (i : Int) (t : Bool) (w : World) (hv : URow w v xs) (hw : Wf xs) (hl : xs.length ≤ 1000) : Calls Try.prog 16 #[v, .int .i64 i, .bool t] w (RowPost w (setR xs i t) (getE xs.length i)) := by
  have C := Lib.hid (check_any v xs w hv)
  have H := Lib.hid (has_any v xs i w hv (by omega))
  by_cases h0 : chk xs.length = 0
  · have hne : (chk xs.length != 0) = false := by simp [h0]
    by_cases h1 : hasB xs.length i = true
    · obtain ⟨k, rfl, hk⟩ := hasB_true h1
      have hj : k / 64 < xs.length := by omega
      have CL := Lib.hid (clone_any v xs w hv (chk_zero h0).1 hl)
      have E : getE xs.length k = 0 := by unfold getE; rw [if_pos h0, if_pos h1]
      have R := Lib.hid (show setR xs k t = xs.set (k / 64) (putB (xs.getD (k / 64) 0) (k % 64) t) by unfold setR; rw [if_pos E]; rfl)
      have E := Lib.hid E
      have hk64 : k < 1000000 := by omega
      obtain ⟨x, hx⟩ : ∃ x, x = xs.getD (k / 64) 0 := ⟨_, rfl⟩
      have e1 := putB_false (hw.get (k / 64)) (show k % 64 < 64 by omega)
      have e2 := putB_true (hw.get (k / 64)) (show k % 64 < 64 by omega)
      rw [← hx] at e1 e2
      have HX := Lib.hid hx
      have PL := Lib.hid (fun w' => place_any k w' (by omega))
      clear h0 hk hx
      go_enter Try.func16, Try.ntmps16
      go_wp2_with (first
        | (go_at_call 14; refine C.out.mono ?_; rintro e w' ⟨rfl, rfl⟩)
        | (go_at_call 38; refine H.out.mono ?_; rintro e w' ⟨rfl, rfl⟩)
        | (go_at_call 41; refine CL.out.mono ?_; rintro e w1 ⟨g, c, rfl, hg, hown, hb⟩))
      have hc := hown.cell hj
      rw [← HX.out] at hc
      have hf := hown.frozen (k / 64)
      have PL2 := fun w' => (PL.out w').mono (R' := fun e w2 => e = .returned (.int .u64 ((2 ^ (k % 64) : Nat) : Int)) ∧ w2 = w') (by rintro e w' ⟨rfl, rfl⟩; exact ⟨rfl, rfl⟩)
      have q0 : (0 : Int) ≤ (k : Int) / 64 := by omega
      have q1 : (k : Int) / 64 < (xs.length : Int) := by omega
      have q2 : ((k : Int) / 64).toNat = k / 64 := by omega
      have q3 : IntKind.i64.wrap ((k : Int) / 64) = (k : Int) / 64 := IntWalk.i64_in _ (by omega)
      have o1 := hown.set (k / 64) (putB x (k % 64) false)
      have c1 : (w1.setCell ⟨g, k / 64, none⟩ (.int .u64 ((putB x (k % 64) false : Nat) : Int))).cell? ⟨g, k / 64, none⟩ = some (.int .u64 ((putB x (k % 64) false : Nat) : Int)) := by
        rw [o1.cell (by simpa using hj)]; simp [List.getD_eq_getElem?_getD, hj]
      have f1 := o1.frozen (k / 64)
      have b1 := (hb.setCell (p := ⟨g, k / 64, none⟩) hg (.int .u64 ((putB x (k % 64) false : Nat) : Int))).drew
      have O1 := Lib.hid o1
      have OW := Lib.hid hown
      clear o1 hown
      refine wp_region_still_tail 9 (by kernel_rfl) (by kernel_rfl) ?_
      simp only [List.take_succ_cons, List.take_zero, List.drop_succ_cons, List.drop_zero]
      repeat (first | still_step | still_call (PL2 _))
      refine wpStill_nil ?_
      cases t
      · go_wp2
        go_ret2
        have o := O1.out.drew.row
        rw [List.length_set] at o
        exact ⟨rowV g xs.length c, by rw [E.out]; rfl, by rw [R.out, ← HX.out]; exact o, b1⟩
      · go_wp2
        obtain ⟨w2, hw2⟩ : ∃ w2, w2 = (w1.setCell ⟨g, k / 64, none⟩ (.int .u64 ((putB x (k % 64) false : Nat) : Int))).drew := ⟨_, rfl⟩
        rw [← hw2]
        have c2 : w2.cell? ⟨g, k / 64, none⟩ = some (.int .u64 ((putB x (k % 64) false : Nat) : Int)) := by rw [hw2]; exact c1
        have f2 : w2.frozen? ⟨g, k / 64, none⟩ = false := by rw [hw2]; exact f1
        have O2 : Hid (Own64 w2 g c (xs.set (k / 64) (putB x (k % 64) false))) := by rw [hw2]; exact Lib.hid O1.out.drew
        have b2 : Below w.heap.size w w2 := by rw [hw2]; exact b1
        clear c1 f1 O1 b1 hw2
        refine wp_region_still_tail 9 (by kernel_rfl) (by kernel_rfl) ?_
        simp only [List.take_succ_cons, List.take_zero, List.drop_succ_cons, List.drop_zero]
        repeat (first | still_step | still_call (PL2 _))
        refine wpStill_nil ?_
        go_wp2
        go_ret2
        have o := (O2.out.set (k / 64) (putB x (k % 64) true)).drew.row
        rw [List.length_set, List.length_set, List.set_set] at o
        exact ⟨rowV g xs.length c, by rw [E.out]; rfl, by rw [R.out, ← HX.out]; exact o, (b2.setCell (p := ⟨g, k / 64, none⟩) hg _).drew⟩
    · have h1 : hasB xs.length i = false := by simpa using h1
      have E := Lib.hid (show getE xs.length i = 7 by unfold getE; rw [if_pos h0, h1]; rfl)
      have R := Lib.hid (show setR xs i t = [] by unfold setR; rw [E.out]; rfl)
      clear h0
      go_enter Try.func16, Try.ntmps16
      go_wp2_with (first
        | (go_at_call 14; refine C.out.mono ?_; rintro e w' ⟨rfl, rfl⟩)
        | (go_at_call 38; refine H.out.mono ?_; rintro e w' ⟨rfl, rfl⟩))
      go_ret2
      exact ⟨.slice none 0 0, by rw [E.out]; rfl, by rw [R.out]; exact URow.none _, Below.refl _ _⟩
  · have hne : (chk xs.length != 0) = true := by simp [h0]
    have E := Lib.hid (show getE xs.length i = chk xs.length by unfold getE; rw [if_neg h0])
    have R := Lib.hid (show setR xs i t = [] by unfold setR; rw [E.out, if_neg h0])
    clear h0
    go_enter Try.func16, Try.ntmps16
    go_wp2_with (go_at_call 14; refine C.out.mono ?_; rintro e w' ⟨rfl, rfl⟩)
    go_ret2
    exact ⟨.slice none 0 0, by rw [E.out]; rfl, by rw [R.out]; exact URow.none _, Below.refl _ _⟩
end Go.Proofs.Ytnegnmjjibhldaa
