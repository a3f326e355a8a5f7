/- Layer 2: get, with, Get, Set, Same, Ints of the reference. -/
import Derived.Test.YtnegnmjjibhldaaC
namespace Go.Proofs.Ytnegnmjjibhldaa
open Go.RowKit
theorem rget0_any (v : Value) (xs : List Nat) (i : Nat) (w : World) (hv : URow w v xs) (hw : Wf xs) (hl : xs.length ≤ 1000) (hi : i < 64 * xs.length) :
    Calls Try.prog 40 #[v, .int .i64 i] w fun e w' => e = .returned (.bool (rbit xs i)) ∧ w = w' := by
  obtain ⟨p, c, rfl, hc, hx⟩ := hv
  obtain ⟨x, hxi⟩ : ∃ x, xs[i / 64]? = some x := ⟨_, List.getElem?_eq_getElem (by omega)⟩
  obtain ⟨b, o, rfl, hcell⟩ := hx _ x hxi
  go_enter Try.func40, Try.ntmps40
  go_wp2
  go_ret
  refine ⟨ret_bool ?_, rfl⟩
  unfold rbit
  rw [List.getD_eq_getElem?_getD, hxi, u64_low (hw x (List.mem_of_getElem? hxi))]; rfl
theorem with_any (v : Value) (xs : List Nat) (i : Nat) (t : Bool) (w : World) (hv : URow w v xs) (hw : Wf xs) (hl : xs.length ≤ 1000) (hi : i < 64 * xs.length) :
    Calls Try.prog 43 #[v, .int .i64 i, .bool t] w fun e w' => ∃ g c, e = .returned (rowV g xs.length c) ∧ w.heap.size ≤ g ∧ Own64 w' g c (setB xs i t) ∧ Below w.heap.size w w' := by
  have G := Lib.hid (fun w' (h : Below w.heap.size w w') => rget0_any v xs i w' (hv.below h) hw hl hi)
  obtain ⟨b, o, c, rfl, hc, hx⟩ := hv.form (by omega)
  have hj : i / 64 < xs.length := by omega
  obtain ⟨x, hX⟩ : ∃ x, x = xs.getD (i / 64) 0 := ⟨_, rfl⟩
  have hX64 : x < 2 ^ 64 := by rw [hX]; exact hw.get _
  have hr : rbit xs i = x.testBit (i % 64) := by rw [hX]; rfl
  have HS := Lib.hid (show setB xs i t = xs.set (i / 64) (putB x (i % 64) t) by rw [hX]; rfl)
  have HX := Lib.hid hX
  generalize hxn : xs.length = n at *
  have HN := Lib.hid hxn
  have HC := Lib.hid hx
  rw [hr] at G
  have i1 : i < 1000000 := by omega
  clear hx hxn hX hi hr
  by_cases hb : x.testBit (i % 64) = t
  · have hne : (!x.testBit (i % 64) == t) = false := by rw [hb]; cases t <;> rfl
    have HP := Lib.hid (show putB x (i % 64) t = x by unfold putB; rw [if_pos hb])
    clear hb
    go_enter Try.func43, Try.ntmps43
    go_wp2_with (first
      | (at_builtin; refine wpList_cloneU rfl _ _ rfl xs b o n c (by rfl) (by rfl) HN (by omega) hl HC.out ?_; intro g cap w1 hg hown hbw)
      | (go_at_call 40; refine (G.out _ hbw).mono ?_; rintro e w' ⟨rfl, rfl⟩))
    go_ret
    refine ⟨g, cap, rfl, hg, ?_, hbw⟩
    rw [HS.out, HP.out, HX.out]
    rw [set_self]
    exact hown
  · have hne : (!x.testBit (i % 64) == t) = true := by revert hb; cases x.testBit (i % 64) <;> cases t <;> simp
    have e1 := putB_xor hX64 (show i % 64 < 64 by omega) hb
    have e2 := wrap_pow (show i % 64 < 64 by omega)
    rw [pow_cast] at e2
    clear hb
    go_enter Try.func43, Try.ntmps43
    go_wp2_with (first
      | (at_builtin; refine wpList_cloneU rfl _ _ rfl xs b o n c (by rfl) (by rfl) HN (by omega) hl HC.out ?_; intro g cap w1 hg hown hbw)
      | (go_at_call 40; refine (G.out _ hbw).mono ?_; rintro e w' ⟨rfl, rfl⟩; have hc1 := hown.cell (j := i / 64) (by rw [HN.out]; exact hj); rw [← HX.out] at hc1; have hf1 := hown.frozen (i / 64)))
    go_ret
    have o := hown.set (i / 64) (putB x (i % 64) t)
    refine ⟨g, cap, rfl, hg, ?_, hbw.setCell (p := ⟨g, i / 64, none⟩) hg _⟩
    rw [HS.out]
    exact o
theorem setB_ok {w' : World} {g c : Nat} {xs : List Nat} {i : Nat} {t : Bool} (h : Own64 w' g c (setB xs i t)) : URow w' (rowV g xs.length c) (setB xs i t) := by
  have := h.row
  rw [setB_len] at this
  exact this
theorem rget_any (v : Value) (xs : List Nat) (i : Int) (w : World) (hv : URow w v xs) (hw : Wf xs) (hl : xs.length ≤ 1000) : Calls Try.prog 13 #[v, .int .i64 i] w (GetPost xs i w) := by
  have C := Lib.hid (rcheck_any v xs w hv)
  by_cases h0 : chk xs.length = 0
  · have h00 := (chk_zero h0)
    have he : (chk xs.length == 0) = true := by simp [h0]
    have hne : (chk xs.length != 0) = false := by simp [h0]
    by_cases h1 : hasB xs.length i = true
    · obtain ⟨k, rfl, hk⟩ := hasB_true h1
      have B := Lib.hid (rget0_any v xs k w hv hw hl hk)
      have E : getE xs.length k = 0 := by unfold getE; rw [if_pos h0, if_pos h1]
      have G : getB xs k = rbit xs k := by unfold getB; rw [E]; simp
      have E := Lib.hid E
      have G := Lib.hid G
      obtain ⟨p, c, rfl, _, _⟩ := hv
      have t1 : decide ((k : Int) < 0) = false := decide_eq_false (by omega)
      have t2 : decide (64 * (xs.length : Int) ≤ (k : Int)) = false := decide_eq_false (by omega)
      have hlz : (xs.length : Int) ≤ 1000 := by omega
      clear h0 hk hl h1
      go_enter Try.func13, Try.ntmps13
      go_wp2_with (first
        | (go_at_call 15; refine C.out.mono ?_; rintro e w' ⟨rfl, rfl⟩)
        | (go_at_call 40; refine B.out.mono ?_; rintro e w' ⟨rfl, rfl⟩))
      go_ret2
      exact ⟨by rw [E.out, G.out]; rfl, 0, rfl⟩
    · have h1 : hasB xs.length i = false := by simpa using h1
      have E := Lib.hid (show getE xs.length i = 7 by unfold getE; rw [if_pos h0, h1]; rfl)
      have G := Lib.hid (show getB xs i = false by unfold getB; rw [E.out]; rfl)
      obtain ⟨p, c, rfl, _, _⟩ := hv
      have hlz : (xs.length : Int) ≤ 1000 := by omega
      by_cases t0 : i < 0
      · have t1 : decide (i < 0) = true := decide_eq_true t0
        clear h0 h1
        go_enter Try.func13, Try.ntmps13
        go_wp2_with (first
          | (go_at_call 15; refine C.out.mono ?_; rintro e w' ⟨rfl, rfl⟩))
        go_ret2
        exact ⟨by rw [E.out, G.out]; rfl, 0, rfl⟩
      · have t1 : decide (i < 0) = false := decide_eq_false t0
        have t2 : decide (64 * (xs.length : Int) ≤ i) = true := decide_eq_true (by unfold hasB at h1; simp at h1; omega)
        clear h0 h1
        go_enter Try.func13, Try.ntmps13
        go_wp2_with (first
          | (go_at_call 15; refine C.out.mono ?_; rintro e w' ⟨rfl, rfl⟩))
        go_ret2
        exact ⟨by rw [E.out, G.out]; rfl, 0, rfl⟩
  · have he : (chk xs.length == 0) = false := by simp [h0]
    have hne : (chk xs.length != 0) = true := by simp [h0]
    have E := Lib.hid (show getE xs.length i = chk xs.length by unfold getE; rw [if_neg h0])
    have G := Lib.hid (show getB xs i = false by unfold getB; rw [E.out]; simp [h0])
    clear h0
    go_enter Try.func13, Try.ntmps13
    go_wp2_with (go_at_call 15; refine C.out.mono ?_; rintro e w' ⟨rfl, rfl⟩)
    go_ret2
    exact ⟨by rw [E.out, G.out]; rfl, 0, rfl⟩
theorem rset_any (v : Value) (xs : List Nat) (i : Int) (t : Bool) (w : World) (hv : URow w v xs) (hw : Wf xs) (hl : xs.length ≤ 1000) : Calls Try.prog 17 #[v, .int .i64 i, .bool t] w (RowPost w (setR xs i t) (getE xs.length i)) := by
  have G := Lib.hid (rget_any v xs i w hv hw hl)
  unfold GetPost at G
  by_cases h0 : getE xs.length i = 0
  · have h1 : chk xs.length = 0 := by unfold getE at h0; split at h0 <;> assumption
    obtain ⟨k, rfl, hk⟩ : ∃ k : Nat, i = k ∧ k < 64 * xs.length := by
      unfold getE at h0; rw [if_pos h1] at h0
      by_cases h2 : hasB xs.length i = true
      · exact hasB_true h2
      · rw [if_neg h2] at h0; omega
    have W := Lib.hid (fun d => with_any v xs k t (w.drewN d) (hv.drewN d) hw hl hk)
    have R := Lib.hid (show setR xs k t = setB xs k t by unfold setR; rw [if_pos h0]; rfl)
    have E := Lib.hid h0
    have hne : (getE xs.length k != 0) = false := by simp [h0]
    clear h0 h1
    go_enter Try.func17, Try.ntmps17
    go_wp2_with (first
      | (go_at_call 13; refine G.out.mono ?_; rintro e w' ⟨rfl, d, rfl⟩)
      | (go_at_call 43; refine (W.out _).mono ?_; rintro e w1 ⟨g, c, rfl, hg, hown, hb⟩))
    go_ret2
    exact ⟨_, by rw [E.out]; rfl, by rw [R.out]; exact setB_ok hown, (below_drewN w d).trans hb⟩
  · have hne : (getE xs.length i != 0) = true := by simp [h0]
    have R := Lib.hid (show setR xs i t = [] by unfold setR; rw [if_neg h0])
    clear h0
    go_enter Try.func17, Try.ntmps17
    go_wp2_with (go_at_call 13; refine G.out.mono ?_; rintro e w' ⟨rfl, d, rfl⟩)
    go_ret2
    exact ⟨.slice none 0 0, rfl, by rw [R.out]; exact URow.none _, below_drewN w d⟩
end Go.Proofs.Ytnegnmjjibhldaa
