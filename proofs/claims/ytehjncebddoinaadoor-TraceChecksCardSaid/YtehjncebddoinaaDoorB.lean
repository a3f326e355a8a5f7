/- The reference's Check. -/
import Derived.Test.YtehjncebddoinaaDoorA
namespace Go.Proofs.YtehjncebddoinaaDoor
open Go.RowKit
theorem rgood_any (x : Ev) (cells : Int) (w : World) (hx : okE x) : Calls Tryd.prog 27 #[evV x, .int .i64 cells] w fun e w' => e = .returned (.int .i64 (evE cells x)) ∧ Below w.heap.size w w' := by
  obtain ⟨k, a⟩ := x
  obtain ⟨⟨w1, w2⟩, w3, w4⟩ := hx
  simp only at w1 w2 w3 w4
  have x2 : IntKind.i64.wrap a = a := IntWalk.i64_in _ (by omega)
  unfold evV
  simp only
  by_cases k1 : k = 1
  · subst k1
    have q1 : kindB ((1 : Int), a).1 = true := rfl
    by_cases q2 : a < 0
    · have u2 : decide (a < 0) = true := decide_eq_true q2
      have R := Lib.hid (evE_7 (cells := cells) q1 (.inl q2))
      clear q1 q2
      go_enter Tryd.func27, Tryd.ntmps27
      go_wp2
      go_ret
      exact ⟨by rw [R.out]; rfl, (Below.refl _ _).alloc (Nat.le_refl _) _⟩
    · have u2 : decide (a < 0) = false := decide_eq_false q2
      by_cases q3 : cells ≤ a
      · have u3 : decide (cells ≤ a) = true := decide_eq_true q3
        have R := Lib.hid (evE_7 (cells := cells) q1 (.inr q3))
        clear q1 q2 q3
        go_enter Tryd.func27, Tryd.ntmps27
        go_wp2
        go_ret
        exact ⟨by rw [R.out]; rfl, (Below.refl _ _).alloc (Nat.le_refl _) _⟩
      · have u3 : decide (cells ≤ a) = false := decide_eq_false q3
        have R := Lib.hid (evE_0 (cells := cells) q1 q2 q3)
        clear q1 q2 q3
        go_enter Tryd.func27, Tryd.ntmps27
        go_wp2
        go_ret
        exact ⟨by rw [R.out]; rfl, (Below.refl _ _).alloc (Nat.le_refl _) _⟩
  · have t1 : (k != 1) = true := by simpa using k1
    by_cases k2 : k = 2
    · subst k2
      have q1 : kindB ((2 : Int), a).1 = true := rfl
      by_cases q2 : a < 0
      · have u2 : decide (a < 0) = true := decide_eq_true q2
        have R := Lib.hid (evE_7 (cells := cells) q1 (.inl q2))
        clear q1 q2
        go_enter Tryd.func27, Tryd.ntmps27
        go_wp2
        go_ret
        exact ⟨by rw [R.out]; rfl, (Below.refl _ _).alloc (Nat.le_refl _) _⟩
      · have u2 : decide (a < 0) = false := decide_eq_false q2
        by_cases q3 : cells ≤ a
        · have u3 : decide (cells ≤ a) = true := decide_eq_true q3
          have R := Lib.hid (evE_7 (cells := cells) q1 (.inr q3))
          clear q1 q2 q3
          go_enter Tryd.func27, Tryd.ntmps27
          go_wp2
          go_ret
          exact ⟨by rw [R.out]; rfl, (Below.refl _ _).alloc (Nat.le_refl _) _⟩
        · have u3 : decide (cells ≤ a) = false := decide_eq_false q3
          have R := Lib.hid (evE_0 (cells := cells) q1 q2 q3)
          clear q1 q2 q3
          go_enter Tryd.func27, Tryd.ntmps27
          go_wp2
          go_ret
          exact ⟨by rw [R.out]; rfl, (Below.refl _ _).alloc (Nat.le_refl _) _⟩
    · have t2 : (k != 2) = true := by simpa using k2
      have R := Lib.hid (evE_2 (cells := cells) (x := (k, a)) (by unfold kindB; simp [k1, k2]))
      clear k1 k2
      go_enter Tryd.func27, Tryd.ntmps27
      go_wp2
      go_ret
      exact ⟨by rw [R.out]; rfl, (Below.refl _ _).alloc (Nat.le_refl _) _⟩
set_option maxRecDepth 100000 in
theorem rcheck_any (v : Value) (l : List Ev) (cells : Int) (w : World) (hv : TR w v l) (hl : l.length ≤ 100000000) :
    Calls Tryd.prog 11 #[v, .int .i64 cells] w (ChPost w (checkP l cells)) := by
  obtain ⟨ho, p, c, rfl, _, hx⟩ := hv
  have HO := Lib.hid ho
  have HX := Lib.hid hx
  obtain ⟨n, hn⟩ : ∃ n, n = l.length := ⟨_, rfl⟩
  rw [← hn] at hl ⊢
  have HN := Lib.hid hn
  clear ho hx
  by_cases h1 : cells < 1
  · have R := Lib.hid (show checkP l cells = (-1, 7) by unfold checkP; rw [if_pos (.inl h1)])
    have t1 : decide (cells < 1) = true := decide_eq_true h1
    clear h1 hn
    go_enter Tryd.func11, Tryd.ntmps11
    go_wp2
    go_ret2
    exact ⟨by rw [R.out]; rfl, Below.refl _ _⟩
  have t1 : decide (cells < 1) = false := decide_eq_false h1
  by_cases h2 : 65536 < cells
  · have R := Lib.hid (show checkP l cells = (-1, 7) by unfold checkP; rw [if_pos (.inr h2)])
    have t2 : decide (65536 < cells) = true := decide_eq_true h2
    clear h1 h2 hn
    go_enter Tryd.func11, Tryd.ntmps11
    go_wp2
    go_ret2
    exact ⟨by rw [R.out]; rfl, Below.refl _ _⟩
  have t2 : decide (65536 < cells) = false := decide_eq_false h2
  by_cases h3 : 8388608 < n
  · have R := Lib.hid (show checkP l cells = (-1, 3) by unfold checkP; rw [if_neg (by omega), if_pos (by omega)])
    have t3 : decide ((8388608 : Int) < (n : Int)) = true := decide_eq_true (by omega)
    clear h1 h2 h3 hn
    go_enter Tryd.func11, Tryd.ntmps11
    go_wp2
    go_ret2
    exact ⟨by rw [R.out]; rfl, Below.refl _ _⟩
  have t3 : decide ((8388608 : Int) < (n : Int)) = false := decide_eq_false (by omega)
  have R := Lib.hid (show checkP l cells = chkL cells 0 l by unfold checkP; rw [if_neg (by omega), if_neg (by omega)])
  clear hn
  go_enter Tryd.func11, Tryd.ntmps11
  go_wp2
  go_loopw [6, 7] (fun i _ wr => ∃ k : Nat, k ≤ n ∧ i = .int .i64 (k : Int) ∧ Hid (chkL cells 0 l = chkL cells k (l.drop k)) ∧ Below w.heap.size w wr) (fun i _ _ => n - (intOf i).toNat)
  case atStart => exact ⟨0, Nat.zero_le _, rfl, Lib.hid rfl, Below.refl _ _⟩
  case round =>
    obtain ⟨k, hk, rfl, hc, hb⟩ := hrel
    by_cases hlt : k < n
    · have tl : decide ((k : Int) < (n : Int)) = true := decide_eq_true (by omega)
      obtain ⟨x, hxk⟩ : ∃ x, l[k]? = some x := ⟨_, List.getElem?_eq_getElem (by rw [← HN.out]; exact hlt)⟩
      obtain ⟨b, o, rfl, hbl, c1, c2⟩ := HX.out k x hxk
      replace c1 := (hb.cell (p := ⟨b, o + k * 2, none⟩) hbl).trans c1
      replace c2 := (hb.cell (p := ⟨b, o + k * 2 + 1, none⟩) hbl).trans c2
      have GD := rgood_any x cells wr (okE_at HO.out hxk)
      unfold evV at GD
      have HB := Lib.hid (fun w' (h : Below wr.heap.size wr w') => hb.trans (h.mono hb.size))
      clear hb hbl
      by_cases q : evE cells x = 0
      · rw [q] at GD
        replace GD := Lib.hid GD
        have E := Lib.hid (chk_step hxk q)
        clear q hxk
        go_wp2_with (go_at_call 27; refine GD.out.mono ?_; rintro e w' ⟨rfl, hb2⟩)
        go_roundw
        case rel => exact ⟨k + 1, by omega, by go_num, Lib.hid (by rw [hc.out, E.out]), HB.out _ hb2⟩
        case measure => simp [intOf]; omega
      · have E := Lib.hid (chk_bad hxk q)
        have tq : (evE cells x != 0) = true := by simpa using q
        generalize evE cells x = z at *
        replace GD := Lib.hid GD
        clear q hxk
        go_wp2_with (go_at_call 27; refine GD.out.mono ?_; rintro e w' ⟨rfl, hb2⟩)
        go_ret2
        exact ⟨by rw [R.out, hc.out, E.out]; rfl, HB.out _ hb2⟩
    · have tl : decide ((k : Int) < (n : Int)) = false := decide_eq_false (by omega)
      have E := Lib.hid (chk_end (cells := cells) (l := l) (k := k) (by rw [← HN.out]; omega))
      go_wp2
      go_ret2
      exact ⟨by rw [R.out, hc.out, E.out]; rfl, hb⟩
end Go.Proofs.YtehjncebddoinaaDoor
