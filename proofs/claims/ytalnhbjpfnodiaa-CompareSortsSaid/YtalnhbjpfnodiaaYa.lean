/- Less, LessSigned, Equal, Between, Min, Max; the reference's. -/
import Derived.Test.YtalnhbjpfnodiaaYp
import Derived.Test.YtalnhbjpfnodiaaZa
import Derived.Shelf.Abstract
namespace Go.Proofs.Ytalnhbjpfnodiaa
open Go.RowKit
theorem nless_any (a b : Nat) (w : World) (ha : a < 2 ^ 64) (hb : b < 2 ^ 64) : Calls Try.prog 37 #[.int .u64 (a : Int), .int .u64 (b : Int)] w fun e w' => e = .returned (.int .u64 (ltN a b : Int)) ∧ w = w' := by
  have e1 := less_u64 ha hb
  go_enter Try.func37, Try.ntmps37
  go_wp2
  go_ret
  exact ⟨rfl, rfl⟩
theorem nsame_any (a b : Nat) (w : World) (ha : a < 2 ^ 64) (hb : b < 2 ^ 64) : Calls Try.prog 36 #[.int .u64 (a : Int), .int .u64 (b : Int)] w fun e w' => e = .returned (.int .u64 (eqN a b : Int)) ∧ w = w' := by
  have e1 := same_u64 a b
  have C1 := Lib.hid (fun w => nless_any a b w ha hb)
  have C2 := Lib.hid (fun w => nless_any b a w hb ha)
  go_enter Try.func36, Try.ntmps36
  go_wp2_with (first
    | (go_at_call 37; (with_reducible refine (C1.out _).mono ?_); rintro e w' ⟨rfl, rfl⟩)
    | (go_at_call 37; (with_reducible refine (C2.out _).mono ?_); rintro e w' ⟨rfl, rfl⟩))
  go_ret
  exact ⟨rfl, rfl⟩
theorem nsigned_any (a b : Nat) (w : World) (ha : a < 2 ^ 64) (hb : b < 2 ^ 64) : Calls Try.prog 38 #[.int .u64 (a : Int), .int .u64 (b : Int)] w fun e w' => e = .returned (.int .u64 (ltN (flip a) (flip b) : Int)) ∧ w = w' := by
  have e1 := flip_u64 ha
  have e2 := flip_u64 hb
  have C1 := Lib.hid (fun w => nless_any (flip a) (flip b) w (flip_lt a) (flip_lt b))
  go_enter Try.func38, Try.ntmps38
  go_wp2_with (first
    | (go_at_call 37; (with_reducible refine (C1.out _).mono ?_); rintro e w' ⟨rfl, rfl⟩))
  go_ret
  exact ⟨rfl, rfl⟩
theorem told_any (f a b r m : Nat) (w : World) (hf : ∀ w, Calls Try.prog f #[.int .u64 (a : Int), .int .u64 (b : Int)] w fun e w' => e = .returned (.int .u64 (r : Int)) ∧ w = w') (he : ∀ args w, (callFunc f args).run Try.prog w = .ok (.enter f args) w) (hr : r < 2 ^ 64) (hm : ofM r = m) :
    Calls Try.prog 35 #[.func (.func f) #[] #[], .int .u64 (a : Int), .int .u64 (b : Int)] w fun e w' => e = .returned (.int .u64 (m : Int)) ∧ w = w' := by
  have C2 := Lib.hid (fun w => of_any r w hr)
  rw [hm] at C2
  have HF := Lib.hid hf
  have e1 := he
  clear hf hm
  go_enter Try.func35, Try.ntmps35
  go_wp2_with (first
    | ((with_reducible refine (HF.out _).mono ?_); rintro e w' ⟨rfl, rfl⟩)
    | (go_at_call 64; (with_reducible refine (C2.out _).mono ?_); rintro e w' ⟨rfl, rfl⟩))
  go_ret
  exact ⟨rfl, rfl⟩
theorem less_any (a b : Nat) (w : World) (ha : a < 2 ^ 64) (hb : b < 2 ^ 64) : Calls Try.prog 11 #[.int .u64 (a : Int), .int .u64 (b : Int)] w fun e w' => e = .returned (.int .u64 (ltM a b : Int)) ∧ w = w' := by
  have C1 := Lib.hid (fun w => told_any 37 a b (ltN a b) (ltM a b) w (fun w => nless_any a b w ha hb) (enters_of Try.func37 (by kernel_rfl) rfl) (ltN_le _ _) (of_ltN a b))
  go_enter Try.func11, Try.ntmps11
  go_wp2_with (first
    | (go_at_call 35; (with_reducible refine (C1.out _).mono ?_); rintro e w' ⟨rfl, rfl⟩))
  go_ret
  exact ⟨rfl, rfl⟩
theorem equal_any (a b : Nat) (w : World) (ha : a < 2 ^ 64) (hb : b < 2 ^ 64) : Calls Try.prog 9 #[.int .u64 (a : Int), .int .u64 (b : Int)] w fun e w' => e = .returned (.int .u64 (eqM a b : Int)) ∧ w = w' := by
  have C1 := Lib.hid (fun w => told_any 36 a b (eqN a b) (eqM a b) w (fun w => nsame_any a b w ha hb) (enters_of Try.func36 (by kernel_rfl) rfl) (eqN_le _ _) (of_eqN a b))
  go_enter Try.func9, Try.ntmps9
  go_wp2_with (first
    | (go_at_call 35; (with_reducible refine (C1.out _).mono ?_); rintro e w' ⟨rfl, rfl⟩))
  go_ret
  exact ⟨rfl, rfl⟩
theorem signed_any (a b : Nat) (w : World) (ha : a < 2 ^ 64) (hb : b < 2 ^ 64) : Calls Try.prog 13 #[.int .u64 (a : Int), .int .u64 (b : Int)] w fun e w' => e = .returned (.int .u64 (slM a b : Int)) ∧ w = w' := by
  have C1 := Lib.hid (fun w => told_any 38 a b (ltN (flip a) (flip b)) (slM a b) w (fun w => nsigned_any a b w ha hb) (enters_of Try.func38 (by kernel_rfl) rfl) (ltN_le _ _) (of_flip ha hb))
  go_enter Try.func13, Try.ntmps13
  go_wp2_with (first
    | (go_at_call 35; (with_reducible refine (C1.out _).mono ?_); rintro e w' ⟨rfl, rfl⟩))
  go_ret
  exact ⟨rfl, rfl⟩
theorem between_any (x l h : Nat) (w : World) (hx : x < 2 ^ 64) (hl : l < 2 ^ 64) (hh : h < 2 ^ 64) : Calls Try.prog 15 #[.int .u64 (x : Int), .int .u64 (l : Int), .int .u64 (h : Int)] w fun e w' => e = .returned (.int .u64 (btM x l h : Int)) ∧ w = w' := by
  have e1 := u64_or_nat (ltM x l) (ltM h x) (ltM_lt _ _) (ltM_lt _ _)
  have C1 := Lib.hid (fun w => less_any x l w hx hl)
  have C2 := Lib.hid (fun w => less_any h x w hh hx)
  have C3 := Lib.hid (fun w => show Calls Try.prog 39 #[.int .u64 ((ltM x l ||| ltM h x : Nat) : Int)] w fun e w' => e = .returned (.int .u64 (btM x l h : Int)) ∧ w = w' by
    have := not_any (ltM x l ||| ltM h x) w (Nat.or_lt_two_pow (ltM_lt _ _) (ltM_lt _ _))
    rw [btM_not] at this
    exact this)
  obtain ⟨o, ho⟩ : ∃ o, o = ltM x l ||| ltM h x := ⟨_, rfl⟩
  rw [← ho] at e1
  simp only [← ho] at C3
  clear ho
  go_enter Try.func15, Try.ntmps15
  go_wp2_with (first
    | (go_at_call 11; (with_reducible refine (C1.out _).mono ?_); rintro e w' ⟨rfl, rfl⟩)
    | (go_at_call 11; (with_reducible refine (C2.out _).mono ?_); rintro e w' ⟨rfl, rfl⟩)
    | (go_at_call 39; (with_reducible refine (C3.out _).mono ?_); rintro e w' ⟨rfl, rfl⟩))
  go_ret
  exact ⟨rfl, rfl⟩
theorem min_any (a b : Nat) (w : World) (ha : a < 2 ^ 64) (hb : b < 2 ^ 64) : Calls Try.prog 17 #[.int .u64 (a : Int), .int .u64 (b : Int)] w fun e w' => e = .returned (.int .u64 ((min a b : Nat) : Int)) ∧ w = w' := by
  have C1 := Lib.hid (fun w => less_any a b w ha hb)
  have C2 := Lib.hid (fun w => show Calls Try.prog 40 #[.int .u64 (ltM a b : Int), .int .u64 (a : Int), .int .u64 (b : Int)] w fun e w' => e = .returned (.int .u64 ((min a b : Nat) : Int)) ∧ w = w' by
    have := sel_any (ltM a b) a b w (ltM_lt _ _) (by assumption) (by assumption)
    rw [sel_min ha hb] at this
    exact this)
  obtain ⟨o, ho⟩ : ∃ o, o = min a b := ⟨_, rfl⟩
  simp only [← ho] at C2 ⊢
  clear ho
  go_enter Try.func17, Try.ntmps17
  go_wp2_with (first
    | (go_at_call 11; (with_reducible refine (C1.out _).mono ?_); rintro e w' ⟨rfl, rfl⟩)
    | (go_at_call 40; (with_reducible refine (C2.out _).mono ?_); rintro e w' ⟨rfl, rfl⟩))
  go_ret
  exact ⟨rfl, rfl⟩
theorem max_any (a b : Nat) (w : World) (ha : a < 2 ^ 64) (hb : b < 2 ^ 64) : Calls Try.prog 19 #[.int .u64 (a : Int), .int .u64 (b : Int)] w fun e w' => e = .returned (.int .u64 ((max a b : Nat) : Int)) ∧ w = w' := by
  have C1 := Lib.hid (fun w => less_any a b w ha hb)
  have C2 := Lib.hid (fun w => show Calls Try.prog 40 #[.int .u64 (ltM a b : Int), .int .u64 (b : Int), .int .u64 (a : Int)] w fun e w' => e = .returned (.int .u64 ((max a b : Nat) : Int)) ∧ w = w' by
    have := sel_any (ltM a b) b a w (ltM_lt _ _) (by assumption) (by assumption)
    rw [sel_max ha hb] at this
    exact this)
  obtain ⟨o, ho⟩ : ∃ o, o = max a b := ⟨_, rfl⟩
  simp only [← ho] at C2 ⊢
  clear ho
  go_enter Try.func19, Try.ntmps19
  go_wp2_with (first
    | (go_at_call 11; (with_reducible refine (C1.out _).mono ?_); rintro e w' ⟨rfl, rfl⟩)
    | (go_at_call 40; (with_reducible refine (C2.out _).mono ?_); rintro e w' ⟨rfl, rfl⟩))
  go_ret
  exact ⟨rfl, rfl⟩
-- the reference
theorem rmask_any (b : Bool) (w : World) : Calls Try.prog 27 #[.bool b] w fun e w' => e = .returned (.int .u64 ((if b then onesN else 0 : Nat) : Int)) ∧ w = w' := by
  have C1 := Lib.hid (fun w => show Calls Try.prog 52 #[.int .u64 1] w fun e w' => e = .returned (.int .u64 (onesN : Int)) ∧ w = w' from rof_any 1 w (by decide))
  cases b
  · go_enter Try.func27, Try.ntmps27
    go_wp2
    go_ret
    exact ⟨rfl, rfl⟩
  · go_enter Try.func27, Try.ntmps27
    go_wp2_with (first
      | (go_at_call 52; (with_reducible refine (C1.out _).mono ?_); rintro e w' ⟨rfl, rfl⟩))
    go_ret
    exact ⟨rfl, rfl⟩
theorem mask_dec {p : Prop} [Decidable p] {b : Bool} (h : b = decide p) : (if b then onesN else 0) = if p then onesN else 0 := by
  subst h; by_cases hp : p <;> simp [hp]
theorem rless_any (a b : Nat) (w : World) : Calls Try.prog 12 #[.int .u64 (a : Int), .int .u64 (b : Int)] w fun e w' => e = .returned (.int .u64 (ltM a b : Int)) ∧ w = w' := by
  obtain ⟨t, ht⟩ : ∃ t, decide ((a : Int) < (b : Int)) = t := ⟨_, rfl⟩
  have ht2 : decide (a < b) = t := by rw [← ht]; exact decide_eq_decide.2 (by omega)
  have C1 := Lib.hid (fun w => rmask_any t w)
  have HM := Lib.hid (show (if t then onesN else 0) = ltM a b by unfold ltM; exact mask_dec (by rw [← ht]; exact decide_eq_decide.2 (by omega)))
  rw [HM.out] at C1
  go_enter Try.func12, Try.ntmps12
  go_wp2_with (first
    | (go_at_call 27; (with_reducible refine (C1.out _).mono ?_); rintro e w' ⟨rfl, rfl⟩))
  go_ret
  exact ⟨rfl, rfl⟩
theorem requal_any (a b : Nat) (w : World) : Calls Try.prog 10 #[.int .u64 (a : Int), .int .u64 (b : Int)] w fun e w' => e = .returned (.int .u64 (eqM a b : Int)) ∧ w = w' := by
  obtain ⟨t, ht⟩ : ∃ t, ((a : Int) == (b : Int)) = t := ⟨_, rfl⟩
  have C1 := Lib.hid (fun w => rmask_any t w)
  have HM := Lib.hid (show (if t then onesN else 0) = eqM a b by
    unfold eqM; refine mask_dec ?_
    rw [← ht]
    by_cases h : a = b
    · rw [h]; simp
    · rw [decide_eq_false h, beq_eq_false_iff_ne]; omega)
  rw [HM.out] at C1
  go_enter Try.func10, Try.ntmps10
  go_wp2_with (first
    | (go_at_call 27; (with_reducible refine (C1.out _).mono ?_); rintro e w' ⟨rfl, rfl⟩))
  go_ret
  exact ⟨rfl, rfl⟩
theorem rsigned_any (a b : Nat) (w : World) (ha : a < 2 ^ 64) (hb : b < 2 ^ 64) : Calls Try.prog 14 #[.int .u64 (a : Int), .int .u64 (b : Int)] w fun e w' => e = .returned (.int .u64 (slM a b : Int)) ∧ w = w' := by
  have e1 := sg_wrap ha
  have e2 := sg_wrap hb
  obtain ⟨x, hx⟩ : ∃ x, x = sg a := ⟨_, rfl⟩
  obtain ⟨y, hy⟩ : ∃ y, y = sg b := ⟨_, rfl⟩
  obtain ⟨t, ht⟩ : ∃ t, decide (x < y) = t := ⟨_, rfl⟩
  have C1 := Lib.hid (fun w => rmask_any t w)
  have HM := Lib.hid (show (if t then onesN else 0) = slM a b by unfold slM; exact mask_dec (by rw [← ht, hx, hy]))
  rw [HM.out] at C1
  rw [← hx] at e1
  rw [← hy] at e2
  clear hx hy ha hb
  go_enter Try.func14, Try.ntmps14
  go_wp2_with (first
    | (go_at_call 27; (with_reducible refine (C1.out _).mono ?_); rintro e w' ⟨rfl, rfl⟩))
  go_ret
  exact ⟨rfl, rfl⟩
theorem rmin_any (a b : Nat) (w : World) : Calls Try.prog 18 #[.int .u64 (a : Int), .int .u64 (b : Int)] w fun e w' => e = .returned (.int .u64 ((min a b : Nat) : Int)) ∧ w = w' := by
  go_enter Try.func18, Try.ntmps18
  go_wp2
  · go_ret
    exact ⟨by rw [show min a b = b by omega]; rfl, rfl⟩
  · go_ret
    exact ⟨by rw [show min a b = a by omega]; rfl, rfl⟩
theorem rmax_any (a b : Nat) (w : World) : Calls Try.prog 20 #[.int .u64 (a : Int), .int .u64 (b : Int)] w fun e w' => e = .returned (.int .u64 ((max a b : Nat) : Int)) ∧ w = w' := by
  go_enter Try.func20, Try.ntmps20
  go_wp2
  · go_ret
    exact ⟨by rw [show max a b = b by omega]; rfl, rfl⟩
  · go_ret
    exact ⟨by rw [show max a b = a by omega]; rfl, rfl⟩
theorem rbetween_any (x l h : Nat) (w : World) : Calls Try.prog 16 #[.int .u64 (x : Int), .int .u64 (l : Int), .int .u64 (h : Int)] w fun e w' => e = .returned (.int .u64 (btM x l h : Int)) ∧ w = w' := by
  have C1 := Lib.hid (fun b w => rmask_any b w)
  by_cases h1 : l ≤ x
  · have t1 : decide ((x : Int) ≥ (l : Int)) = true := decide_eq_true (by omega)
    have t1' : decide ((l : Int) ≤ (x : Int)) = true := decide_eq_true (by omega)
    have t1n : decide (l ≤ x) = true := decide_eq_true h1
    obtain ⟨t, ht⟩ : ∃ t, decide ((x : Int) ≤ (h : Int)) = t := ⟨_, rfl⟩
    have ht2 : decide (x ≤ h) = t := by rw [← ht]; exact decide_eq_decide.2 (by omega)
    have HM := Lib.hid (show (if t then onesN else 0) = btM x l h by unfold btM; exact mask_dec (by rw [← ht]; exact decide_eq_decide.2 (by omega)))
    have C2 := Lib.hid (fun w => C1.out t w)
    rw [HM.out] at C2
    clear h1 C1
    go_enter Try.func16, Try.ntmps16
    go_wp2_with (first
      | (go_at_call 27; (with_reducible refine (C2.out _).mono ?_); rintro e w' ⟨rfl, rfl⟩))
    go_ret
    exact ⟨rfl, rfl⟩
  · have t1 : decide ((x : Int) ≥ (l : Int)) = false := decide_eq_false (by omega)
    have t1' : decide ((l : Int) ≤ (x : Int)) = false := decide_eq_false (by omega)
    have t1n : decide (l ≤ x) = false := decide_eq_false h1
    have HM := Lib.hid (show 0 = btM x l h by unfold btM; rw [if_neg (by omega)])
    have C2 := Lib.hid (fun w => C1.out false w)
    clear h1 C1
    go_enter Try.func16, Try.ntmps16
    go_wp2_with (first
      | (go_at_call 27; (with_reducible refine (C2.out _).mono ?_); rintro e w' ⟨rfl, rfl⟩))
    go_ret
    exact ⟨by rw [← HM.out]; rfl, rfl⟩
end Go.Proofs.Ytalnhbjpfnodiaa
