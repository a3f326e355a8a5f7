/- What is asked of two rows; Exchange of rows that are there; Exchange; both. -/
import Derived.Test.YtalnhbjpfnodiaaYa
import Derived.Test.YtalnhbjpfnodiaaZr
namespace Go.Proofs.Ytalnhbjpfnodiaa
open Go.RowKit
/-- The error of two rows. -/
def ckQ (f : Int → Int) (x y k : Int) : Int := if k < 1 ∨ 64 < k then 7 else hasF f [x, y]
theorem hasF_one (f : Int → Int) (x y : Int) : hasF f [x, y] = if f x = 0 then f y else f x := by
  unfold hasF hasF hasF
  by_cases h : f x = 0
  · rw [if_pos h, if_pos h]
    by_cases h2 : f y = 0
    · rw [if_pos h2, h2]
    · rw [if_neg h2]
  · rw [if_neg h, if_neg h]
theorem ckr_any (P : Value) (f : Int → Int) (x y k : Int) (w : World) (hx : i64R x) (hy : i64R y) (ha : 1 ≤ k ∧ k ≤ 64 → ∀ x, i64R x → Calls Try.prog 59 #[P, .int .i64 x, .int .i64 k] w fun e w' => e = .returned (.int .i64 (f x)) ∧ w = w') :
    Calls Try.prog 53 #[P, .int .i64 x, .int .i64 y, .int .i64 k] w fun e w' => e = .returned (.int .i64 (ckQ f x y k)) ∧ w = w' := by
  by_cases hk1 : k < 1
  · have t1 : decide (k < 1) = true := decide_eq_true hk1
    have HK : Hid (ckQ f x y k = 7) := Lib.hid (if_pos (.inl hk1))
    clear ha hk1 hx hy
    go_enter Try.func53, Try.ntmps53
    go_wp2
    go_ret
    exact ⟨by rw [HK.out]; rfl, rfl⟩
  have t1 : decide (k < 1) = false := decide_eq_false hk1
  by_cases hk2 : 64 < k
  · have t2 : decide (k > 64) = true := decide_eq_true hk2
    have t2' : decide (64 < k) = true := decide_eq_true hk2
    have HK : Hid (ckQ f x y k = 7) := Lib.hid (if_pos (.inr hk2))
    clear ha hk1 hk2 hx hy
    go_enter Try.func53, Try.ntmps53
    go_wp2
    go_ret
    exact ⟨by rw [HK.out]; rfl, rfl⟩
  have t2 : decide (k > 64) = false := decide_eq_false hk2
  have t2' : decide (64 < k) = false := decide_eq_false hk2
  have HK : Hid (ckQ f x y k = if f x = 0 then f y else f x) := Lib.hid (by unfold ckQ; rw [if_neg (by omega), hasF_one])
  have A1 := Lib.hid (ha (by omega) x hx)
  have A2 := Lib.hid (ha (by omega) y hy)
  obtain ⟨z, hz⟩ : ∃ z, z = f x := ⟨_, rfl⟩
  rw [← hz] at A1 HK
  by_cases h0 : z = 0
  · rw [if_pos h0] at HK
    subst h0
    clear hz ha hk1 hk2 hx hy
    go_enter Try.func53, Try.ntmps53
    go_wp2_with (first
      | (go_at_call 59; (with_reducible refine (A1.out).mono ?_); rintro e w' ⟨rfl, rfl⟩)
      | (go_at_call 59; (with_reducible refine (A2.out).mono ?_); rintro e w' ⟨rfl, rfl⟩))
    go_ret
    exact ⟨by rw [HK.out]; rfl, rfl⟩
  · rw [if_neg h0] at HK
    have t3 : (z != 0) = true := by rw [bne_iff_ne]; exact h0
    have t4 : (z == 0) = false := by rw [beq_eq_false_iff_ne]; exact h0
    clear hz ha hk1 hk2 hx hy h0
    go_enter Try.func53, Try.ntmps53
    go_wp2_with (first
      | (go_at_call 59; (with_reducible refine (A1.out).mono ?_); rintro e w' ⟨rfl, rfl⟩))
    go_ret
    exact ⟨by rw [HK.out]; rfl, rfl⟩
theorem rckr_any (P : Value) (f : Int → Int) (x y k : Int) (w : World) (hx : i64R x) (hy : i64R y) (ha : 1 ≤ k ∧ k ≤ 64 → ∀ x, i64R x → Calls Try.prog 71 #[P, .int .i64 x, .int .i64 k] w fun e w' => e = .returned (.int .i64 (f x)) ∧ w = w') :
    Calls Try.prog 68 #[P, .int .i64 x, .int .i64 y, .int .i64 k] w fun e w' => e = .returned (.int .i64 (ckQ f x y k)) ∧ w = w' := by
  by_cases hk1 : k < 1
  · have t1 : decide (k < 1) = true := decide_eq_true hk1
    have HK : Hid (ckQ f x y k = 7) := Lib.hid (if_pos (.inl hk1))
    clear ha hk1 hx hy
    go_enter Try.func68, Try.ntmps68
    go_wp2
    go_ret
    exact ⟨by rw [HK.out]; rfl, rfl⟩
  have t1 : decide (k < 1) = false := decide_eq_false hk1
  by_cases hk2 : 64 < k
  · have t2 : decide (k > 64) = true := decide_eq_true hk2
    have t2' : decide (64 < k) = true := decide_eq_true hk2
    have HK : Hid (ckQ f x y k = 7) := Lib.hid (if_pos (.inr hk2))
    clear ha hk1 hk2 hx hy
    go_enter Try.func68, Try.ntmps68
    go_wp2
    go_ret
    exact ⟨by rw [HK.out]; rfl, rfl⟩
  have t2 : decide (k > 64) = false := decide_eq_false hk2
  have t2' : decide (64 < k) = false := decide_eq_false hk2
  have HK : Hid (ckQ f x y k = if f x = 0 then f y else f x) := Lib.hid (by unfold ckQ; rw [if_neg (by omega), hasF_one])
  have A1 := Lib.hid (ha (by omega) x hx)
  have A2 := Lib.hid (ha (by omega) y hy)
  obtain ⟨z, hz⟩ : ∃ z, z = f x := ⟨_, rfl⟩
  rw [← hz] at A1 HK
  by_cases h0 : z = 0
  · rw [if_pos h0] at HK
    subst h0
    clear hz ha hk1 hk2 hx hy
    go_enter Try.func68, Try.ntmps68
    go_wp2_with (first
      | (go_at_call 71; (with_reducible refine (A1.out).mono ?_); rintro e w' ⟨rfl, rfl⟩)
      | (go_at_call 71; (with_reducible refine (A2.out).mono ?_); rintro e w' ⟨rfl, rfl⟩))
    go_ret
    exact ⟨by rw [HK.out]; rfl, rfl⟩
  · rw [if_neg h0] at HK
    have t3 : (z != 0) = true := by rw [bne_iff_ne]; exact h0
    have t4 : (z == 0) = false := by rw [beq_eq_false_iff_ne]; exact h0
    clear hz ha hk1 hk2 hx hy h0
    go_enter Try.func68, Try.ntmps68
    go_wp2_with (first
      | (go_at_call 71; (with_reducible refine (A1.out).mono ?_); rintro e w' ⟨rfl, rfl⟩))
    go_ret
    exact ⟨by rw [HK.out]; rfl, rfl⟩
theorem cover_any (x y k : Int) (w : World) (hx : 0 ≤ x ∧ x ≤ 65536) (hy : 0 ≤ y ∧ y ≤ 65536) (hk : 1 ≤ k ∧ k ≤ 64) : Calls Try.prog 54 #[.int .i64 x, .int .i64 y, .int .i64 k] w fun e w' => e = .returned (.bool (decide (x < y + k ∧ y < x + k))) ∧ w = w' := by
  obtain ⟨yk, hyk⟩ : ∃ z, z = y + k := ⟨_, rfl⟩
  obtain ⟨xk, hxk⟩ : ∃ z, z = x + k := ⟨_, rfl⟩
  have e1 : IntKind.i64.wrap (y + k) = yk := by rw [IntKind.wrap_i64]; omega
  have e2 : IntKind.i64.wrap (x + k) = xk := by rw [IntKind.wrap_i64]; omega
  rw [← hyk, ← hxk]
  clear hyk hxk hx hy hk
  by_cases h1 : x < yk
  · have t1 : decide (x < yk) = true := decide_eq_true h1
    have HD : Hid (decide (x < yk ∧ y < xk) = decide (y < xk)) := Lib.hid (decide_eq_decide.2 ⟨fun h => h.2, fun h => ⟨h1, h⟩⟩)
    obtain ⟨b, hb⟩ : ∃ b, b = decide (x < yk ∧ y < xk) := ⟨_, rfl⟩
    rw [← hb] at HD ⊢
    clear hb
    go_enter Try.func54, Try.ntmps54
    go_wp2
    go_ret
    exact ⟨by rw [HD.out]; rfl, rfl⟩
  · have t1 : decide (x < yk) = false := decide_eq_false h1
    have HD : Hid (decide (x < yk ∧ y < xk) = false) := Lib.hid (decide_eq_false fun h => h1 h.1)
    obtain ⟨b, hb⟩ : ∃ b, b = decide (x < yk ∧ y < xk) := ⟨_, rfl⟩
    rw [← hb] at HD ⊢
    clear hb
    go_enter Try.func54, Try.ntmps54
    go_wp2
    go_ret
    exact ⟨by rw [HD.out]; rfl, rfl⟩
section
variable {w w' : World} {F : Nat → Prop} {p : Nat} {cs c' : List Nat} {rs : List Rg} {tr t' : List (Nat × Nat)}
theorem sw_good (h : Ar w F p cs rs tr) (m a b n : Nat) (hm : isM m) (h1 : 1 ≤ n) (h2 : n ≤ 64) (ha : a + n ≤ cs.length) (hb : b + n ≤ cs.length) (hd : a + n ≤ b ∨ b + n ≤ a) (hl : tr.length + 4 * n ≤ 8388608) :
    Calls Try.prog 77 #[.pointer (some ⟨p, 0, none⟩), .int .u64 (m : Int), .int .i64 (a : Int), .int .i64 (b : Int), .int .i64 (n : Int)] w fun e w' => e = .returned (.int .i64 0) ∧ Step w F p (swRC m a b cs n) rs (tr ++ swRT a b n) w' := by
  have hc : cs.length ≤ 65536 := by obtain ⟨_, _, _, _, hx⟩ := h; exact hx.ncs.2
  have := SwapRows_any h m a b n (isM_lt hm) (by unfold i64R; omega) (by unfold i64R; omega) (by unfold i64R; omega)
  rw [show rowE cs.length tr.length m 4 a b n = 0 from row_zero (st := 4) hm h1 h2 ha hb hd hl] at this
  refine this.mono ?_
  rintro e w' ⟨rfl, hs⟩
  exact ⟨rfl, hs⟩
theorem rsw_good (h : Rb w F p cs rs tr) (hw : ∀ x ∈ cs, x < 2 ^ 64) (m a b n : Nat) (hm : isM m) (h1 : 1 ≤ n) (h2 : n ≤ 64) (ha : a + n ≤ cs.length) (hb : b + n ≤ cs.length) (hd : a + n ≤ b ∨ b + n ≤ a) (hl : tr.length + 4 * n ≤ 8388608) :
    Calls Try.prog 84 #[.pointer (some ⟨p, 0, none⟩), .int .u64 (m : Int), .int .i64 (a : Int), .int .i64 (b : Int), .int .i64 (n : Int)] w fun e w' => e = .returned (.int .i64 0) ∧ RStep w F p (swRC m a b cs n) rs (tr ++ swRT a b n) w' := by
  have hc : cs.length ≤ 65536 := h.bnd.2
  have := rSwapRows_any h hw m a b n (isM_lt hm) (by unfold i64R; omega) (by unfold i64R; omega) (by unfold i64R; omega)
  rw [show rowE cs.length tr.length m 4 a b n = 0 from row_zero (st := 4) hm h1 h2 ha hb hd hl] at this
  refine this.mono ?_
  rintro e w' ⟨rfl, hs⟩
  exact ⟨rfl, hs⟩
set_option maxRecDepth 100000 in
theorem cex_any (h : Ar w F p cs rs tr) (a b n : Nat) (hn1 : 1 ≤ n) (hn2 : n ≤ 64) (ha : a + n ≤ cs.length) (hb : b + n ≤ cs.length) (hd : a + n ≤ b ∨ b + n ≤ a) (hl : tr.length + (4 * n + 2) ≤ 8388608) :
    Calls Try.prog 57 #[.pointer (some ⟨p, 0, none⟩), .int .i64 (a : Int), .int .i64 (b : Int), .int .i64 (n : Int)] w fun e w' => e = .returned (.tuple #[]) ∧ Step w F p (exC a b n cs) rs (tr ++ exT a b n) w' := by
  have hw := h.wcs
  obtain ⟨u, hu⟩ : ∃ u, u = cs.getD a 0 := ⟨_, rfl⟩
  obtain ⟨v, hv⟩ : ∃ v, v = cs.getD b 0 := ⟨_, rfl⟩
  have hu2 : u < 2 ^ 64 := hu ▸ wcs_at hw a
  have hv2 : v < 2 ^ 64 := hv ▸ wcs_at hw b
  obtain ⟨m, hm⟩ : ∃ m, m = ltM v u := ⟨_, rfl⟩
  have hM : isM m := hm ▸ ltM_mask v u
  have hC : exC a b n cs = swRC m a b cs n := by unfold exC; rw [← hu, ← hv, ← hm]
  have L1 := Lib.hid (ar_load h a u hu (by omega) (by omega))
  have L2 := Lib.hid (fun W F1 (h1 : Ar W F1 p cs rs (tr ++ [(1, a)])) => ar_load h1 b v hv (by omega) (by rw [List.length_append, List.length_singleton]; omega))
  have LE := Lib.hid (fun W => less_any v u W hv2 hu2)
  rw [← hm] at LE
  have SW := Lib.hid (fun W F1 (h1 : Ar W F1 p cs rs (tr ++ [(1, a)] ++ [(1, b)])) => sw_good h1 m a b n hM hn1 hn2 ha hb hd (by rw [List.length_append, List.length_append, List.length_singleton, List.length_singleton]; omega))
  rw [hC, show tr ++ exT a b n = tr ++ [(1, a)] ++ [(1, b)] ++ swRT a b n by simp [exT]]
  clear hu hv hu2 hv2 hm hM hC hw h ha hb hd hl hn1 hn2
  go_enter Try.func57, Try.ntmps57
  go_wp2_with (first
    | (go_at_call 76; (with_reducible refine (L1.out).mono ?_); rintro e w1 ⟨rfl, F1, e1, a1, k1⟩; have A1 := Lib.hid a1; have Q1 := Lib.hid (And.intro e1 k1); clear a1 e1 k1)
    | (go_at_call 76; (with_reducible refine (L2.out _ _ A1.out).mono ?_); rintro e w2 ⟨rfl, F2, e2, a2, k2⟩; have A2 := Lib.hid a2; have Q2 := Lib.hid (And.intro e2 k2); clear a2 e2 k2)
    | (go_at_call 11; (with_reducible refine (LE.out _).mono ?_); rintro e w' ⟨rfl, rfl⟩)
    | (go_at_call 77; (with_reducible refine (SW.out _ _ A2.out).mono ?_); rintro e w3 ⟨rfl, hs3⟩))
  refine bodyPost_end (results_none rfl _ _ _) rfl ?_
  exact ⟨rfl, Step.trans Q1.out.1 Q1.out.2 (Step.trans Q2.out.1 Q2.out.2 hs3)⟩
set_option maxRecDepth 100000 in
theorem rex_any (h : Rb w F p cs rs tr) (hw : ∀ x ∈ cs, x < 2 ^ 64) (a b n : Nat) (hn1 : 1 ≤ n) (hn2 : n ≤ 64) (ha : a + n ≤ cs.length) (hb : b + n ≤ cs.length) (hd : a + n ≤ b ∨ b + n ≤ a) (hl : tr.length + (4 * n + 2) ≤ 8388608) :
    Calls Try.prog 70 #[.pointer (some ⟨p, 0, none⟩), .int .i64 (a : Int), .int .i64 (b : Int), .int .i64 (n : Int)] w fun e w' => e = .returned (.tuple #[]) ∧ RStep w F p (exC a b n cs) rs (tr ++ exT a b n) w' := by
  obtain ⟨u, hu⟩ : ∃ u, u = cs.getD a 0 := ⟨_, rfl⟩
  obtain ⟨v, hv⟩ : ∃ v, v = cs.getD b 0 := ⟨_, rfl⟩
  have hu2 : u < 2 ^ 64 := hu ▸ wcs_at hw a
  have hv2 : v < 2 ^ 64 := hv ▸ wcs_at hw b
  obtain ⟨m, hm⟩ : ∃ m, m = ltM v u := ⟨_, rfl⟩
  have hM : isM m := hm ▸ ltM_mask v u
  have hC : exC a b n cs = swRC m a b cs n := by unfold exC; rw [← hu, ← hv, ← hm]
  have L1 := Lib.hid (rb_load h a u hu (by omega) (by omega))
  have L2 := Lib.hid (fun W F1 (h1 : Rb W F1 p cs rs (tr ++ [(1, a)])) => rb_load h1 b v hv (by omega) (by rw [List.length_append, List.length_singleton]; omega))
  have LE := Lib.hid (fun W => rless_any v u W)
  rw [← hm] at LE
  have SW := Lib.hid (fun W F1 (h1 : Rb W F1 p cs rs (tr ++ [(1, a)] ++ [(1, b)])) => rsw_good h1 hw m a b n hM hn1 hn2 ha hb hd (by rw [List.length_append, List.length_append, List.length_singleton, List.length_singleton]; omega))
  rw [hC, show tr ++ exT a b n = tr ++ [(1, a)] ++ [(1, b)] ++ swRT a b n by simp [exT]]
  clear hu hv hu2 hv2 hm hM hC hw h ha hb hd hl hn1 hn2
  go_enter Try.func70, Try.ntmps70
  go_wp2_with (first
    | (go_at_call 83; (with_reducible refine (L1.out).mono ?_); rintro e w1 ⟨rfl, F1, e1, a1, k1⟩; have A1 := Lib.hid a1; have Q1 := Lib.hid (And.intro e1 k1); clear a1 e1 k1)
    | (go_at_call 83; (with_reducible refine (L2.out _ _ A1.out).mono ?_); rintro e w2 ⟨rfl, F2, e2, a2, k2⟩; have A2 := Lib.hid a2; have Q2 := Lib.hid (And.intro e2 k2); clear a2 e2 k2)
    | (go_at_call 12; (with_reducible refine (LE.out _).mono ?_); rintro e w' ⟨rfl, rfl⟩)
    | (go_at_call 84; (with_reducible refine (SW.out _ _ A2.out).mono ?_); rintro e w3 ⟨rfl, hs3⟩))
  refine bodyPost_end (results_none rfl _ _ _) rfl ?_
  exact ⟨rfl, RStep.trans Q1.out.1 Q1.out.2 (RStep.trans Q2.out.1 Q2.out.2 hs3)⟩
end
end Go.Proofs.Ytalnhbjpfnodiaa
