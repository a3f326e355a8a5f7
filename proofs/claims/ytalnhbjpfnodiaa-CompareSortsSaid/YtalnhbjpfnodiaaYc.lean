/- Exchange, in both arenas. -/
import Derived.Test.YtalnhbjpfnodiaaYb
namespace Go.Proofs.Ytalnhbjpfnodiaa
open Go.RowKit
/-- The error of Exchange. -/
def exE (n t : Nat) (x y k : Int) : Int := if ckQ (fun v => hasE n v k) x y k = 0 then (if x < y + k ∧ y < x + k then 2 else roomE t (4 * k + 2)) else ckQ (fun v => hasE n v k) x y k
theorem ckQ_zero {n : Nat} {x y k : Int} (h : ckQ (fun v => hasE n v k) x y k = 0) : ∃ j : Nat, k = j ∧ 1 ≤ j ∧ j ≤ 64 ∧ ∃ a : Nat, x = a ∧ a + j ≤ n ∧ ∃ b : Nat, y = b ∧ b + j ≤ n := by
  unfold ckQ at h
  split at h
  · cases h
  · rename_i h1
    obtain ⟨h2, h3⟩ := hasF_two h
    have h2 := hasE_zero h2
    have h3 := hasE_zero h3
    exact ⟨k.toNat, by omega, by omega, by omega, x.toNat, by omega, by omega, y.toNat, by omega, by omega⟩
theorem exE_zero {n t : Nat} {x y k : Int} (h : exE n t x y k = 0) : ∃ j : Nat, k = j ∧ 1 ≤ j ∧ j ≤ 64 ∧ ∃ a : Nat, x = a ∧ a + j ≤ n ∧ ∃ b : Nat, y = b ∧ b + j ≤ n ∧ (a + j ≤ b ∨ b + j ≤ a) ∧ t + (4 * j + 2) ≤ 8388608 := by
  unfold exE at h
  split at h
  · rename_i h1
    obtain ⟨j, rfl, h2, h3, a, rfl, h4, b, rfl, h5⟩ := ckQ_zero h1
    split at h
    · cases h
    · rename_i h6
      have h7 := roomE_zero h
      exact ⟨j, rfl, h2, h3, a, rfl, h4, b, rfl, h5, by omega, by omega⟩
  · rename_i h1; exact absurd h h1
theorem exC_w {x y n : Nat} {cs : List Nat} (h : ∀ v ∈ cs, v < 2 ^ 64) : ∀ v ∈ exC x y n cs, v < 2 ^ 64 := swRC_w h n
theorem soC_w {b n : Nat} : ∀ {cs : List Nat} (_ : ∀ v ∈ cs, v < 2 ^ 64) (l : List Nat), ∀ v ∈ soC b n l cs, v < 2 ^ 64
  | _, h, [] => h
  | _, h, i :: l => soC_w (b := b) (n := n) (exC_w (x := b + i * n) (y := b + (i + 1) * n) (n := n) h) l
theorem xsteps_any (j s4 : Nat) (s6 : Int) (w : World) (e1 : IntKind.i64.wrap (4 * (j : Int)) = (s4 : Int)) (e2 : IntKind.i64.wrap (2 + (s4 : Int)) = s6) : Calls Try.prog 56 #[.int .i64 (j : Int)] w fun e w' => e = .returned (.int .i64 s6) ∧ w = w' := by
  go_enter Try.func56, Try.ntmps56
  go_wp2
  go_ret
  exact ⟨rfl, rfl⟩
section
variable {w w' : World} {F : Nat → Prop} {p : Nat} {cs c' : List Nat} {rs : List Rg} {tr t' : List (Nat × Nat)}
set_option maxRecDepth 100000 in
theorem Exchange_any (h : Ar w F p cs rs tr) (x y k : Int) (hx : i64R x) (hy : i64R y) : Calls Try.prog 28 #[.pointer (some ⟨p, 0, none⟩), .int .i64 x, .int .i64 y, .int .i64 k] w (AcP w F p cs rs tr (exE cs.length tr.length x y k) (exC x.toNat y.toNat k.toNat cs) (exT x.toNat y.toNat k.toNat)) := by
  have hn : cs.length ≤ 65536 := by obtain ⟨_, _, _, _, hx⟩ := h; exact hx.ncs.2
  have CK := Lib.hid (ckr_any (.pointer (some ⟨p, 0, none⟩)) (fun v => hasE cs.length v k) x y k w hx hy (fun _ v hv => ar_has h v k hv))
  obtain ⟨E0, hE0⟩ : ∃ E0, E0 = ckQ (fun v => hasE cs.length v k) x y k := ⟨_, rfl⟩
  obtain ⟨E, hE⟩ : ∃ E, E = exE cs.length tr.length x y k := ⟨_, rfl⟩
  rw [← hE0] at CK
  rw [← hE]
  have hE1 : E = if E0 = 0 then (if x < y + k ∧ y < x + k then 2 else roomE tr.length (4 * k + 2)) else E0 := by rw [hE, hE0]; rfl
  by_cases h0 : E0 = 0
  case neg =>
    rw [if_neg h0] at hE1
    rw [hE1]
    have t2 : (E0 != 0) = true := by rw [bne_iff_ne]; exact h0
    have H0 := Lib.hid h0
    clear hE hE0 hE1 h0 hx hy hn
    go_enter Try.func28, Try.ntmps28
    go_wp2_with (first
      | (go_at_call 53; (with_reducible refine (CK.out).mono ?_); rintro e w' ⟨rfl, rfl⟩))
    go_ret
    exact AcP.no H0.out h (Below.refl _ _)
  case pos =>
    obtain ⟨j, hj, hj1, hj2, a, ha0, ha, b, hb0, hb⟩ := ckQ_zero (hE0.symm.trans h0)
    rw [if_pos h0] at hE1
    subst h0; subst hj; subst ha0; subst hb0
    have OV := Lib.hid (fun w => cover_any a b j w (by omega) (by omega) (by omega))
    have RO := Lib.hid (ar_room h (4 * (j : Int) + 2))
    have e1 : IntKind.i64.wrap (4 * (j : Int)) = ((4 * j : Nat) : Int) := by rw [IntKind.wrap_i64]; omega
    have e2 : IntKind.i64.wrap (2 + ((4 * j : Nat) : Int)) = 4 * (j : Int) + 2 := by rw [IntKind.wrap_i64]; omega
    obtain ⟨s4, hs4⟩ : ∃ s, s = 4 * j := ⟨_, rfl⟩
    obtain ⟨s6, hs6⟩ : ∃ s, s = 4 * (j : Int) + 2 := ⟨_, rfl⟩
    rw [← hs4] at e1 e2
    rw [← hs6] at e2 RO hE1
    have XS := Lib.hid (fun w => xsteps_any j s4 s6 w e1 e2)
    by_cases ho : (a : Int) < b + j ∧ (b : Int) < a + j
    · rw [if_pos ho] at hE1
      rw [decide_eq_true ho] at OV
      rw [hE1]
      clear hE hE0 hE1 ho hx hy hn RO hs4 hs6 ha hb hj1 hj2
      go_enter Try.func28, Try.ntmps28
      go_wp2_with (first
        | (go_at_call 53; (with_reducible refine (CK.out).mono ?_); rintro e w' ⟨rfl, rfl⟩)
        | (go_at_call 54; (with_reducible refine (OV.out _).mono ?_); rintro e w' ⟨rfl, rfl⟩))
      go_ret
      exact AcP.no (by decide) h (Below.refl _ _)
    · rw [if_neg ho] at hE1
      rw [decide_eq_false ho] at OV
      rw [← hE1] at RO
      by_cases h1 : E = 0
      · obtain ⟨j', hj', _, _, a', ha', _, b', hb', _, hd, hl⟩ := exE_zero (hE.symm.trans h1)
        obtain rfl : j = j' := by omega
        obtain rfl : a = a' := by omega
        obtain rfl : b = b' := by omega
        subst h1
        have EX := Lib.hid (cex_any h a b j hj1 hj2 ha hb hd hl)
        simp only [Int.toNat_natCast]
        clear hE hE0 hE1 ho hx hy hn hs4 hs6 ha hb hj1 hj2 hj' ha' hb' hd hl
        go_enter Try.func28, Try.ntmps28
        go_wp2_with (first
          | (go_at_call 53; (with_reducible refine (CK.out).mono ?_); rintro e w' ⟨rfl, rfl⟩)
          | (go_at_call 54; (with_reducible refine (OV.out _).mono ?_); rintro e w' ⟨rfl, rfl⟩)
          | (go_at_call 56; (with_reducible refine (XS.out _).mono ?_); rintro e w' ⟨rfl, rfl⟩)
          | (go_at_call 55; (with_reducible refine (RO.out).mono ?_); rintro e w' ⟨rfl, rfl⟩)
          | (go_at_call 57; (with_reducible refine (EX.out).mono ?_); rintro e w' ⟨rfl, hs⟩; have HS := Lib.hid hs; clear hs))
        go_ret
        exact AcP.ok HS.out
      · have t2 : (E != 0) = true := by rw [bne_iff_ne]; exact h1
        have H0 := Lib.hid h1
        clear hE hE0 hE1 ho hx hy hn hs4 hs6 ha hb hj1 hj2 h1
        go_enter Try.func28, Try.ntmps28
        go_wp2_with (first
          | (go_at_call 53; (with_reducible refine (CK.out).mono ?_); rintro e w' ⟨rfl, rfl⟩)
          | (go_at_call 54; (with_reducible refine (OV.out _).mono ?_); rintro e w' ⟨rfl, rfl⟩)
          | (go_at_call 56; (with_reducible refine (XS.out _).mono ?_); rintro e w' ⟨rfl, rfl⟩)
          | (go_at_call 55; (with_reducible refine (RO.out).mono ?_); rintro e w' ⟨rfl, rfl⟩))
        go_ret
        exact AcP.no H0.out h (Below.refl _ _)
set_option maxRecDepth 100000 in
theorem rExchange_any (h : Rb w F p cs rs tr) (hw : ∀ x ∈ cs, x < 2 ^ 64) (x y k : Int) (hx : i64R x) (hy : i64R y) : Calls Try.prog 47 #[.pointer (some ⟨p, 0, none⟩), .int .i64 x, .int .i64 y, .int .i64 k] w (RcP w F p cs rs tr (exE cs.length tr.length x y k) (exC x.toNat y.toNat k.toNat cs) (exT x.toNat y.toNat k.toNat)) := by
  have hn : cs.length ≤ 65536 := h.bnd.2
  have CK := Lib.hid (rckr_any (.pointer (some ⟨p, 0, none⟩)) (fun v => hasE cs.length v k) x y k w hx hy (fun _ v hv => rb_has h v k hv))
  obtain ⟨E0, hE0⟩ : ∃ E0, E0 = ckQ (fun v => hasE cs.length v k) x y k := ⟨_, rfl⟩
  obtain ⟨E, hE⟩ : ∃ E, E = exE cs.length tr.length x y k := ⟨_, rfl⟩
  rw [← hE0] at CK
  rw [← hE]
  have hE1 : E = if E0 = 0 then (if x < y + k ∧ y < x + k then 2 else roomE tr.length (4 * k + 2)) else E0 := by rw [hE, hE0]; rfl
  by_cases h0 : E0 = 0
  case neg =>
    rw [if_neg h0] at hE1
    rw [hE1]
    have t2 : (E0 == 0) = false := by rw [beq_eq_false_iff_ne]; exact h0
    have H0 := Lib.hid h0
    clear hE hE0 hE1 h0 hx hy hn
    go_enter Try.func47, Try.ntmps47
    go_wp2_with (first
      | (go_at_call 68; (with_reducible refine (CK.out).mono ?_); rintro e w' ⟨rfl, rfl⟩))
    go_ret
    exact RcP.no H0.out h (Below.refl _ _)
  case pos =>
    obtain ⟨j, hj, hj1, hj2, a, ha0, ha, b, hb0, hb⟩ := ckQ_zero (hE0.symm.trans h0)
    rw [if_pos h0] at hE1
    subst h0; subst hj; subst ha0; subst hb0
    have RO := Lib.hid (rb_room h (4 * (j : Int) + 2))
    have e1 : IntKind.i64.wrap (4 * (j : Int)) = ((4 * j : Nat) : Int) := by rw [IntKind.wrap_i64]; omega
    have e2 : IntKind.i64.wrap (((4 * j : Nat) : Int) + 2) = 4 * (j : Int) + 2 := by rw [IntKind.wrap_i64]; omega
    have e3 : IntKind.i64.wrap ((b : Int) + (j : Int)) = ((b + j : Nat) : Int) := by rw [IntKind.wrap_i64]; omega
    have e4 : IntKind.i64.wrap ((a : Int) + (j : Int)) = ((a + j : Nat) : Int) := by rw [IntKind.wrap_i64]; omega
    obtain ⟨s4, hs4⟩ : ∃ s, s = 4 * j := ⟨_, rfl⟩
    obtain ⟨s6, hs6⟩ : ∃ s, s = 4 * (j : Int) + 2 := ⟨_, rfl⟩
    rw [← hs4] at e1 e2
    rw [← hs6] at e2 RO hE1
    have hO : ((a : Int) < b + j ∧ (b : Int) < a + j) ↔ (a < b + j ∧ b < a + j) := by omega
    obtain ⟨bj, hbj⟩ : ∃ s, s = b + j := ⟨_, rfl⟩
    obtain ⟨aj, haj⟩ : ∃ s, s = a + j := ⟨_, rfl⟩
    rw [← hbj, ← haj] at hO
    rw [← hbj] at e3
    rw [← haj] at e4
    by_cases ho : a < bj ∧ b < aj
    · rw [if_pos (hO.2 ho)] at hE1
      rw [hE1]
      have t1 : decide ((a : Int) < (bj : Int)) = true := decide_eq_true (by omega)
      have t1n : decide (a < bj) = true := decide_eq_true ho.1
      have t2 : decide ((b : Int) < (aj : Int)) = true := decide_eq_true (by omega)
      have t2n : decide (b < aj) = true := decide_eq_true ho.2
      clear hE hE0 hE1 ho hx hy hn RO hs4 hs6 ha hb hj1 hj2 hO hbj haj
      go_enter Try.func47, Try.ntmps47
      go_wp2_with (first
        | (go_at_call 68; (with_reducible refine (CK.out).mono ?_); rintro e w' ⟨rfl, rfl⟩))
      go_ret
      exact RcP.no (by decide) h (Below.refl _ _)
    · rw [if_neg (fun hh => ho (hO.1 hh))] at hE1
      rw [← hE1] at RO
      obtain ⟨q1, hq1⟩ : ∃ q, q = decide (a < bj) := ⟨_, rfl⟩
      obtain ⟨q2, hq2⟩ : ∃ q, q = decide (b < aj) := ⟨_, rfl⟩
      have t1 : decide ((a : Int) < (bj : Int)) = q1 := by rw [hq1]; exact decide_eq_decide.2 (by omega)
      have t2 : decide ((b : Int) < (aj : Int)) = q2 := by rw [hq2]; exact decide_eq_decide.2 (by omega)
      have hq : (q1 && q2) = false := by rw [hq1, hq2, ← Bool.decide_and]; exact decide_eq_false ho
      by_cases h1 : E = 0
      · obtain ⟨j', hj', _, _, a', ha', _, b', hb', _, hd, hl⟩ := exE_zero (hE.symm.trans h1)
        obtain rfl : j = j' := by omega
        obtain rfl : a = a' := by omega
        obtain rfl : b = b' := by omega
        subst h1
        have EX := Lib.hid (rex_any h hw a b j hj1 hj2 ha hb hd hl)
        simp only [Int.toNat_natCast]
        clear hE hE0 hE1 ho hx hy hn hs4 hs6 ha hb hj1 hj2 hj' ha' hb' hd hl hO hbj haj
        have hq1' := hq1.symm
        have hq2' := hq2.symm
        cases q1 <;> cases q2 <;> first
          | (exact absurd hq (by decide))
          | (clear hq hq1 hq2
             go_enter Try.func47, Try.ntmps47
             go_wp2_with (first
               | (go_at_call 68; (with_reducible refine (CK.out).mono ?_); rintro e w' ⟨rfl, rfl⟩)
               | (go_at_call 69; (with_reducible refine (RO.out).mono ?_); rintro e w' ⟨rfl, rfl⟩)
               | (go_at_call 70; (with_reducible refine (EX.out).mono ?_); rintro e w' ⟨rfl, hs⟩; have HS := Lib.hid hs; clear hs))
             go_ret
             exact RcP.ok HS.out)
      · have u2 : (E == 0) = false := by rw [beq_eq_false_iff_ne]; exact h1
        have H0 := Lib.hid h1
        clear hE hE0 hE1 ho hx hy hn hs4 hs6 ha hb hj1 hj2 h1 hO hbj haj
        have hq1' := hq1.symm
        have hq2' := hq2.symm
        cases q1 <;> cases q2 <;> first
          | (exact absurd hq (by decide))
          | (clear hq hq1 hq2
             go_enter Try.func47, Try.ntmps47
             go_wp2_with (first
               | (go_at_call 68; (with_reducible refine (CK.out).mono ?_); rintro e w' ⟨rfl, rfl⟩)
               | (go_at_call 69; (with_reducible refine (RO.out).mono ?_); rintro e w' ⟨rfl, rfl⟩))
             go_ret
             exact RcP.no H0.out h (Below.refl _ _))
end
end Go.Proofs.Ytalnhbjpfnodiaa
