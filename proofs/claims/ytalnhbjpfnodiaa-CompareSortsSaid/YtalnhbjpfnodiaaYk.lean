/- Sort of the reference. -/
import Derived.Test.YtalnhbjpfnodiaaYj
namespace Go.Proofs.Ytalnhbjpfnodiaa
open Go.RowKit
section
variable {w w' : World} {F : Nat → Prop} {p : Nat} {cs c' : List Nat} {rs : List Rg} {tr t' : List (Nat × Nat)}
set_option maxRecDepth 100000 in
set_option maxHeartbeats 3200000 in
theorem rSort_any (h : Rb w F p cs rs tr) (hw : ∀ x ∈ cs, x < 2 ^ 64) (x m k : Int) (hx : i64R x) : Calls Try.prog 48 #[.pointer (some ⟨p, 0, none⟩), .int .i64 x, .int .i64 m, .int .i64 k] w (RcP w F p cs rs tr (soE cs.length tr.length x m k) (soC x.toNat k.toNat (netK (m.toNat - 1)) cs) (soT x.toNat k.toNat (netK (m.toNat - 1)))) := by
  have hn : cs.length ≤ 65536 := h.bnd.2
  obtain ⟨E, hE⟩ : ∃ E, E = soE cs.length tr.length x m k := ⟨_, rfl⟩
  have hE1 : E = if isT m k then (if hasE cs.length x (m * k) = 0 then roomE tr.length (((4 * k.toNat + 2) * (netK (m.toNat - 1)).length : Nat) : Int) else hasE cs.length x (m * k)) else 7 := hE
  rw [← hE]
  by_cases h1 : m < 1
  case pos =>
    rw [if_neg (fun hT : isT m k => by have := hT.1; omega)] at hE1
    rw [hE1]
    have t1 : decide (m < 1) = true := decide_eq_true h1
    clear hE hE1 h1 hx hn
    go_enter Try.func48, Try.ntmps48
    go_wp2
    go_ret
    exact RcP.no (by decide) h (Below.refl _ _)
  have t1 : decide (m < 1) = false := decide_eq_false h1
  by_cases h2 : 16 < m
  case pos =>
    rw [if_neg (fun hT : isT m k => by have := hT.2.1; omega)] at hE1
    rw [hE1]
    have t2 : decide (m > 16) = true := decide_eq_true h2
    have t2' : decide (16 < m) = true := decide_eq_true h2
    clear hE hE1 h1 h2 hx hn
    go_enter Try.func48, Try.ntmps48
    go_wp2
    go_ret
    exact RcP.no (by decide) h (Below.refl _ _)
  have t2 : decide (m > 16) = false := decide_eq_false h2
  have t2' : decide (16 < m) = false := decide_eq_false h2
  by_cases h3 : k < 1
  case pos =>
    rw [if_neg (fun hT : isT m k => by have := hT.2.2.1; omega)] at hE1
    rw [hE1]
    have t3 : decide (k < 1) = true := decide_eq_true h3
    clear hE hE1 h1 h2 h3 hx hn
    go_enter Try.func48, Try.ntmps48
    go_wp2
    go_ret
    exact RcP.no (by decide) h (Below.refl _ _)
  have t3 : decide (k < 1) = false := decide_eq_false h3
  obtain ⟨M, rfl⟩ : ∃ M : Nat, m = M := ⟨m.toNat, by omega⟩
  obtain ⟨j, rfl⟩ : ∃ j : Nat, k = j := ⟨k.toNat, by omega⟩
  have hjm : 1 * j ≤ M * j := Nat.mul_le_mul_right j (by omega)
  obtain ⟨mj, hmj⟩ : ∃ z, z = M * j := ⟨_, rfl⟩
  have e0 : ((M : Int) * (j : Int)) = (mj : Int) := by rw [hmj]; simp
  by_cases h4 : 64 < j
  case pos =>
    rw [if_neg (fun hT : isT M j => by have := hT.2.2.2; rw [e0] at this; omega)] at hE1
    rw [hE1]
    have t4 : decide ((j : Int) > 64) = true := decide_eq_true (by omega)
    have t4' : decide ((64 : Int) < (j : Int)) = true := decide_eq_true (by omega)
    have t4n : decide (64 < j) = true := decide_eq_true h4
    clear hE hE1 h1 h2 h3 h4 hx hn hmj e0 hjm
    go_enter Try.func48, Try.ntmps48
    go_wp2
    go_ret
    exact RcP.no (by decide) h (Below.refl _ _)
  have t4 : decide ((j : Int) > 64) = false := decide_eq_false (by omega)
  have t4' : decide ((64 : Int) < (j : Int)) = false := decide_eq_false (by omega)
  have t4n : decide (64 < j) = false := decide_eq_false h4
  have hmj2 : M * j ≤ 16 * 64 := Nat.mul_le_mul (by omega) (by omega)
  have e1 : IntKind.i64.wrap ((M : Int) * (j : Int)) = (mj : Int) := by rw [e0, IntKind.wrap_i64]; omega
  by_cases h5 : 64 < mj
  case pos =>
    rw [if_neg (fun hT : isT M j => by have := hT.2.2.2; rw [e0] at this; omega)] at hE1
    rw [hE1]
    have t5 : decide ((mj : Int) > 64) = true := decide_eq_true (by omega)
    have t5' : decide ((64 : Int) < (mj : Int)) = true := decide_eq_true (by omega)
    have t5n : decide (64 < mj) = true := decide_eq_true h5
    clear hE hE1 h1 h2 h3 h4 h5 hx hn hmj e0 hjm hmj2
    go_enter Try.func48, Try.ntmps48
    go_wp2
    go_ret
    exact RcP.no (by decide) h (Below.refl _ _)
  have t5 : decide ((mj : Int) > 64) = false := decide_eq_false (by omega)
  have t5' : decide ((64 : Int) < (mj : Int)) = false := decide_eq_false (by omega)
  have t5n : decide (64 < mj) = false := decide_eq_false h5
  rw [if_pos (show isT M j from ⟨by omega, by omega, by omega, by rw [e0]; omega⟩)] at hE1
  simp only [Int.toNat_natCast] at hE1 ⊢
  rw [e0] at hE1
  have HA := Lib.hid (rb_has h x (mj : Int) hx)
  obtain ⟨E0, hE0⟩ : ∃ E0, E0 = hasE cs.length x (mj : Int) := ⟨_, rfl⟩
  rw [← hE0] at hE1 HA
  by_cases h0 : E0 = 0
  case neg =>
    rw [if_neg h0] at hE1
    rw [hE1]
    have u2 : (E0 != 0) = true := by rw [bne_iff_ne]; exact h0
    have u3 : (E0 == 0) = false := by rw [beq_eq_false_iff_ne]; exact h0
    have H0 := Lib.hid h0
    clear hE hE0 hE1 h0 hx hn h1 h2 h3 h4 h5 hmj e0 hjm hmj2
    go_enter Try.func48, Try.ntmps48
    go_wp2_with (first
      | (go_at_call 71; (with_reducible refine (HA.out).mono ?_); rintro e w' ⟨rfl, rfl⟩))
    go_ret
    exact RcP.no H0.out h (Below.refl _ _)
  case pos =>
    rw [if_pos h0] at hE1
    subst h0
    obtain ⟨L, hL⟩ : ∃ L, L = (netK (M - 1)).length := ⟨_, rfl⟩
    have hL2 : 2 * L = M * (M - 1) := by
      have := netK_len (M - 1)
      rw [hL, this, Nat.mul_comm, show M - 1 + 1 = M by omega]
    have hL3 : M * (M - 1) ≤ 16 * 15 := Nat.mul_le_mul (by omega) (by omega)
    have e2 : IntKind.i64.wrap ((M : Int) - 1) = ((M - 1 : Nat) : Int) := by rw [IntKind.wrap_i64]; omega
    obtain ⟨s4, hs4⟩ : ∃ z, z = 4 * j := ⟨_, rfl⟩
    obtain ⟨s6, hs6⟩ : ∃ z, z = 4 * j + 2 := ⟨_, rfl⟩
    obtain ⟨sl, hsl⟩ : ∃ z, z = s6 * L := ⟨_, rfl⟩
    have e3 : IntKind.i64.wrap (4 * (j : Int)) = (s4 : Int) := by rw [hs4, IntKind.wrap_i64]; omega
    have e4 : IntKind.i64.wrap ((s4 : Int) + 2) = (s6 : Int) := by rw [hs4, hs6, IntKind.wrap_i64]; omega
    obtain ⟨q, hq⟩ : ∃ z, z = s6 * M := ⟨_, rfl⟩
    have hq2 : s6 * M ≤ 258 * 16 := Nat.mul_le_mul (by omega) (by omega)
    have e5' : ((s6 : Int) * (M : Int)) = (q : Int) := by rw [hq]; simp
    have e5 : IntKind.i64.wrap ((s6 : Int) * (M : Int)) = (q : Int) := by rw [e5', IntKind.wrap_i64]; omega
    obtain ⟨M1, hM1⟩ : ∃ z, z = M - 1 := ⟨_, rfl⟩
    rw [← hM1] at e2
    obtain ⟨q2, hq3⟩ : ∃ z, z = q * M1 := ⟨_, rfl⟩
    have hq4 : q * M1 ≤ 4128 * 15 := Nat.mul_le_mul (by omega) (by omega)
    have hq5 : q2 = 2 * sl := by
      rw [hq3, hq, hsl, hM1, Nat.mul_assoc, ← hL2, Nat.mul_left_comm]
    have e6' : ((q : Int) * (M1 : Int)) = (q2 : Int) := by rw [hq3]; simp
    have e6 : IntKind.i64.wrap ((q : Int) * (M1 : Int)) = (q2 : Int) := by rw [e6', IntKind.wrap_i64]; omega
    have e7 : (q2 : Int).tdiv 2 = (sl : Int) := by rw [Int.tdiv_eq_ediv_of_nonneg (by omega)]; omega
    have e7' : (q2 : Int) / 2 = (sl : Int) := by omega
    have e8 : IntKind.i64.wrap (sl : Int) = (sl : Int) := by rw [IntKind.wrap_i64]; omega
    rw [← hL, ← hs6, ← hsl] at hE1
    have RO := Lib.hid (rb_room h (sl : Int))
    rw [← hE1] at RO
    by_cases h6 : E = 0
    case neg =>
      have u2 : (E != 0) = true := by rw [bne_iff_ne]; exact h6
      have H0 := Lib.hid h6
      clear hE hE0 hE1 hx hn h1 h2 h3 h4 h5 hmj e0 hjm hmj2 h6 hL hL2 hL3 hs4 hs6 hsl hq hq2 e5' hM1 hq3 hq4 hq5 e6'
      go_enter Try.func48, Try.ntmps48
      go_wp2_with (first
        | (go_at_call 71; (with_reducible refine (HA.out).mono ?_); rintro e w' ⟨rfl, rfl⟩)
        | (go_at_call 69; (with_reducible refine (RO.out).mono ?_); rintro e w' ⟨rfl, rfl⟩))
      go_ret
      exact RcP.no H0.out h (Below.refl _ _)
    case pos =>
      obtain ⟨M', hM', hM1b, hM2b, j', hj', hj1, _, a, ha0, ha, hl⟩ := soE_zero (hE.symm.trans h6)
      obtain rfl : M = M' := by omega
      obtain rfl : j = j' := by omega
      subst ha0
      subst h6
      simp only [Int.toNat_natCast]
      have hjj : j ≤ 64 := by omega
      have AA := Lib.hid (And.intro ha (And.intro hl (And.intro hj1 (And.intro hjj (And.intro hM1b (And.intro hM2b hn))))))
      have HH := Lib.hid h
      have HWW := Lib.hid hw
      clear hE hE0 hE1 hx hn h1 h2 h3 h4 h5 hmj e0 hjm hmj2 hL hL2 hL3 hs4 hs6 hsl hq hq2 e5' hM1 hq3 hq4 hq5 e6' hM' hj' ha hl hj1 hjj hM1b hM2b h hw
      go_enter Try.func48, Try.ntmps48
      go_wp2_with (first
        | (go_at_call 71; (with_reducible refine (HA.out).mono ?_); rintro e w' ⟨rfl, rfl⟩)
        | (go_at_call 69; (with_reducible refine (RO.out).mono ?_); rintro e w' ⟨rfl, rfl⟩))
      clear HA RO e1 e2 e3 e4 e5 e6 e7 e7' e8 t1 t2 t2' t3 t4 t4' t4n t5 t5' t5n
      go_loopw [10] (fun q wr => ∃ (g : Nat) (d : List Nat), g + 1 ≤ M ∧ q = .int .i64 (g : Int) ∧ Hid (netK (M - 1) = d ++ netK (M - 1 - g)) ∧ Hid (RStep w F p (soC a j d cs) rs (tr ++ soT a j d) wr)) (fun q _ => M - (intOf q).toNat)
      case atStart => exact ⟨0, [], AA.out.2.2.2.2.1, rfl, Lib.hid rfl, Lib.hid (by rw [show soC a j [] cs = cs from rfl, show tr ++ soT a j [] = tr from List.append_nil _]; exact .stay HH.out (Below.refl _ _))⟩
      case round =>
        obtain ⟨g, d, hg, rfl, hd, hs⟩ := hrel
        obtain ⟨ha, hl, hj1, hjj, hM1b, hM2b, hn⟩ := AA.out
        have e1 : IntKind.i64.wrap ((g : Int) + 1) = ((g + 1 : Nat) : Int) := by rw [IntKind.wrap_i64]; omega
        obtain ⟨g1, hg1⟩ : ∃ z, z = g + 1 := ⟨_, rfl⟩
        rw [← hg1] at e1
        by_cases hlt : g + 1 < M
        · have t1 : decide ((g1 : Int) < (M : Int)) = true := decide_eq_true (by omega)
          have t1n : decide (g1 < M) = true := decide_eq_true (by omega)
          obtain ⟨c, hc⟩ : ∃ c, c = M - g := ⟨_, rfl⟩
          have e2 : IntKind.i64.wrap ((M : Int) - (g : Int)) = (c : Int) := by rw [hc, IntKind.wrap_i64]; omega
          have c1 : 2 ≤ c := by omega
          have c2 : c ≤ M := by omega
          have HC := Lib.hid hc
          have HG1 := Lib.hid hg1
          have HD := Lib.hid (show netK (M - 1) = d ++ (List.range' 0 (c - 1 - 0) ++ netK (c - 2)) by rw [hd.out, show M - 1 - g = c - 1 by omega, net_head (by omega)]; rfl)
          clear hd hc hg1
          go_wp2
          go_loopw [11] (fun q wr => ∃ (i : Nat) (d : List Nat), i + 1 ≤ c ∧ q = .int .i64 (i : Int) ∧ Hid (netK (M - 1) = d ++ (List.range' i (c - 1 - i) ++ netK (c - 2))) ∧ Hid (RStep w F p (soC a j d cs) rs (tr ++ soT a j d) wr)) (fun q _ => c - (intOf q).toNat)
          case atStart => exact ⟨0, d, by omega, rfl, HD, hs⟩
          case round =>
            clear HD hs d
            obtain ⟨i, d, hi, rfl, hd, hs⟩ := hrel
            have f1 : IntKind.i64.wrap ((i : Int) + 1) = ((i + 1 : Nat) : Int) := by rw [IntKind.wrap_i64]; omega
            obtain ⟨i1, hi1⟩ : ∃ z, z = i + 1 := ⟨_, rfl⟩
            rw [← hi1] at f1
            by_cases hlt2 : i + 1 < c
            · have t2 : decide ((i1 : Int) < (c : Int)) = true := decide_eq_true (by omega)
              have t2n : decide (i1 < c) = true := decide_eq_true (by omega)
              obtain ⟨r, hr⟩ : ∃ r, r = List.range' (i + 1) (c - 1 - (i + 1)) ++ netK (c - 2) := ⟨_, rfl⟩
              have hd2 : netK (M - 1) = d ++ i :: r := by rw [hd.out, range_head (show i < c - 1 by omega), hr]; rfl
              have HD3 := Lib.hid (show netK (M - 1) = (d ++ [i]) ++ (List.range' (i + 1) (c - 1 - (i + 1)) ++ netK (c - 2)) by rw [hd2, ← hr]; simp)
              obtain ⟨q1, q2, q3, q4, q5⟩ := so_place ha (show i + 1 < M by omega)
              have q6 := so_room hl hd2
              have hl2 : (soC a j d cs).length = cs.length := soC_len ..
              have hw2 : ∀ x ∈ soC a j d cs, x < 2 ^ 64 := soC_w HWW.out d
              obtain ⟨F1, e1', a1, k1⟩ := hs.out
              have EX := Lib.hid (rex_any a1 hw2 (a + i * j) (a + (i + 1) * j) j hj1 hjj (by rw [hl2]; exact q1) (by rw [hl2]; exact q2) (.inl (by omega)) (by rw [List.length_append, soT_len]; omega))
              have Q1 := Lib.hid (And.intro e1' k1)
              have v1 : soC a j (d ++ [i]) cs = exC (a + i * j) (a + (i + 1) * j) j (soC a j d cs) := soC_snoc ..
              have v2 : tr ++ soT a j (d ++ [i]) = tr ++ soT a j d ++ exT (a + i * j) (a + (i + 1) * j) j := by rw [soT_snoc, List.append_assoc]
              have V1 := Lib.hid v1
              have V2 := Lib.hid v2
              obtain ⟨ij, hij⟩ : ∃ z, z = i * j := ⟨_, rfl⟩
              obtain ⟨ik, hik⟩ : ∃ z, z = (i + 1) * j := ⟨_, rfl⟩
              have x1' : ((i : Int) * (j : Int)) = (ij : Int) := by rw [hij]; simp
              have x1 : IntKind.i64.wrap ((i : Int) * (j : Int)) = (ij : Int) := by rw [x1', IntKind.wrap_i64]; omega
              have x2' : ((i1 : Int) * (j : Int)) = (ik : Int) := by rw [hik, hi1]; simp
              have x2 : IntKind.i64.wrap ((i1 : Int) * (j : Int)) = (ik : Int) := by rw [x2', IntKind.wrap_i64]; omega
              rw [← hij, ← hik] at EX V1 V2
              obtain ⟨ai, hai⟩ : ∃ z, z = a + ij := ⟨_, rfl⟩
              obtain ⟨ak, hak⟩ : ∃ z, z = a + ik := ⟨_, rfl⟩
              have x3 : IntKind.i64.wrap ((a : Int) + (ij : Int)) = (ai : Int) := by rw [hai, IntKind.wrap_i64]; omega
              have x4 : IntKind.i64.wrap ((a : Int) + (ik : Int)) = (ak : Int) := by rw [hak, IntKind.wrap_i64]; omega
              rw [← hai, ← hak] at EX V1 V2
              have HI1 := Lib.hid hi1
              clear hs hd hr hd2 q1 q2 q3 q4 q5 q6 hl2 hw2 a1 e1' k1 v1 v2 hij hik x1' x2' hai hak ha hl hj1 hjj hM1b hM2b hn hi1
              go_wp2_with (first
                | (go_at_call 70; (with_reducible refine (EX.out).mono ?_); rintro e w2 ⟨rfl, hs2⟩; have S2 := Lib.hid hs2; clear hs2))
              go_roundw
              case rel =>
                refine ⟨i + 1, _, by omega, by rw [HI1.out], HD3, Lib.hid ?_⟩
                rw [V1.out, V2.out]
                exact RStep.trans Q1.out.1 Q1.out.2 S2.out
              case measure => have := HI1.out; simp [intOf]; omega
            · obtain rfl : c = i1 := by omega
              have t2 : decide ((c : Int) < (c : Int)) = false := decide_eq_false (by omega)
              have HD2 := Lib.hid (show netK (M - 1) = d ++ netK (M - 1 - (g + 1)) by rw [hd.out, show c - 1 - i = 0 by omega, show c - 2 = M - 1 - (g + 1) by have := HC.out; omega]; rfl)
              clear hd hi1 ha hl hj1 hjj hM1b hM2b hn
              go_wp2
              go_roundw
              case rel => exact ⟨g + 1, d, by omega, by rw [HG1.out], HD2, hs⟩
              case measure => have := HG1.out; simp [intOf]; omega
        · obtain rfl : M = g1 := by omega
          have t1 : decide ((M : Int) < (M : Int)) = false := decide_eq_false (by omega)
          have HD := Lib.hid (show netK (M - 1) = d by rw [hd.out, show M - 1 - g = 0 by omega, netK, List.append_nil])
          clear hd hg1 ha hl hj1 hjj hM1b hM2b hn
          go_wp2
          go_ret
          rw [HD.out]
          exact RcP.ok hs.out
end
end Go.Proofs.Ytalnhbjpfnodiaa
