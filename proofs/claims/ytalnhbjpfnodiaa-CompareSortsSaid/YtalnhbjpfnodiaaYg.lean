/- EqualRows, LessRows, in both arenas. -/
import Derived.Test.YtalnhbjpfnodiaaYf
namespace Go.Proofs.Ytalnhbjpfnodiaa
open Go.RowKit
def MrP (w : World) (F : Nat → Prop) (p : Nat) (cs : List Nat) (rs : List Rg) (tr : List (Nat × Nat)) (m : Nat) (E : Int) (t' : List (Nat × Nat)) (e : Ending) (w' : World) : Prop :=
  e = .returned (.tuple #[.int .u64 ((if E = 0 then m else 0 : Nat) : Int), .int .i64 E]) ∧ Step w F p cs rs (if E = 0 then tr ++ t' else tr) w'
def RrP (w : World) (F : Nat → Prop) (p : Nat) (cs : List Nat) (rs : List Rg) (tr : List (Nat × Nat)) (m : Nat) (E : Int) (t' : List (Nat × Nat)) (e : Ending) (w' : World) : Prop :=
  e = .returned (.tuple #[.int .u64 ((if E = 0 then m else 0 : Nat) : Int), .int .i64 E]) ∧ RStep w F p cs rs (if E = 0 then tr ++ t' else tr) w'
/-- The reference's order. -/
def valO (o : Nat) : Int := if o = 0 then 0 else if o = 1 then -1 else 1
def RcO (w : World) (F : Nat → Prop) (p : Nat) (cs : List Nat) (rs : List Rg) (tr : List (Nat × Nat)) (o : Nat) (E : Int) (t' : List (Nat × Nat)) (e : Ending) (w' : World) : Prop :=
  e = .returned (.tuple #[.int .i64 (if E = 0 then valO o else 0), .int .i64 E]) ∧ RStep w F p cs rs (if E = 0 then tr ++ t' else tr) w'
section
variable {w w' : World} {F : Nat → Prop} {p : Nat} {cs c' : List Nat} {rs : List Rg} {tr t' : List (Nat × Nat)}
theorem EqualRows_any (h : Ar w F p cs rs tr) (x y k : Int) (hx : i64R x) (hy : i64R y) : Calls Try.prog 26 #[.pointer (some ⟨p, 0, none⟩), .int .i64 x, .int .i64 y, .int .i64 k] w (MrP w F p cs rs tr (eqO (cmO cs x y k)) (cmE cs.length tr.length x y k) (cmT x.toNat y.toNat k.toNat)) := by
  have CM := Lib.hid (cmp_any h x y k hx hy)
  unfold CmP at CM
  obtain ⟨E, hE⟩ : ∃ E, E = cmE cs.length tr.length x y k := ⟨_, rfl⟩
  rw [← hE] at CM ⊢
  obtain ⟨m1, h1⟩ : ∃ m, m = (if E = 0 then eqO (cmO cs x y k) else 0) := ⟨_, rfl⟩
  obtain ⟨m2, h2⟩ : ∃ m, m = (if E = 0 then ltO (cmO cs x y k) else 0) := ⟨_, rfl⟩
  rw [← h1, ← h2] at CM
  unfold MrP
  try rw [← h1]
  try rw [← h2]
  obtain ⟨T, hT⟩ : ∃ T, T = (if E = 0 then tr ++ cmT x.toNat y.toNat k.toNat else tr) := ⟨_, rfl⟩
  rw [← hT] at CM ⊢
  clear h1 h2 hE hx hy hT
  go_enter Try.func26, Try.ntmps26
  go_wp2_with (first
    | (go_at_call 51; (with_reducible refine (CM.out).mono ?_); rintro e w1 ⟨rfl, hs⟩; have HS := Lib.hid hs; clear hs))
  go_ret2
  exact ⟨rfl, HS.out⟩
theorem LessRows_any (h : Ar w F p cs rs tr) (x y k : Int) (hx : i64R x) (hy : i64R y) : Calls Try.prog 25 #[.pointer (some ⟨p, 0, none⟩), .int .i64 x, .int .i64 y, .int .i64 k] w (MrP w F p cs rs tr (ltO (cmO cs x y k)) (cmE cs.length tr.length x y k) (cmT x.toNat y.toNat k.toNat)) := by
  have CM := Lib.hid (cmp_any h x y k hx hy)
  unfold CmP at CM
  obtain ⟨E, hE⟩ : ∃ E, E = cmE cs.length tr.length x y k := ⟨_, rfl⟩
  rw [← hE] at CM ⊢
  obtain ⟨m1, h1⟩ : ∃ m, m = (if E = 0 then eqO (cmO cs x y k) else 0) := ⟨_, rfl⟩
  obtain ⟨m2, h2⟩ : ∃ m, m = (if E = 0 then ltO (cmO cs x y k) else 0) := ⟨_, rfl⟩
  rw [← h1, ← h2] at CM
  unfold MrP
  try rw [← h1]
  try rw [← h2]
  obtain ⟨T, hT⟩ : ∃ T, T = (if E = 0 then tr ++ cmT x.toNat y.toNat k.toNat else tr) := ⟨_, rfl⟩
  rw [← hT] at CM ⊢
  clear h1 h2 hE hx hy hT
  go_enter Try.func25, Try.ntmps25
  go_wp2_with (first
    | (go_at_call 51; (with_reducible refine (CM.out).mono ?_); rintro e w1 ⟨rfl, hs⟩; have HS := Lib.hid hs; clear hs))
  go_ret2
  exact ⟨rfl, HS.out⟩
theorem valO_less {u v : Nat → Nat} {k : Nat} (h0 : ordS u v k = 0) (h1 : u k < v k) : valO (ordS u v (k + 1)) = -1 := by rw [ordS, if_pos h0, if_pos h1]; rfl
theorem valO_more {u v : Nat → Nat} {k : Nat} (h0 : ordS u v k = 0) (h1 : ¬ u k < v k) (h2 : v k < u k) : valO (ordS u v (k + 1)) = 1 := by rw [ordS, if_pos h0, if_neg h1, if_pos h2]; rfl
theorem valO_same {u v : Nat → Nat} {k : Nat} (h0 : ordS u v k = 0) (h1 : ¬ u k < v k) (h2 : ¬ v k < u k) : valO (ordS u v (k + 1)) = 0 := by rw [ordS, if_pos h0, if_neg h1, if_neg h2]; rfl
theorem valO_stay {u v : Nat → Nat} {k : Nat} (h0 : ¬ ordS u v k = 0) : valO (ordS u v (k + 1)) = valO (ordS u v k) := by rw [ordS, if_neg h0]
theorem valO_ne {o : Nat} (h : ¬ o = 0) : ¬ valO o = 0 := by unfold valO; rw [if_neg h]; split <;> decide
set_option maxRecDepth 100000 in
set_option maxHeartbeats 3200000 in
theorem rcompared_any (h : Rb w F p cs rs tr) (x y k : Int) (hx : i64R x) (hy : i64R y) : Calls Try.prog 67 #[.pointer (some ⟨p, 0, none⟩), .int .i64 x, .int .i64 y, .int .i64 k] w (RcO w F p cs rs tr (cmO cs x y k) (cmE cs.length tr.length x y k) (cmT x.toNat y.toNat k.toNat)) := by
  have hn : cs.length ≤ 65536 := h.bnd.2
  have CK := Lib.hid (rckr_any (.pointer (some ⟨p, 0, none⟩)) (fun v => hasE cs.length v k) x y k w hx hy (fun _ v hv => rb_has h v k hv))
  obtain ⟨E0, hE0⟩ : ∃ E0, E0 = ckQ (fun v => hasE cs.length v k) x y k := ⟨_, rfl⟩
  obtain ⟨E, hE⟩ : ∃ E, E = cmE cs.length tr.length x y k := ⟨_, rfl⟩
  rw [← hE0] at CK
  rw [← hE]
  have hE1 : E = if E0 = 0 then roomE tr.length (2 * k) else E0 := by rw [hE, hE0]; rfl
  by_cases h0 : E0 = 0
  case neg =>
    rw [if_neg h0] at hE1
    subst hE1
    have t2 : (E == 0) = false := by rw [beq_eq_false_iff_ne]; exact h0
    have t3 : (E != 0) = true := by rw [bne_iff_ne]; exact h0
    have H0 := Lib.hid h0
    clear hE hE0 h0 hx hy hn
    go_enter Try.func67, Try.ntmps67
    go_wp2_with (first
      | (go_at_call 68; (with_reducible refine (CK.out).mono ?_); rintro e w' ⟨rfl, rfl⟩))
    go_ret2
    refine ⟨by rw [if_neg H0.out]; rfl, ?_⟩
    rw [if_neg H0.out]
    exact .stay h (Below.refl _ _)
  case pos =>
    obtain ⟨j, hj, hj1, hj2, a, ha0, ha, b, hb0, hb⟩ := ckQ_zero (hE0.symm.trans h0)
    rw [if_pos h0] at hE1
    subst h0; subst hj; subst ha0; subst hb0
    have RO := Lib.hid (rb_room h (2 * (j : Int)))
    rw [← hE1] at RO
    obtain ⟨s4, hs4⟩ : ∃ s, s = 2 * (j : Int) := ⟨_, rfl⟩
    have e1 : IntKind.i64.wrap (2 * (j : Int)) = s4 := by rw [hs4, IntKind.wrap_i64]; omega
    rw [← hs4] at RO
    by_cases h1 : E = 0
    case neg =>
      have t2 : (E == 0) = false := by rw [beq_eq_false_iff_ne]; exact h1
      have t3 : (E != 0) = true := by rw [bne_iff_ne]; exact h1
      have H0 := Lib.hid h1
      clear hE hE0 hE1 h1 hx hy hn hs4 ha hb hj1 hj2
      go_enter Try.func67, Try.ntmps67
      go_wp2_with (first
        | (go_at_call 68; (with_reducible refine (CK.out).mono ?_); rintro e w' ⟨rfl, rfl⟩)
        | (go_at_call 69; (with_reducible refine (RO.out).mono ?_); rintro e w' ⟨rfl, rfl⟩))
      go_ret2
      refine ⟨by rw [if_neg H0.out]; rfl, ?_⟩
      rw [if_neg H0.out]
      exact .stay h (Below.refl _ _)
    case pos =>
      obtain ⟨j', hj', _, _, a', ha', _, b', hb', _, hl⟩ := cmE_zero (hE.symm.trans h1)
      obtain rfl : j = j' := by omega
      obtain rfl : a = a' := by omega
      obtain rfl : b = b' := by omega
      subst h1
      unfold RcO
      rw [if_pos rfl, if_pos rfl]
      unfold cmO
      simp only [Int.toNat_natCast]
      obtain ⟨u, hu⟩ : ∃ u : Nat → Nat, u = fun i => cs.getD (a + i) 0 := ⟨_, rfl⟩
      obtain ⟨v, hv⟩ : ∃ v : Nat → Nat, v = fun i => cs.getD (b + i) 0 := ⟨_, rfl⟩
      rw [← hu, ← hv]
      have HU := Lib.hid hu
      have HV := Lib.hid hv
      have AA := Lib.hid (And.intro ha (And.intro hb (And.intro hl (And.intro hj1 (And.intro hj2 hn)))))
      have HH := Lib.hid h
      clear hE hE0 hE1 hx hy hs4 hu hv ha hb hl hj1 hj2 hn h hj' ha' hb'
      go_enter Try.func67, Try.ntmps67
      go_wp2_with (first
        | (go_at_call 68; (with_reducible refine (CK.out).mono ?_); rintro e w' ⟨rfl, rfl⟩)
        | (go_at_call 69; (with_reducible refine (RO.out).mono ?_); rintro e w' ⟨rfl, rfl⟩))
      clear CK RO e1
      go_loopw [11, 12] (fun o i wr => ∃ k : Nat, k ≤ j ∧ i = .int .i64 (k : Int) ∧ o = .int .i64 (valO (ordS u v k)) ∧ Hid (RStep w F p cs rs (tr ++ cmT a b k) wr)) (fun _ i _ => j - (intOf i).toNat)
      case atStart => exact ⟨0, Nat.zero_le _, rfl, rfl, Lib.hid (by rw [show tr ++ cmT a b 0 = tr from List.append_nil _]; exact .stay HH.out (Below.refl _ _))⟩
      case round =>
        obtain ⟨k, hk, rfl, rfl, hs⟩ := hrel
        by_cases hlt : k < j
        · have t1 : decide ((k : Int) < (j : Int)) = true := decide_eq_true (by omega)
          have t1' : (k : Int) < (j : Int) := by omega
          have t1n : decide (k < j) = true := decide_eq_true hlt
          obtain ⟨F0, e0, a0, k0⟩ := hs.out
          have Q0 := Lib.hid (And.intro e0 k0)
          obtain ⟨ha, hb, hl, hj1, hj2, hn⟩ := AA.out
          have e1 : IntKind.i64.wrap ((a : Int) + (k : Int)) = ((a + k : Nat) : Int) := by rw [IntKind.wrap_i64]; omega
          have e2 : IntKind.i64.wrap ((b : Int) + (k : Int)) = ((b + k : Nat) : Int) := by rw [IntKind.wrap_i64]; omega
          have L1 := Lib.hid (rb_load a0 (a + k) (u k) (by rw [HU.out]) (by omega) (by rw [List.length_append, cmT_len]; omega))
          have L2 := Lib.hid (fun W F1 (h1 : Rb W F1 p cs rs (tr ++ cmT a b k ++ [(1, a + k)])) => rb_load h1 (b + k) (v k) (by rw [HV.out]) (by omega) (by rw [List.length_append, List.length_append, cmT_len, List.length_singleton]; omega))
          obtain ⟨uk, huk⟩ : ∃ z, z = u k := ⟨_, rfl⟩
          obtain ⟨vk, hvk⟩ : ∃ z, z = v k := ⟨_, rfl⟩
          obtain ⟨ak, hak⟩ : ∃ z, z = a + k := ⟨_, rfl⟩
          obtain ⟨bk, hbk⟩ : ∃ z, z = b + k := ⟨_, rfl⟩
          have HAK := Lib.hid hak
          have HBK := Lib.hid hbk
          obtain ⟨o, ho⟩ : ∃ z, z = valO (ordS u v k) := ⟨_, rfl⟩
          by_cases ho0 : ordS u v k = 0
          · have hz : o = 0 := by rw [ho, ho0]; rfl
            by_cases h1 : u k < v k
            · have HV := Lib.hid (valO_less ho0 h1)
              have s1 : decide (uk < vk) = true := decide_eq_true (by rw [huk, hvk]; exact h1)
              have s1i : decide ((uk : Int) < (vk : Int)) = true := decide_eq_true (by have := of_decide_eq_true s1; omega)
              rw [← ho]
              simp only [← huk, ← hvk, ← hak, ← hbk] at L1 L2 e1 e2
              subst hz
              clear hs e0 a0 k0 ha hb hl hj1 hj2 hn huk hvk hak hbk ho ho0 h1
              go_wp2_with (first
                | (go_at_call 83; (with_reducible refine (L1.out).mono ?_); rintro e w1 ⟨rfl, F1, e1', a1, k1⟩; have A1 := Lib.hid a1; have Q1 := Lib.hid (And.intro e1' k1); clear a1 e1' k1)
                | (go_at_call 83; (with_reducible refine (L2.out _ _ A1.out).mono ?_); rintro e w2 ⟨rfl, F2, e2', a2, k2⟩; have A2 := Lib.hid a2; have Q2 := Lib.hid (And.intro e2' k2); clear a2 e2' k2))
              go_roundw
              case rel =>
                refine ⟨k + 1, by omega, by go_num, by rw [HV.out], Lib.hid ?_⟩
                rw [show tr ++ cmT a b (k + 1) = tr ++ cmT a b k ++ [(1, ak)] ++ [(1, bk)] by rw [HAK.out, HBK.out]; simp [cmT]]
                exact RStep.trans Q0.out.1 Q0.out.2 (RStep.trans Q1.out.1 Q1.out.2 ⟨F2, Q2.out.1, A2.out, Q2.out.2⟩)
              case measure => simp [intOf]; omega
            · by_cases h2 : v k < u k
              · have HV := Lib.hid (valO_more ho0 h1 h2)
                have s1 : decide (uk < vk) = false := decide_eq_false (by rw [huk, hvk]; exact h1)
                have s1i : decide ((uk : Int) < (vk : Int)) = false := decide_eq_false (by have := of_decide_eq_false s1; omega)
                have s2 : decide (vk < uk) = true := decide_eq_true (by rw [huk, hvk]; exact h2)
                have s2i : decide ((vk : Int) < (uk : Int)) = true := decide_eq_true (by have := of_decide_eq_true s2; omega)
                rw [← ho]
                simp only [← huk, ← hvk, ← hak, ← hbk] at L1 L2 e1 e2
                subst hz
                clear hs e0 a0 k0 ha hb hl hj1 hj2 hn huk hvk hak hbk ho ho0 h1 h2
                go_wp2_with (first
                  | (go_at_call 83; (with_reducible refine (L1.out).mono ?_); rintro e w1 ⟨rfl, F1, e1', a1, k1⟩; have A1 := Lib.hid a1; have Q1 := Lib.hid (And.intro e1' k1); clear a1 e1' k1)
                  | (go_at_call 83; (with_reducible refine (L2.out _ _ A1.out).mono ?_); rintro e w2 ⟨rfl, F2, e2', a2, k2⟩; have A2 := Lib.hid a2; have Q2 := Lib.hid (And.intro e2' k2); clear a2 e2' k2))
                go_roundw
                case rel =>
                  refine ⟨k + 1, by omega, by go_num, by rw [HV.out], Lib.hid ?_⟩
                  rw [show tr ++ cmT a b (k + 1) = tr ++ cmT a b k ++ [(1, ak)] ++ [(1, bk)] by rw [HAK.out, HBK.out]; simp [cmT]]
                  exact RStep.trans Q0.out.1 Q0.out.2 (RStep.trans Q1.out.1 Q1.out.2 ⟨F2, Q2.out.1, A2.out, Q2.out.2⟩)
                case measure => simp [intOf]; omega
              · have HV := Lib.hid (valO_same ho0 h1 h2)
                have s1 : decide (uk < vk) = false := decide_eq_false (by rw [huk, hvk]; exact h1)
                have s1i : decide ((uk : Int) < (vk : Int)) = false := decide_eq_false (by have := of_decide_eq_false s1; omega)
                have s2 : decide (vk < uk) = false := decide_eq_false (by rw [huk, hvk]; exact h2)
                have s2i : decide ((vk : Int) < (uk : Int)) = false := decide_eq_false (by have := of_decide_eq_false s2; omega)
                rw [← ho]
                simp only [← huk, ← hvk, ← hak, ← hbk] at L1 L2 e1 e2
                subst hz
                clear hs e0 a0 k0 ha hb hl hj1 hj2 hn huk hvk hak hbk ho ho0 h1 h2
                go_wp2_with (first
                  | (go_at_call 83; (with_reducible refine (L1.out).mono ?_); rintro e w1 ⟨rfl, F1, e1', a1, k1⟩; have A1 := Lib.hid a1; have Q1 := Lib.hid (And.intro e1' k1); clear a1 e1' k1)
                  | (go_at_call 83; (with_reducible refine (L2.out _ _ A1.out).mono ?_); rintro e w2 ⟨rfl, F2, e2', a2, k2⟩; have A2 := Lib.hid a2; have Q2 := Lib.hid (And.intro e2' k2); clear a2 e2' k2))
                go_roundw
                case rel =>
                  refine ⟨k + 1, by omega, by go_num, by rw [HV.out], Lib.hid ?_⟩
                  rw [show tr ++ cmT a b (k + 1) = tr ++ cmT a b k ++ [(1, ak)] ++ [(1, bk)] by rw [HAK.out, HBK.out]; simp [cmT]]
                  exact RStep.trans Q0.out.1 Q0.out.2 (RStep.trans Q1.out.1 Q1.out.2 ⟨F2, Q2.out.1, A2.out, Q2.out.2⟩)
                case measure => simp [intOf]; omega
          · have HV := Lib.hid (show valO (ordS u v (k + 1)) = o by rw [valO_stay ho0, ho])
            have hz : (o == 0) = false := by rw [beq_eq_false_iff_ne, ho]; exact valO_ne ho0
            rw [← ho]
            simp only [← huk, ← hvk, ← hak, ← hbk] at L1 L2 e1 e2
            clear hs e0 a0 k0 ha hb hl hj1 hj2 hn huk hvk hak hbk ho ho0
            go_wp2_with (first
              | (go_at_call 83; (with_reducible refine (L1.out).mono ?_); rintro e w1 ⟨rfl, F1, e1', a1, k1⟩; have A1 := Lib.hid a1; have Q1 := Lib.hid (And.intro e1' k1); clear a1 e1' k1)
              | (go_at_call 83; (with_reducible refine (L2.out _ _ A1.out).mono ?_); rintro e w2 ⟨rfl, F2, e2', a2, k2⟩; have A2 := Lib.hid a2; have Q2 := Lib.hid (And.intro e2' k2); clear a2 e2' k2))
            go_roundw
            case rel =>
              refine ⟨k + 1, by omega, by go_num, by rw [HV.out], Lib.hid ?_⟩
              rw [show tr ++ cmT a b (k + 1) = tr ++ cmT a b k ++ [(1, ak)] ++ [(1, bk)] by rw [HAK.out, HBK.out]; simp [cmT]]
              exact RStep.trans Q0.out.1 Q0.out.2 (RStep.trans Q1.out.1 Q1.out.2 ⟨F2, Q2.out.1, A2.out, Q2.out.2⟩)
            case measure => simp [intOf]; omega
        · obtain rfl : k = j := by omega
          have t1 : decide ((k : Int) < (k : Int)) = false := decide_eq_false (by omega)
          obtain ⟨o, ho⟩ : ∃ z, z = valO (ordS u v k) := ⟨_, rfl⟩
          rw [← ho]
          have HO := Lib.hid ho
          clear ho
          go_wp2
          go_ret2
          exact ⟨by rw [← HO.out]; rfl, hs.out⟩
set_option maxRecDepth 100000 in
theorem rEqualRows_any (h : Rb w F p cs rs tr) (x y k : Int) (hx : i64R x) (hy : i64R y) : Calls Try.prog 45 #[.pointer (some ⟨p, 0, none⟩), .int .i64 x, .int .i64 y, .int .i64 k] w (RrP w F p cs rs tr (eqO (cmO cs x y k)) (cmE cs.length tr.length x y k) (cmT x.toNat y.toNat k.toNat)) := by
  have CM := Lib.hid (rcompared_any h x y k hx hy)
  unfold RcO at CM
  obtain ⟨E, hE⟩ : ∃ E, E = cmE cs.length tr.length x y k := ⟨_, rfl⟩
  rw [← hE] at CM ⊢
  obtain ⟨o, ho⟩ : ∃ o, o = cmO cs x y k := ⟨_, rfl⟩
  rw [← ho] at CM ⊢
  obtain ⟨T, hT⟩ : ∃ T, T = (if E = 0 then tr ++ cmT x.toNat y.toNat k.toNat else tr) := ⟨_, rfl⟩
  unfold RrP
  rw [← hT] at CM ⊢
  clear hT hE hx hy ho
  by_cases h0 : E = 0
  · rw [if_pos h0] at CM ⊢
    subst h0
    obtain ⟨z, hz⟩ : ∃ z, z = valO o := ⟨_, rfl⟩
    rw [← hz] at CM
    obtain ⟨b, hb⟩ : ∃ b, (z == 0) = b := ⟨_, rfl⟩
    have MK := Lib.hid (fun w => rmask_any b w)
    have HM := Lib.hid (show (if b then onesN else 0) = eqO o by
      unfold eqO; refine mask_dec ?_
      rw [← hb, hz]; unfold valO
      by_cases h0 : o = 0
      · subst h0; rfl
      · by_cases h1 : o = 1
        · subst h1; rfl
        · rw [if_neg h0, if_neg h1]; simp [h0])
    rw [HM.out] at MK
    clear hz
    go_enter Try.func45, Try.ntmps45
    go_wp2_with (first
      | (go_at_call 67; (with_reducible refine (CM.out).mono ?_); rintro e w1 ⟨rfl, hs⟩; have HS := Lib.hid hs; clear hs)
      | (go_at_call 27; (with_reducible refine (MK.out _).mono ?_); rintro e w' ⟨rfl, rfl⟩))
    go_ret2
    exact ⟨rfl, HS.out⟩
  · rw [if_neg h0] at CM ⊢
    have t3 : (E != 0) = true := by rw [bne_iff_ne]; exact h0
    clear h0
    go_enter Try.func45, Try.ntmps45
    go_wp2_with (first
      | (go_at_call 67; (with_reducible refine (CM.out).mono ?_); rintro e w1 ⟨rfl, hs⟩; have HS := Lib.hid hs; clear hs))
    go_ret2
    exact ⟨rfl, HS.out⟩
set_option maxRecDepth 100000 in
theorem rLessRows_any (h : Rb w F p cs rs tr) (x y k : Int) (hx : i64R x) (hy : i64R y) : Calls Try.prog 46 #[.pointer (some ⟨p, 0, none⟩), .int .i64 x, .int .i64 y, .int .i64 k] w (RrP w F p cs rs tr (ltO (cmO cs x y k)) (cmE cs.length tr.length x y k) (cmT x.toNat y.toNat k.toNat)) := by
  have CM := Lib.hid (rcompared_any h x y k hx hy)
  unfold RcO at CM
  obtain ⟨E, hE⟩ : ∃ E, E = cmE cs.length tr.length x y k := ⟨_, rfl⟩
  rw [← hE] at CM ⊢
  obtain ⟨o, ho⟩ : ∃ o, o = cmO cs x y k := ⟨_, rfl⟩
  rw [← ho] at CM ⊢
  obtain ⟨T, hT⟩ : ∃ T, T = (if E = 0 then tr ++ cmT x.toNat y.toNat k.toNat else tr) := ⟨_, rfl⟩
  unfold RrP
  rw [← hT] at CM ⊢
  clear hT hE hx hy ho
  by_cases h0 : E = 0
  · rw [if_pos h0] at CM ⊢
    subst h0
    obtain ⟨z, hz⟩ : ∃ z, z = valO o := ⟨_, rfl⟩
    rw [← hz] at CM
    obtain ⟨b, hb⟩ : ∃ b, decide (z < 0) = b := ⟨_, rfl⟩
    have MK := Lib.hid (fun w => rmask_any b w)
    have HM := Lib.hid (show (if b then onesN else 0) = ltO o by
      unfold ltO; refine mask_dec ?_
      rw [← hb, hz]; unfold valO
      by_cases h0 : o = 0
      · subst h0; rfl
      · by_cases h1 : o = 1
        · subst h1; rfl
        · rw [if_neg h0, if_neg h1]; simp [h1])
    rw [HM.out] at MK
    clear hz
    go_enter Try.func46, Try.ntmps46
    go_wp2_with (first
      | (go_at_call 67; (with_reducible refine (CM.out).mono ?_); rintro e w1 ⟨rfl, hs⟩; have HS := Lib.hid hs; clear hs)
      | (go_at_call 27; (with_reducible refine (MK.out _).mono ?_); rintro e w' ⟨rfl, rfl⟩))
    go_ret2
    exact ⟨rfl, HS.out⟩
  · rw [if_neg h0] at CM ⊢
    have t3 : (E != 0) = true := by rw [bne_iff_ne]; exact h0
    clear h0
    go_enter Try.func46, Try.ntmps46
    go_wp2_with (first
      | (go_at_call 67; (with_reducible refine (CM.out).mono ?_); rintro e w1 ⟨rfl, hs⟩; have HS := Lib.hid hs; clear hs))
    go_ret2
    exact ⟨rfl, HS.out⟩
end
end Go.Proofs.Ytalnhbjpfnodiaa
