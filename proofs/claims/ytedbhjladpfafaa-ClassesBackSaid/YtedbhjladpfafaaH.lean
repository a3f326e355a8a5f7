/- Layer 3: the reference's Of, Union, Minus, Meet, All, Not, Sub. -/
import Derived.Test.YtedbhjladpfafaaG
namespace Go.Proofs.Ytedbhjladpfafaa
open Go.RowKit
attribute [local go_sem] eq4 guard4
set_option maxHeartbeats 400000 in
set_option maxRecDepth 100000 in
theorem rof_any (v : Value) (xs : List Nat) (w : World) (hv : BR w v xs) (hl : xs.length ≤ 1000000000) : Calls Try.prog 13 #[v] w (SetPost w (ofL xs)) := by
  obtain ⟨h1, h2, hb⟩ := zero_zero w
  have HV := Lib.hid hv
  obtain ⟨p, c, rfl, hc, _⟩ := hv
  obtain ⟨n, hn⟩ : ∃ n, n = xs.length := ⟨_, rfl⟩
  rw [← hn] at HV hc hl ⊢
  have HN := Lib.hid hn
  clear hn hc
  go_enter Try.func13, Try.ntmps13
  go_wp2
  go_loopw [4] (fun i wr => ∃ k : Nat, k ≤ n ∧ i = .int .i64 k ∧ OfI w wr xs k) (fun i _ => n - (intOf i).toNat)
  case atStart => exact ⟨0, Nat.zero_le _, rfl, h1, h2.congr fun i _ => by simp [ofL], hb⟩
  case round =>
    obtain ⟨k, hk, rfl, h1, h2, hb⟩ := hrel
    by_cases hlt : k < n
    · have hltb : decide ((k : Int) < (n : Int)) = true := decide_eq_true (by omega)
      obtain ⟨x, hx⟩ : ∃ x, xs[k]? = some x := ⟨_, List.getElem?_eq_getElem (by rw [← HN.out]; exact hlt)⟩
      obtain ⟨b, o, c', e1, hbw, hcells⟩ := HV.out.form (by rw [← HN.out]; omega)
      cases e1
      obtain ⟨hx8, hcx⟩ := hcells k x hx
      have hcx' := (hb.cell (p := ⟨b, o + k, none⟩) hbw).trans hcx
      have hbr : b < wr.heap.size := Nat.lt_of_lt_of_le hbw hb.size
      have HX := Lib.hid hx
      have hkl : (k : Int) < (xs.length : Int) := by omega
      clear hcells hx hcx
      go_wp2
      refine wp_region_below_tail (w := wr) 6 (Nat.le_refl _) (by kernel_rfl) (by kernel_rfl) ?_
      simp only [List.take_succ_cons, List.take_zero, List.drop_succ_cons, List.drop_zero]
      repeat (first
        | go_big_quiet_skip
        | (go_big_quiet_want; (first
            | ((first | refine quiet_get _ rfl _ rfl _ h2 h2.lt ?_ | refine quiet_byte _ rfl _ rfl _ hcx' hbr ?_); simp only [Act.put, List.setIfInBounds_toArray, List.set_cons_succ, List.set_cons_zero]; go_big_quiet_on)
            | (go_big_quiet_op; (first
                | go_big_quiet_on
                | (refine ⟨_, fun _ _ => rfl, ?_⟩; go_big_quiet_on)
                | (apply Exists.intro; refine ⟨fun w9 hw9 => ?_, ?_⟩; (focus ((go_at_call 17; exact Calls.quiet_below (radd_any _ _ _ hx8) hw9 (Nat.le_refl _) (fun _ _ h => h)))); go_big_quiet_on))))))
      refine wpQuiet_nil ?_
      intro w2 hb2
      have s2 := h2.below hb2 h2.lt
      have s1 := h1.below hb2 h1.lt
      go_wp2_with (first
        | (refine wpList_put rfl _ _ rfl _ rfl _ (withB (ofL (xs.take k)) x) rfl s2 ?_; intro w3 s3 p3)
        )
      go_roundw
      case rel =>
        exact ⟨k + 1, by omega, by go_num, p3.sa (by omega) s1, s3.congr fun i _ => ofL_succ HX.out i, (hb.trans (hb2.mono hb.size)).trans (p3.below (by omega))⟩
      case measure => simp [intOf]; omega
    · obtain rfl : k = n := by omega
      have hltb : decide ((k : Int) < (k : Int)) = false := decide_eq_false (by omega)
      have h3 := h2
      rw [HN.out, ofL_all] at h3
      have HB := Lib.hid hb
      clear h2 hb
      go_wp2_with (first
        | (refine wpList_get rfl _ rfl _ rfl _ h3 ?_)
        | (refine wpList_put rfl _ _ rfl _ rfl _ (ofL xs) rfl h1 ?_; intro w3 s3 p3)
        )
      refine bodyPost_ret (v := sv (ofL xs)) (set_result Try.results13 _ _ _ _ rfl s3) rfl ⟨rfl, ?_⟩
      exact HB.out.trans (p3.below (Nat.le_refl _))
/-- The two loops over all bytes: with those of q below k. -/
def upU (p q : Nat → Bool) (k : Nat) : Nat → Bool := fun i => p i || (q i && decide (i < k))
def upM (p q : Nat → Bool) (k : Nat) : Nat → Bool := fun i => p i && !(q i && decide (i < k))
theorem upU_0 (p q : Nat → Bool) : ∀ i, i < 256 → p i = upU p q 0 i := fun i _ => by simp [upU]
theorem upM_0 (p q : Nat → Bool) : ∀ i, i < 256 → p i = upM p q 0 i := fun i _ => by simp [upM]
theorem lt_succ_or (i k : Nat) : decide (i < k + 1) = (decide (i < k) || decide (i = k)) := by rw [Bool.eq_iff_iff]; simp; omega
theorem upU_no {p q : Nat → Bool} {k : Nat} (h : q k = false) : ∀ i, i < 256 → upU p q k i = upU p q (k + 1) i := fun i _ => by
  unfold upU; rw [lt_succ_or]
  by_cases e : i = k
  · subst e; simp [h]
  · simp [e]
theorem upM_no {p q : Nat → Bool} {k : Nat} (h : q k = false) : ∀ i, i < 256 → upM p q k i = upM p q (k + 1) i := fun i _ => by
  unfold upM; rw [lt_succ_or]
  by_cases e : i = k
  · subst e; simp [h]
  · simp [e]
theorem upU_yes {p q : Nat → Bool} {k : Nat} (h : q k = true) : ∀ i, i < 256 → withB (upU p q k) k i = upU p q (k + 1) i := fun i _ => by
  unfold upU withB; rw [lt_succ_or]
  by_cases e : i = k
  · subst e; simp [h]
  · simp [e]
theorem upM_yes {p q : Nat → Bool} {k : Nat} (h : q k = true) : ∀ i, i < 256 → lessB (upM p q k) k i = upM p q (k + 1) i := fun i _ => by
  unfold upM lessB; rw [lt_succ_or]
  by_cases e : i = k
  · subst e; simp [h]
  · simp [e]
theorem upU_all (p q : Nat → Bool) : ∀ i, i < 256 → upU p q 256 i = (p i || q i) := fun i hi => by simp [upU, hi]
theorem upM_all (p q : Nat → Bool) : ∀ i, i < 256 → upM p q 256 i = (p i && !q i) := fun i hi => by simp [upM, hi]
set_option maxHeartbeats 400000 in
set_option maxRecDepth 100000 in
theorem runion_any (p q : Nat → Bool) (w : World) : Calls Try.prog 21 #[sv p, sv q] w (SetPost w (fun i => p i || q i)) := by
  obtain ⟨h1, h2, h3, hb⟩ := three_new w p q
  go_enter Try.func21, Try.ntmps21
  go_wp2
  go_loopw [5] (fun i wr => ∃ k : Nat, k ≤ 256 ∧ i = .int .i64 k ∧ SA wr w.heap.size (upU p q k) ∧ SA wr (w.heap.size + 1) q ∧ SA wr (w.heap.size + 1 + 1) (fun _ => false) ∧ Below w.heap.size w wr) (fun i _ => 256 - (intOf i).toNat)
  case atStart => exact ⟨0, Nat.zero_le _, rfl, h1.congr (upU_0 p q), h2, h3, hb⟩
  case round =>
    obtain ⟨k, hk, rfl, h1, h2, h3, hb⟩ := hrel
    by_cases hlt : k < 256
    · have hltb : decide ((k : Int) < 256) = true := decide_eq_true (by omega)
      have hu8 : IntKind.u8.wrap (k : Int) = k := by rw [IntKind.wrap_u8]; omega
      have HA := fun w => rhas_any q k w (by omega)
      have AD := Lib.hid (fun w => radd_any (upU p q k) k w (by omega))
      rcases hq : q k with _ | _
      · simp only [hq] at HA
        have HA := Lib.hid HA
        have U := Lib.hid (upU_no (p := p) hq)
        clear hq
        go_wp2_with (first
          | (refine wpList_get rfl _ rfl _ rfl _ h2 ?_)
          | (go_at_call 15; refine (HA.out _).mono ?_; rintro e w2 ⟨rfl, hb2⟩))
        go_roundw
        case rel => exact ⟨k + 1, by omega, by go_num, (h1.below hb2 h1.lt).congr U.out, h2.below hb2 h2.lt, h3.below hb2 h3.lt, hb.trans (hb2.mono hb.size)⟩
        case measure => simp [intOf]; omega
      · simp only [hq] at HA
        have HA := Lib.hid HA
        have U := Lib.hid (upU_yes (p := p) hq)
        clear hq
        go_wp2_with (first
          | (refine wpList_get rfl _ rfl _ rfl _ h2 ?_)
          | (refine wpList_get rfl _ rfl _ rfl _ s1 ?_)
          | (go_at_call 15; refine (HA.out _).mono ?_; rintro e w2 ⟨rfl, hb2⟩; have s1 := h1.below hb2 h1.lt; have s2 := h2.below hb2 h2.lt; have s3 := h3.below hb2 h3.lt)
          | (go_at_call 17; refine (AD.out _).mono ?_; rintro e w3 ⟨rfl, hb3⟩; have t1 := s1.below hb3 s1.lt; have t2 := s2.below hb3 s2.lt; have t3 := s3.below hb3 s3.lt)
          | (refine wpList_put rfl _ _ rfl _ rfl _ (withB (upU p q k) k) rfl t1 ?_; intro w4 s4 p4)
          )
        go_roundw
        case rel => exact ⟨k + 1, by omega, by go_num, s4.congr U.out, p4.sa (by omega) t2, p4.sa (by omega) t3, ((hb.trans (hb2.mono hb.size)).trans (hb3.mono (hb.trans (hb2.mono hb.size)).size)).trans (p4.below (by omega))⟩
        case measure => simp [intOf]; omega
    · obtain rfl : k = 256 := by omega
      have s1 := h1.congr (upU_all p q)
      have HB := Lib.hid hb
      clear h1 hb
      go_wp2_with (first
        | (refine wpList_get rfl _ rfl _ rfl _ s1 ?_)
        | (refine wpList_put rfl _ _ rfl _ rfl _ (fun i => p i || q i) rfl h3 ?_; intro w3 s3 p3)
        )
      refine bodyPost_ret (v := sv (fun i => p i || q i)) (set_result Try.results21 _ _ _ _ rfl s3) rfl ⟨rfl, ?_⟩
      exact HB.out.trans (p3.below (by omega))
set_option maxHeartbeats 400000 in
set_option maxRecDepth 100000 in
theorem rminus_any (p q : Nat → Bool) (w : World) : Calls Try.prog 25 #[sv p, sv q] w (SetPost w (fun i => p i && !q i)) := by
  obtain ⟨h1, h2, h3, hb⟩ := three_new w p q
  go_enter Try.func25, Try.ntmps25
  go_wp2
  go_loopw [5] (fun i wr => ∃ k : Nat, k ≤ 256 ∧ i = .int .i64 k ∧ SA wr w.heap.size (upM p q k) ∧ SA wr (w.heap.size + 1) q ∧ SA wr (w.heap.size + 1 + 1) (fun _ => false) ∧ Below w.heap.size w wr) (fun i _ => 256 - (intOf i).toNat)
  case atStart => exact ⟨0, Nat.zero_le _, rfl, h1.congr (upM_0 p q), h2, h3, hb⟩
  case round =>
    obtain ⟨k, hk, rfl, h1, h2, h3, hb⟩ := hrel
    by_cases hlt : k < 256
    · have hltb : decide ((k : Int) < 256) = true := decide_eq_true (by omega)
      have hu8 : IntKind.u8.wrap (k : Int) = k := by rw [IntKind.wrap_u8]; omega
      have HA := fun w => rhas_any q k w (by omega)
      have AD := Lib.hid (fun w => rdrop_any (upM p q k) k w (by omega))
      rcases hq : q k with _ | _
      · simp only [hq] at HA
        have HA := Lib.hid HA
        have U := Lib.hid (upM_no (p := p) hq)
        clear hq
        go_wp2_with (first
          | (refine wpList_get rfl _ rfl _ rfl _ h2 ?_)
          | (go_at_call 15; refine (HA.out _).mono ?_; rintro e w2 ⟨rfl, hb2⟩))
        go_roundw
        case rel => exact ⟨k + 1, by omega, by go_num, (h1.below hb2 h1.lt).congr U.out, h2.below hb2 h2.lt, h3.below hb2 h3.lt, hb.trans (hb2.mono hb.size)⟩
        case measure => simp [intOf]; omega
      · simp only [hq] at HA
        have HA := Lib.hid HA
        have U := Lib.hid (upM_yes (p := p) hq)
        clear hq
        go_wp2_with (first
          | (refine wpList_get rfl _ rfl _ rfl _ h2 ?_)
          | (refine wpList_get rfl _ rfl _ rfl _ s1 ?_)
          | (go_at_call 15; refine (HA.out _).mono ?_; rintro e w2 ⟨rfl, hb2⟩; have s1 := h1.below hb2 h1.lt; have s2 := h2.below hb2 h2.lt; have s3 := h3.below hb2 h3.lt)
          | (go_at_call 19; refine (AD.out _).mono ?_; rintro e w3 ⟨rfl, hb3⟩; have t1 := s1.below hb3 s1.lt; have t2 := s2.below hb3 s2.lt; have t3 := s3.below hb3 s3.lt)
          | (refine wpList_put rfl _ _ rfl _ rfl _ (lessB (upM p q k) k) rfl t1 ?_; intro w4 s4 p4)
          )
        go_roundw
        case rel => exact ⟨k + 1, by omega, by go_num, s4.congr U.out, p4.sa (by omega) t2, p4.sa (by omega) t3, ((hb.trans (hb2.mono hb.size)).trans (hb3.mono (hb.trans (hb2.mono hb.size)).size)).trans (p4.below (by omega))⟩
        case measure => simp [intOf]; omega
    · obtain rfl : k = 256 := by omega
      have s1 := h1.congr (upM_all p q)
      have HB := Lib.hid hb
      clear h1 hb
      go_wp2_with (first
        | (refine wpList_get rfl _ rfl _ rfl _ s1 ?_)
        | (refine wpList_put rfl _ _ rfl _ rfl _ (fun i => p i && !q i) rfl h3 ?_; intro w3 s3 p3)
        )
      refine bodyPost_ret (v := sv (fun i => p i && !q i)) (set_result Try.results25 _ _ _ _ rfl s3) rfl ⟨rfl, ?_⟩
      exact HB.out.trans (p3.below (by omega))
theorem rmeet_any (p q : Nat → Bool) (w : World) : Calls Try.prog 23 #[sv p, sv q] w (SetPost w (fun i => p i && q i)) := by
  obtain ⟨h1, h2, h3, hb⟩ := three_new w p q
  go_enter Try.func23, Try.ntmps23
  go_wp2
  obtain ⟨W, hW⟩ : ∃ W, W = ((w.alloc (setO p)).alloc (setO q)).alloc zeros := ⟨_, rfl⟩
  rw [← hW] at h1 h2 h3 hb ⊢
  clear hW
  refine wp_region_below_tail (w := W) 5 (Nat.le_refl _) (by kernel_rfl) (by kernel_rfl) ?_
  simp only [List.take_succ_cons, List.take_zero, List.drop_succ_cons, List.drop_zero]
  repeat (first
    | go_big_quiet_skip
    | (go_big_quiet_want; (first
        | ((first | refine quiet_get _ rfl _ rfl _ h1 h1.lt ?_ | refine quiet_get _ rfl _ rfl _ h2 h2.lt ?_); simp only [Act.put, List.setIfInBounds_toArray, List.set_cons_succ, List.set_cons_zero]; go_big_quiet_on)
        | (go_big_quiet_op; (first
            | go_big_quiet_on
            | (refine ⟨_, fun _ _ => rfl, ?_⟩; go_big_quiet_on)
            | (apply Exists.intro; refine ⟨fun w9 hw9 => ?_, ?_⟩; (focus ((go_at_call 25; exact Calls.quiet_below (rminus_any _ _ _) hw9 (Nat.le_refl _) (fun _ _ h => h)))); go_big_quiet_on))))))
  refine wpQuiet_nil ?_
  intro w2 hb2
  have s3 := h3.below hb2 h3.lt
  go_wp2_with (first
    | (refine wpList_put rfl _ _ rfl _ rfl _ _ rfl s3 ?_; intro w4 s4 p4)
    )
  refine bodyPost_ret (v := sv (fun i => p i && q i)) (set_result Try.results23 _ _ _ _ rfl (s4.congr fun i _ => by cases p i <;> cases q i <;> rfl)) rfl ⟨rfl, ?_⟩
  exact (hb.trans (hb2.mono hb.size)).trans (p4.below (by omega))
end Go.Proofs.Ytedbhjladpfafaa
