/- Layer 3: the reference's All, Not, Sub. -/
import Derived.Test.YtedbhjladpfafaaH
namespace Go.Proofs.Ytedbhjladpfafaa
open Go.RowKit
theorem eq4z (w : World) (p : Nat → Bool) : (Op.equalIn 10000 26 (.agg (sc p)) (.agg #[.int .u64 0, .int .u64 0, .int .u64 0, .int .u64 0])).run Try.prog w = .ok (eqS p (fun _ => false)) w := by rw [sc_none]; exact eq4 w p _
attribute [local go_sem] eq4 guard4 eq4z
theorem all_rng : ∀ i, i < 256 → rngP 0 255 i = true := fun i hi => by unfold rngP rngOk; simp; omega
theorem rall_any (w : World) : Calls Try.prog 46 #[] w (SetPost w (fun _ => true)) := by
  obtain ⟨h1, hb⟩ := one_zero w
  have RG := Lib.hid (fun w => rrange_any 0 255 w)
  go_enter Try.func46, Try.ntmps46
  go_wp2_with (first
    | (refine wpList_get rfl _ rfl _ rfl _ s5 ?_)
    | (refine wpList_put rfl _ _ rfl _ rfl _ (fun _ => true) rfl s4 ?_; intro w5 s6 p5)
    | (go_at_call 12; refine (RG.out _).mono ?_; rintro e w2 ⟨rfl, hb2⟩; have z1 := SA.zero w2; have s2 := (h1.below hb2 h1.lt).alloc zeros; have hlt := (h1.below hb2 h1.lt).lt)
    | (refine wpList_put rfl _ _ rfl _ rfl _ (rngP 0 255) rfl z1 ?_; intro w4 s3 p4; have s4 := p4.sa (by omega) s2; have s5 := s3.congr all_rng)
    )
  refine bodyPost_ret (v := sv (fun _ => true)) (set_result Try.results46 _ _ _ _ rfl s6) rfl ⟨rfl, ?_⟩
  exact (((hb.trans (hb2.mono hb.size)).alloc (by omega) _).trans (p4.below (by omega))).trans (p5.below (by omega))
theorem rnot_any (p : Nat → Bool) (w : World) : Calls Try.prog 27 #[sv p] w (SetPost w (fun i => !p i)) := by
  obtain ⟨h1, h3, hb⟩ := two_zero w p
  go_enter Try.func27, Try.ntmps27
  go_wp2
  obtain ⟨W, hW⟩ : ∃ W, W = (w.alloc (setO p)).alloc zeros := ⟨_, rfl⟩
  rw [← hW] at h1 h3 hb ⊢
  clear hW
  refine wp_region_below_tail (w := W) 3 (Nat.le_refl _) (by kernel_rfl) (by kernel_rfl) ?_
  simp only [List.take_succ_cons, List.take_zero, List.drop_succ_cons, List.drop_zero]
  repeat (first
    | go_big_quiet_skip
    | (go_big_quiet_want; (first
        | ((refine quiet_get _ rfl _ rfl _ h1 h1.lt ?_); simp only [Act.put, List.setIfInBounds_toArray, List.set_cons_succ, List.set_cons_zero]; go_big_quiet_on)
        | (go_big_quiet_op; (first
            | go_big_quiet_on
            | (refine ⟨_, fun _ _ => rfl, ?_⟩; go_big_quiet_on)
            | (apply Exists.intro; refine ⟨fun w9 hw9 => ?_, ?_⟩; (focus (first | (go_at_call 46; exact Calls.quiet_below (rall_any _) hw9 (Nat.le_refl _) (fun _ _ h => h)) | (go_at_call 25; exact Calls.quiet_below (rminus_any _ _ _) hw9 (Nat.le_refl _) (fun _ _ h => h)))); go_big_quiet_on))))))
  refine wpQuiet_nil ?_
  intro w2 hb2
  have s3 := h3.below hb2 h3.lt
  go_wp2_with (first
    | (refine wpList_put rfl _ _ rfl _ rfl _ _ rfl s3 ?_; intro w4 s4 p4)
    )
  refine bodyPost_ret (v := sv (fun i => !p i)) (set_result Try.results27 _ _ _ _ rfl (s4.congr fun i _ => by cases p i <;> rfl)) rfl ⟨rfl, ?_⟩
  exact (hb.trans (hb2.mono hb.size)).trans (p4.below (by omega))
theorem subB_eq (p q : Nat → Bool) : eqS (fun i => p i && !q i) (fun _ => false) = subB p q := by
  unfold subB
  rw [Bool.eq_iff_iff, eqS_iff, eqS_iff]
  refine forall_congr' fun i => forall_congr' fun _ => ?_
  cases p i <;> cases q i <;> simp
theorem rsub_any (p q : Nat → Bool) (w : World) : Calls Try.prog 29 #[sv p, sv q] w fun e w' => e = .returned (.bool (subB p q)) ∧ Below w.heap.size w w' := by
  obtain ⟨h1, h2, hb⟩ := two_new w p q
  have MI := Lib.hid (fun w => rminus_any p q w)
  have R := Lib.hid (subB_eq p q)
  go_enter Try.func29, Try.ntmps29
  go_wp2_with (first
    | (refine wpList_get rfl _ rfl _ rfl _ h1 ?_)
    | (refine wpList_get rfl _ rfl _ rfl _ h2 ?_)
    | (go_at_call 25; refine (MI.out _).mono ?_; rintro e w2 ⟨rfl, hb2⟩)
    )
  go_ret
  exact ⟨ret_bool R.out, hb.trans (hb2.mono hb.size)⟩
end Go.Proofs.Ytedbhjladpfafaa
