/- Layer 4: the law on closed sets. -/
import Derived.Test.YtnpfdnpklopnkaaFL
import Derived.Test.YtnpfdnpklopnkaaCX
import Derived.Test.YtnpfdnpklopnkaaFQ
import Derived.Deep.RegionHeld3
namespace Go.Proofs.Ytnpfdnpklopnkaa
open Go.RowKit
attribute [local go_sem] eq4 guard4 run_setStore isSet_a isSet_b isSet_c isSet_row
def morP (p q : Nat → Bool) : Nat → Bool := fun i => p i || q i
def notP (p : Nat → Bool) : Nat → Bool := fun i => !p i
theorem clo1 (p : Nat → Bool) : eqS (closeP (closeP p)) (closeP p) = true := eqS_true fun i _ => by
  unfold closeP; rw [oth_oth]; cases p i <;> cases p (othN i) <;> rfl
theorem clo2 (p : Nat → Bool) : eqS (openP (openP p)) (openP p) = true := eqS_true fun i _ => by
  unfold openP; rw [oth_oth]; cases p i <;> cases p (othN i) <;> rfl
theorem clo3 (p : Nat → Bool) : eqS (closeP (openP p)) (openP p) = true := eqS_true fun i _ => by
  unfold closeP openP; rw [oth_oth]; cases p i <;> cases p (othN i) <;> rfl
theorem clo4 (p : Nat → Bool) : subB p (closeP p) = true := subB_iff.2 fun i _ h => by unfold closeP; rw [h]; rfl
theorem clo5 (p : Nat → Bool) : subB (openP p) p = true := subB_iff.2 fun i _ h => by unfold openP at h; revert h; cases p i <;> simp
theorem clo6 (p : Nat → Bool) : eqS (openP (notP p)) (notP (closeP p)) = true := eqS_true fun i _ => by
  unfold notP openP closeP; cases h1 : p i <;> cases h2 : p (othN i) <;> simp [h1, h2]
theorem clo7 (p q : Nat → Bool) : subB (closeP p) (closeP (morP p q)) = true := subB_iff.2 fun i _ h => by
  unfold closeP morP at *; revert h; cases p i <;> cases p (othN i) <;> simp
theorem clo8 (p q : Nat → Bool) : subB (openP p) (openP (morP p q)) = true := subB_iff.2 fun i _ h => by
  unfold openP morP at *; revert h; cases p i <;> cases p (othN i) <;> simp
theorem clo9 {p q : Nat → Bool} (h : eqS (closeP q) q = true) (hs : subB p q = true) : subB (closeP p) q = true := subB_iff.2 fun i hi hc => by
  rw [← eqS_iff.1 h i hi]
  unfold closeP at *
  rcases (Bool.or_eq_true_iff).1 hc with h1 | h1
  · rw [subB_iff.1 hs i hi h1]; rfl
  · rw [subB_iff.1 hs _ (othN_lt hi) h1]; simp
theorem clo10 {p q : Nat → Bool} (h : eqS (closeP q) q = true) (hs : subB q p = true) : subB q (openP p) = true := subB_iff.2 fun i hi hq => by
  have h2 : q (othN i) = true := by
    rw [← eqS_iff.1 h _ (othN_lt hi)]; unfold closeP; rw [oth_oth, hq]; simp
  unfold openP
  rw [subB_iff.1 hs i hi hq, subB_iff.1 hs _ (othN_lt hi) h2]; rfl
theorem clo11 {p : Nat → Bool} {x : Nat} (hx : x ∈ listB (closeP p)) : subB (bothP x) (closeP p) = true := subB_iff.2 fun i hi h => by
  have hc := (mem_listB.1 hx).2
  rcases (sameN_iff _ _).1 h with rfl | rfl
  · exact hc
  · unfold closeP at *; rw [oth_oth] at hc; rw [Bool.or_comm]; exact hc
theorem clu_any (p q : Nat → Bool) (w : World) : Calls Try.prog 39 #[sv p, sv q] w (SetPost w (morP p q)) := runion_any p q w
theorem cln_any (p : Nat → Bool) (w : World) : Calls Try.prog 41 #[sv p] w (SetPost w (notP p)) := rnot_any p w
set_option maxHeartbeats 1600000 in
set_option maxRecDepth 100000 in
theorem fclosed_any (p q : Nat → Bool) (w : World) : Calls Try.prog 8 #[sv p, sv q] w fun e w' => e = .returned (.bool true) ∧ Below w.heap.size w w' := by
  obtain ⟨ha, hb, B0⟩ := two_new w p q
  go_enter Try.func8, Try.ntmps8
  go_wp2
  obtain ⟨w3, hw3⟩ : ∃ w3, w3 = (w.alloc (setO p)).alloc (setO q) := ⟨_, rfl⟩
  rw [← hw3] at ha hb B0 ⊢
  clear hw3
  go_cut [5, 6] from 10 to 13 (fun s9 s10 wx => CutP w3.heap.size w3 (closeP p) (openP p) s9 s10 wx)
  case first =>
    have S0 : St w3 w.heap.size (w.heap.size + 1) p q w3 := ⟨ha, hb, ⟨ha.lt, hb.lt⟩, Below.refl _ w3⟩
    have S3 := S0.drew
    go_region_held3 (fun w' => w'.cell? ⟨w.heap.size, 0, none⟩ = some (wv p 0) ∧ w'.cell? ⟨w.heap.size, 1, none⟩ = some (wv p 1) ∧ w'.cell? ⟨w.heap.size, 2, none⟩ = some (wv p 2) ∧ w'.cell? ⟨w.heap.size, 3, none⟩ = some (wv p 3))
      (first | (with_reducible exact (S6).a.four) | (with_reducible exact (S6.alloc _).a.four) | (with_reducible exact ((S6.alloc _).alloc _).a.four) | (with_reducible exact (S5).a.four) | (with_reducible exact (S5.alloc _).a.four) | (with_reducible exact ((S5.alloc _).alloc _).a.four) | (with_reducible exact (S3).a.four) | (with_reducible exact (S0.alloc _).drew.a.four) | (with_reducible exact ((S0.alloc _).alloc _).drew.a.four)  | (with_reducible exact ((S6.row _ _ (by omega))).a.four) | (with_reducible exact (((S6.row _ _ (by omega)).row _ _ (by omega))).a.four) | (with_reducible exact (((S6.alloc _).row _ _ (by omega))).a.four) | (with_reducible exact ((((S6.alloc _).row _ _ (by omega)).row _ _ (by omega))).a.four) | (with_reducible exact ((((S6.alloc _).alloc _).row _ _ (by omega))).a.four) | (with_reducible exact (((((S6.alloc _).alloc _).row _ _ (by omega)).row _ _ (by omega))).a.four))
      (first
        | (go_at_call 20; refine (close_any p _).mono ?_; rintro e w5 ⟨rfl, hb5⟩
           (first | (with_reducible have S5 := St.below S3 hb5) | (with_reducible have S5 := St.below ((S0.alloc _).drew) hb5) | (with_reducible have S5 := St.below (((S0.alloc _).alloc _).drew) hb5))
           have l5 := S5.bel.size
           (try (with_reducible have t5 : IsSet w5 w3.heap.size := IsSet.below (IsSet.one w3).drew hb5))
           (try (with_reducible have t5 : IsSet w5 w3.heap.size := IsSet.below (IsSet.oneA w3).drew hb5))
           (try (with_reducible have v5 : IsSet w5 (w3.heap.size + 1) := IsSet.below (IsSet.two w3).drew hb5))
           skip)
        | (go_at_call 22; refine (open_any p _).mono ?_; rintro e w6 ⟨rfl, hb6⟩
           (first | (with_reducible have S6 := St.below S5 hb6) | (with_reducible have S6 := St.below (S5.alloc _) hb6) | (with_reducible have S6 := St.below ((S5.alloc _).alloc _) hb6))
           have l6 := S6.bel.size
           have m6 : w5.heap.size ≤ w6.heap.size := Nat.le_trans (by first | exact Nat.le_refl _ | (simp only [World.size_alloc]; omega)) hb6.size
           (try (with_reducible have t6 : IsSet w6 w3.heap.size := IsSet.below t5 hb6))
           (try (with_reducible have t6 : IsSet w6 w3.heap.size := IsSet.below (t5.alloc _) hb6))
           (try (with_reducible have v6 : IsSet w6 (w3.heap.size + 1) := IsSet.below v5 hb6))
           (try (with_reducible have x6 : IsSet w6 w5.heap.size := IsSet.below (IsSet.one w5) hb6))
           (try (with_reducible have x6 : IsSet w6 w5.heap.size := IsSet.below (IsSet.oneA w5) hb6))
           (try (with_reducible have y6 : IsSet w6 (w5.heap.size + 1) := IsSet.below (IsSet.two w5) hb6))
           (try have t6' := t6.alloc zeros)
           (try have v6' := v6.alloc zeros)
           (try have x6' := x6.alloc zeros)
           (try have y6' := y6.alloc zeros)))
    all_goals
      go_wp2_with fail
      go_meet
      have g5 := hb5.size
      have g6 := hb6.size
      (try simp only [World.size_alloc, heap_drew] at g5)
      (try simp only [World.size_alloc] at g6)
      refine cut_close _ _ ?_ ?_ ?_ ?_ ?_ ?_
      · first | (with_reducible assumption) | exact IsSet.one _ | exact IsSet.oneA _ | exact IsSet.two _
      · first | (with_reducible assumption) | exact IsSet.one _ | exact IsSet.oneA _ | exact IsSet.two _
      · omega
      · first | (with_reducible exact S6.bel) | (with_reducible exact (S6.alloc _).bel) | (with_reducible exact ((S6.alloc _).alloc _).bel)
      · omega
      · omega
  case rest =>
    obtain ⟨B9, B10, rfl, rfl, x9, x10, HC⟩ := hcut
    have a4 := ha.below HC ha.lt
    have b4 := hb.below HC hb.lt
    have B4 := B0.trans (HC.mono B0.size)
    have LT : B9 < wc.heap.size ∧ B10 < wc.heap.size ∧ w.heap.size + 1 < wc.heap.size := ⟨x9.lt, x10.lt, b4.lt⟩
    have UN := Lib.hid (fun w => clu_any p q w)
    clear HC ha hb B0
    go_wp2_with (first
      | (refine wpList_get rfl _ rfl _ rfl _ a4 ?_)
      | (refine wpList_get rfl _ rfl _ rfl _ b4 ?_)
      | (go_at_call 39; (with_reducible refine (UN.out _).mono ?_); rintro e w5 ⟨rfl, hb5⟩
         have a5 := a4.below hb5 a4.lt
         have b5 := b4.below hb5 b4.lt
         have c5 := x9.below hb5 x9.lt
         have o5 := x10.below hb5 x10.lt
         have B5 := B4.trans (hb5.mono B4.size)
         have z5 := SA.zero w5
         have l5 := hb5.size
         clear hb5 a4 b4 x9 x10 B4)
      | (refine wpList_put rfl _ _ rfl _ rfl _ (morP p q) rfl z5 ?_; (intro w6 m6 p6; have a6 := p6.sa (by omega) (a5.alloc zeros); have b6 := p6.sa (by omega) (b5.alloc zeros); have c6 := p6.sa (by omega) (c5.alloc zeros); have o6 := p6.sa (by omega) (o5.alloc zeros); have B6 := (B5.alloc B5.size zeros).trans (p6.below B5.size); clear a5 b5 c5 o5 B5 z5 p6))
      )
    simp only [Act.put]
    clear UN
    have e1 := clo1 p
    have e2 := clo2 p
    have e3 := clo3 p
    have e4 := clo4 p
    have e5 := clo5 p
    have e6 := clo6 p
    have e7 := clo7 p q
    have e8 := clo8 p q
    refine wp_region_below (w := w6) (Nat.le_refl _) (by kernel_rfl) (by kernel_rfl) ?_
    repeat (first
      | go_big_quiet_skip
      | (go_big_quiet_want; (first
          | ((first | refine quiet_get _ rfl _ rfl _ a6 a6.lt ?_ | refine quiet_get _ rfl _ rfl _ b6 b6.lt ?_ | refine quiet_get _ rfl _ rfl _ c6 c6.lt ?_ | refine quiet_get _ rfl _ rfl _ o6 o6.lt ?_ | refine quiet_get _ rfl _ rfl _ m6 m6.lt ?_); simp only [Act.put, List.setIfInBounds_toArray, List.set_cons_succ, List.set_cons_zero]; go_big_quiet_on)
          | (go_big_quiet_op; (first
              | go_big_quiet_on
              | (refine ⟨_, fun _ _ => rfl, ?_⟩; go_big_quiet_on)
              | (apply Exists.intro; refine ⟨fun w9 hw9 => ?_, ?_⟩; (focus (first | (go_at_call 18; exact Calls.quiet_below (closed_any _ _) hw9 (Nat.le_refl _) (fun _ _ h => h)) | (go_at_call 20; exact Calls.quiet_below (close_any _ _) hw9 (Nat.le_refl _) (fun _ _ h => h)) | (go_at_call 22; exact Calls.quiet_below (open_any _ _) hw9 (Nat.le_refl _) (fun _ _ h => h)) | (go_at_call 41; exact Calls.quiet_below (cln_any _ _) hw9 (Nat.le_refl _) (fun _ _ h => h)) | (go_at_call 40; exact Calls.quiet_bool (rsub_any _ _ _) hw9 (Nat.le_refl _)))); go_big_quiet_on))))))
    refine wpQuiet_nil ?_
    intro w7 hb7
    have B7 := B6.trans (hb7.mono B6.size)
    have a7 := a6.below hb7 a6.lt
    have b7 := b6.below hb7 b6.lt
    have c7 := c6.below hb7 c6.lt
    have o7 := o6.below hb7 o6.lt
    clear hb7 a6 b6 c6 o6 m6 B6 e1 e2 e3 e4 e5 e6 e7 e8
    go_upto_region 5 with fail
    go_cut [94] from 71 to 94 (fun s94 wx => s94 = .bool false ∧ Below w7.heap.size w7 wx)
    case first =>
      have CQ := Lib.hid (fun w => closed_any q w)
      have S1 := Lib.hid (fun w => rsub_any p q w)
      have S2 := Lib.hid (fun w => rsub_any (closeP p) q w)
      have S3 := Lib.hid (fun w => rsub_any q p w)
      have S4 := Lib.hid (fun w => rsub_any q (openP p) w)
      have K9 := clo9 (p := p) (q := q)
      have K10 := clo10 (p := p) (q := q)
      generalize eqS (closeP q) q = y1 at *
      generalize subB p q = y2 at *
      generalize subB (closeP p) q = y3 at *
      generalize subB q p = y4 at *
      generalize subB q (openP p) = y5 at *
      have hb : Below w7.heap.size w7 w7 := Below.refl _ _
      clear LT l5 B7
      generalize w.heap.size + 1 = A1 at *
      generalize w.heap.size = A0 at *
      generalize w5.heap.size = A5 at *
      cases y1
      · clear K9 K10
        refine wp_region_seq_below (w := w7) (n := World.heap w7 |>.size) ?_
        repeat (first
          | go_big_quiet_skip
          | (go_big_quiet_want; (first
              | ((first | refine quiet_get _ rfl _ rfl _ a7 a7.lt ?_ | refine quiet_get _ rfl _ rfl _ b7 b7.lt ?_ | refine quiet_get _ rfl _ rfl _ c7 c7.lt ?_ | refine quiet_get _ rfl _ rfl _ o7 o7.lt ?_); simp only [Act.put, List.setIfInBounds_toArray, List.set_cons_succ, List.set_cons_zero]; go_big_quiet_on)
              | (go_big_quiet_op; (first
                  | go_big_quiet_on
                  | (refine ⟨_, fun _ _ => rfl, ?_⟩; go_big_quiet_on)
                  | (apply Exists.intro; refine ⟨fun w9 hw9 => ?_, ?_⟩; (focus (first | (go_at_call 18; exact Calls.quiet_below (CQ.out _) hw9 (Nat.le_refl _) (fun _ _ h => h)) | (go_at_call 40; with_reducible exact Calls.quiet_bool (S1.out _) hw9 (Nat.le_refl _)) | (go_at_call 40; with_reducible exact Calls.quiet_bool (S2.out _) hw9 (Nat.le_refl _)) | (go_at_call 40; with_reducible exact Calls.quiet_bool (S3.out _) hw9 (Nat.le_refl _)) | (go_at_call 40; with_reducible exact Calls.quiet_bool (S4.out _) hw9 (Nat.le_refl _)))); go_big_quiet_on))))))
        refine wpQuiet_nil ?_
        intro w8 hb8
        go_wp2
        go_meet
        exact ⟨rfl, hb8⟩
      · replace K9 := K9 rfl
        replace K10 := K10 rfl
        cases y2
        · clear K9
          cases y4
          · clear K10
            refine wp_region_seq_below (w := w7) (n := World.heap w7 |>.size) ?_
            repeat (first
              | go_big_quiet_skip
              | (go_big_quiet_want; (first
                  | ((first | refine quiet_get _ rfl _ rfl _ a7 a7.lt ?_ | refine quiet_get _ rfl _ rfl _ b7 b7.lt ?_ | refine quiet_get _ rfl _ rfl _ c7 c7.lt ?_ | refine quiet_get _ rfl _ rfl _ o7 o7.lt ?_); simp only [Act.put, List.setIfInBounds_toArray, List.set_cons_succ, List.set_cons_zero]; go_big_quiet_on)
                  | (go_big_quiet_op; (first
                      | go_big_quiet_on
                      | (refine ⟨_, fun _ _ => rfl, ?_⟩; go_big_quiet_on)
                      | (apply Exists.intro; refine ⟨fun w9 hw9 => ?_, ?_⟩; (focus (first | (go_at_call 18; exact Calls.quiet_below (CQ.out _) hw9 (Nat.le_refl _) (fun _ _ h => h)) | (go_at_call 40; with_reducible exact Calls.quiet_bool (S1.out _) hw9 (Nat.le_refl _)) | (go_at_call 40; with_reducible exact Calls.quiet_bool (S2.out _) hw9 (Nat.le_refl _)) | (go_at_call 40; with_reducible exact Calls.quiet_bool (S3.out _) hw9 (Nat.le_refl _)) | (go_at_call 40; with_reducible exact Calls.quiet_bool (S4.out _) hw9 (Nat.le_refl _)))); go_big_quiet_on))))))
            refine wpQuiet_nil ?_
            intro w8 hb8
            go_wp2
            go_meet
            exact ⟨rfl, hb8⟩
          · obtain rfl := K10 rfl
            clear K10
            refine wp_region_seq_below (w := w7) (n := World.heap w7 |>.size) ?_
            repeat (first
              | go_big_quiet_skip
              | (go_big_quiet_want; (first
                  | ((first | refine quiet_get _ rfl _ rfl _ a7 a7.lt ?_ | refine quiet_get _ rfl _ rfl _ b7 b7.lt ?_ | refine quiet_get _ rfl _ rfl _ c7 c7.lt ?_ | refine quiet_get _ rfl _ rfl _ o7 o7.lt ?_); simp only [Act.put, List.setIfInBounds_toArray, List.set_cons_succ, List.set_cons_zero]; go_big_quiet_on)
                  | (go_big_quiet_op; (first
                      | go_big_quiet_on
                      | (refine ⟨_, fun _ _ => rfl, ?_⟩; go_big_quiet_on)
                      | (apply Exists.intro; refine ⟨fun w9 hw9 => ?_, ?_⟩; (focus (first | (go_at_call 18; exact Calls.quiet_below (CQ.out _) hw9 (Nat.le_refl _) (fun _ _ h => h)) | (go_at_call 40; with_reducible exact Calls.quiet_bool (S1.out _) hw9 (Nat.le_refl _)) | (go_at_call 40; with_reducible exact Calls.quiet_bool (S2.out _) hw9 (Nat.le_refl _)) | (go_at_call 40; with_reducible exact Calls.quiet_bool (S3.out _) hw9 (Nat.le_refl _)) | (go_at_call 40; with_reducible exact Calls.quiet_bool (S4.out _) hw9 (Nat.le_refl _)))); go_big_quiet_on))))))
            refine wpQuiet_nil ?_
            intro w8 hb8
            go_wp2
            go_meet
            exact ⟨rfl, hb8⟩
        · obtain rfl := K9 rfl
          clear K9
          cases y4
          · clear K10
            refine wp_region_seq_below (w := w7) (n := World.heap w7 |>.size) ?_
            repeat (first
              | go_big_quiet_skip
              | (go_big_quiet_want; (first
                  | ((first | refine quiet_get _ rfl _ rfl _ a7 a7.lt ?_ | refine quiet_get _ rfl _ rfl _ b7 b7.lt ?_ | refine quiet_get _ rfl _ rfl _ c7 c7.lt ?_ | refine quiet_get _ rfl _ rfl _ o7 o7.lt ?_); simp only [Act.put, List.setIfInBounds_toArray, List.set_cons_succ, List.set_cons_zero]; go_big_quiet_on)
                  | (go_big_quiet_op; (first
                      | go_big_quiet_on
                      | (refine ⟨_, fun _ _ => rfl, ?_⟩; go_big_quiet_on)
                      | (apply Exists.intro; refine ⟨fun w9 hw9 => ?_, ?_⟩; (focus (first | (go_at_call 18; exact Calls.quiet_below (CQ.out _) hw9 (Nat.le_refl _) (fun _ _ h => h)) | (go_at_call 40; with_reducible exact Calls.quiet_bool (S1.out _) hw9 (Nat.le_refl _)) | (go_at_call 40; with_reducible exact Calls.quiet_bool (S2.out _) hw9 (Nat.le_refl _)) | (go_at_call 40; with_reducible exact Calls.quiet_bool (S3.out _) hw9 (Nat.le_refl _)) | (go_at_call 40; with_reducible exact Calls.quiet_bool (S4.out _) hw9 (Nat.le_refl _)))); go_big_quiet_on))))))
            refine wpQuiet_nil ?_
            intro w8 hb8
            go_wp2
            go_meet
            exact ⟨rfl, hb8⟩
          · obtain rfl := K10 rfl
            clear K10
            refine wp_region_seq_below (w := w7) (n := World.heap w7 |>.size) ?_
            repeat (first
              | go_big_quiet_skip
              | (go_big_quiet_want; (first
                  | ((first | refine quiet_get _ rfl _ rfl _ a7 a7.lt ?_ | refine quiet_get _ rfl _ rfl _ b7 b7.lt ?_ | refine quiet_get _ rfl _ rfl _ c7 c7.lt ?_ | refine quiet_get _ rfl _ rfl _ o7 o7.lt ?_); simp only [Act.put, List.setIfInBounds_toArray, List.set_cons_succ, List.set_cons_zero]; go_big_quiet_on)
                  | (go_big_quiet_op; (first
                      | go_big_quiet_on
                      | (refine ⟨_, fun _ _ => rfl, ?_⟩; go_big_quiet_on)
                      | (apply Exists.intro; refine ⟨fun w9 hw9 => ?_, ?_⟩; (focus (first | (go_at_call 18; exact Calls.quiet_below (CQ.out _) hw9 (Nat.le_refl _) (fun _ _ h => h)) | (go_at_call 40; with_reducible exact Calls.quiet_bool (S1.out _) hw9 (Nat.le_refl _)) | (go_at_call 40; with_reducible exact Calls.quiet_bool (S2.out _) hw9 (Nat.le_refl _)) | (go_at_call 40; with_reducible exact Calls.quiet_bool (S3.out _) hw9 (Nat.le_refl _)) | (go_at_call 40; with_reducible exact Calls.quiet_bool (S4.out _) hw9 (Nat.le_refl _)))); go_big_quiet_on))))))
            refine wpQuiet_nil ?_
            intro w8 hb8
            go_wp2
            go_meet
            exact ⟨rfl, hb8⟩
    case rest =>
      obtain ⟨rfl, HC⟩ := hcut
      have c8 := c7.below HC c7.lt
      have B8 := B7.trans (HC.mono B7.size)
      have LI := Lib.hid (fun w => rlst_any (closeP p) w)
      clear HC a7 b7 c7 o7 B7 LT l5
      go_wp2_with (first
        | (refine wpList_get rfl _ rfl _ rfl _ c8 ?_)
        | (go_at_call 42; (with_reducible refine (LI.out _).mono ?_); rintro e w9 ⟨v, rfl, hv, hb9⟩
           have c9 := c8.below hb9 c8.lt
           have B9' := B8.trans (hb9.mono B8.size)
           have HV := Lib.hid hv
           obtain ⟨pp, cc, rfl, hcc, _⟩ := hv
           clear hb9 c8 B8)
        )
      have n3 := listB_len (closeP p)
      have HM := Lib.hid (fun x (h : x ∈ listB (closeP p)) => clo11 h)
      have SH := Lib.hid shown_any
      obtain ⟨l, hl⟩ : ∃ l, l = listB (closeP p) := ⟨_, rfl⟩
      rw [← hl] at HV HM n3 hcc ⊢
      obtain ⟨n, hn⟩ : ∃ n, n = l.length := ⟨_, rfl⟩
      rw [← hn] at hcc n3 ⊢
      have HN := Lib.hid hn
      clear hn hl LI
      go_loopw [9] (fun i wr => ∃ k : Nat, k ≤ n ∧ i = .int .i64 (k : Int) ∧ Below w9.heap.size w9 wr) (fun i _ => n - (intOf i).toNat)
      case atStart => exact ⟨0, Nat.zero_le _, rfl, Below.refl _ _⟩
      case round =>
        obtain ⟨k, hk, rfl, hB⟩ := hrel
        by_cases hlt : k < n
        · have hltb : decide ((k : Int) < (n : Int)) = true := decide_eq_true (by omega)
          have hkn : (k : Int) < (n : Int) := by omega
          obtain ⟨x, hx⟩ : ∃ x, l[k]? = some x := ⟨_, List.getElem?_eq_getElem (by rw [← HN.out]; exact hlt)⟩
          obtain ⟨g, o, c', ev, hgw, hcells⟩ := HV.out.form (by rw [← HN.out]; omega)
          have hpp : pp = some ⟨g, o, none⟩ := by cases ev; rfl
          subst hpp
          obtain ⟨hx8, hcx⟩ := hcells k x hx
          have hck := (hB.cell (p := ⟨g, o + k, none⟩) hgw).trans hcx
          have hgr : g < wr.heap.size := Nat.lt_of_lt_of_le hgw hB.size
          have cr := c9.below hB c9.lt
          have es := HM.out x (List.mem_of_getElem? hx)
          have HB := Lib.hid hB
          clear hcells ev hcx hx hB
          go_wp2
          refine wp_region_below (w := wr) (Nat.le_refl _) (by kernel_rfl) (by kernel_rfl) ?_
          repeat (first
            | go_big_quiet_skip
            | (go_big_quiet_want; (first
                | ((first | refine quiet_get _ rfl _ rfl _ cr cr.lt ?_ | refine quiet_byte _ rfl _ rfl _ hck hgr ?_); simp only [Act.put, List.setIfInBounds_toArray, List.set_cons_succ, List.set_cons_zero]; go_big_quiet_on)
                | (go_big_quiet_op; (first
                    | go_big_quiet_on
                    | (refine ⟨_, fun _ _ => rfl, ?_⟩; go_big_quiet_on)
                    | (apply Exists.intro; refine ⟨fun w9 hw9 => ?_, ?_⟩; (focus (first | (go_at_call 15; exact Calls.quiet_below (both_any x _ hx8) hw9 (Nat.le_refl _) (fun _ _ h => h)) | (go_at_call 40; exact Calls.quiet_bool (rsub_any _ _ _) hw9 (Nat.le_refl _)))); go_big_quiet_on))))))
          refine wpQuiet_nil ?_
          intro w4 hb4
          go_wp2
          go_roundw
          case rel => exact ⟨k + 1, by omega, by go_num, HB.out.trans (hb4.mono HB.out.size)⟩
          case measure => simp [intOf]; omega
        · obtain rfl : k = n := by omega
          have hltb : decide ((k : Int) < (k : Int)) = false := decide_eq_false (by omega)
          have BE := B9'.trans (hB.mono B9'.size)
          go_wp2_with (go_at_call 17; (with_reducible refine (SH.out _).mono ?_); rintro e w6 ⟨rfl, hb2⟩)
          go_ret
          exact ⟨rfl, BE.trans (hb2.mono BE.size)⟩
end Go.Proofs.Ytnpfdnpklopnkaa
