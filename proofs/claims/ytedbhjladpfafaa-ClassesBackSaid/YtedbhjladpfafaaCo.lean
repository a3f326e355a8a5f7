/- Layer 3: counts, lists, one byte more or less. -/
import Derived.Test.YtedbhjladpfafaaMk
import Derived.Test.YtedbhjladpfafaaM
namespace Go.Proofs.Ytedbhjladpfafaa
open Go.RowKit
attribute [local go_sem] eq4 guard4 eq4z
theorem mem_listB {p : Nat → Bool} {x : Nat} : x ∈ listB p ↔ x < 256 ∧ p x = true := by
  unfold listB; rw [List.mem_filter, List.mem_range]
theorem ofL_listB (p : Nat → Bool) : eqS (ofL (listB p)) p = true := eqS_true fun i hi => by
  unfold ofL
  rw [Bool.eq_iff_iff, List.contains_iff_mem, mem_listB]
  simp [hi]
theorem contains_listB {p : Nat → Bool} {x : Nat} (hx : x < 256) : (listB p).contains x = p x := by
  rw [Bool.eq_iff_iff, List.contains_iff_mem, mem_listB]
  simp [hx]
theorem filter_sum (p q : Nat → Bool) (l : List Nat) : (l.filter (uS p q)).length + (l.filter (mS p q)).length = (l.filter p).length + (l.filter q).length := by
  induction l with
  | nil => rfl
  | cons x l ih =>
    have hu : uS p q x = (p x || q x) := rfl
    have hm : mS p q x = (p x && q x) := rfl
    simp only [List.filter_cons, hu, hm]
    cases p x <;> cases q x <;> simp <;> omega
theorem listB_asc (p : Nat → Bool) : (listB p).Pairwise (· < ·) := List.Pairwise.filter _ List.pairwise_lt_range
theorem listB_step {p : Nat → Bool} {k x y : Nat} (hx : (listB p)[k]? = some x) (hy : (listB p)[k + 1]? = some y) : x < y := by
  obtain ⟨h1, e1⟩ := List.getElem?_eq_some_iff.1 hx
  obtain ⟨h2, e2⟩ := List.getElem?_eq_some_iff.1 hy
  have := List.pairwise_iff_getElem.1 (listB_asc p) k (k + 1) h1 h2 (by omega)
  rw [e1, e2] at this
  exact this
theorem lst_any (p : Nat → Bool) (w : World) : Calls Try.prog 32 #[sv p] w fun e w' => ∃ v, e = .returned v ∧ BR w' v (listB p) ∧ Below w.heap.size w w' := list_any p w
theorem with_un (p : Nat → Bool) (x : Nat) : eqS (withB p x) (uS p (ofL [x])) = true := eqS_true fun i hi => (ofL_one p x i hi).symm
theorem less_mi (p : Nat → Bool) (x : Nat) : eqS (lessB p x) (dS p (ofL [x])) = true := eqS_true fun i hi => (ofL_less p x i hi).symm
theorem ofone (x : Nat) (hx : x < 256) (X : World) : Calls Try.prog 10 #[.slice (some ⟨X.heap.size, 0, none⟩) 1 1] (X.alloc (.cells #[.int .u8 (x : Int)] 5)) (SetPost (X.alloc (.cells #[.int .u8 (x : Int)] 5)) (ofL [x])) := of_any _ [x] _ (BR.one X x hx) (by simp)
set_option maxHeartbeats 1600000 in
set_option maxRecDepth 100000 in
theorem counts_any (a b : Nat → Bool) (xi : Int) (w : World) (hxi : 0 ≤ xi ∧ xi < 256) : Calls Try.prog 6 #[sv a, sv b, .int .u8 xi] w fun e w' => e = .returned (.bool true) ∧ Below w.heap.size w w' := by
  obtain ⟨x, rfl⟩ : ∃ x : Nat, xi = x := ⟨xi.toNat, by omega⟩
  have hx8 : x < 256 := by omega
  clear hxi
  obtain ⟨ha, hb, B0⟩ := two_new w a b
  have LI := Lib.hid (fun w => lst_any a w)
  have hsum := filter_sum a b (List.range 256)
  have n1 := listB_len (uS a b)
  have n2 := listB_len (mS a b)
  have n3 := listB_len a
  have n4 := listB_len b
  have hs2 : (listB (uS a b)).length + (listB (mS a b)).length = (listB a).length + (listB b).length := hsum
  obtain ⟨s, hs⟩ : ∃ s : Nat, s = (listB a).length + (listB b).length := ⟨_, rfl⟩
  have hw1 : IntKind.i64.wrap (((listB (uS a b)).length : Int) + ((listB (mS a b)).length : Int)) = (s : Int) := by rw [IntWalk.i64_in _ (by omega)]; omega
  have hw2 : IntKind.i64.wrap (((listB a).length : Int) + ((listB b).length : Int)) = (s : Int) := by rw [IntWalk.i64_in _ (by omega)]; omega
  have e1 := ofL_listB a
  have e2 : eqS (dS a b) (fun _ => false) = subB a b := subB_eq a b
  clear hsum hs2 hs n1 n2 n4
  go_enter Try.func6, Try.ntmps6
  go_wp2_with (first
    | (refine wpList_get rfl _ rfl _ rfl _ ha ?_)
    | (go_at_call 32; refine (LI.out _).mono ?_; rintro e w2 ⟨v, rfl, hv, hb2⟩
       have a2 := ha.below hb2 ha.lt
       have b2 := hb.below hb2 hb.lt
       have B2 := B0.trans (hb2.mono B0.size)
       have HV := Lib.hid hv
       obtain ⟨pp, cc, rfl, hcc, _⟩ := hv
       clear hb2 ha hb B0)
    )
  refine wp_region_below (w := w2) (Nat.le_refl _) (by kernel_rfl) (by kernel_rfl) ?_
  repeat (first
    | go_big_quiet_skip
    | (go_big_quiet_want; (first
        | ((first | refine quiet_get _ rfl _ rfl _ a2 a2.lt ?_ | refine quiet_get _ rfl _ rfl _ b2 b2.lt ?_); simp only [Act.put, List.setIfInBounds_toArray, List.set_cons_succ, List.set_cons_zero]; go_big_quiet_on)
        | (go_big_quiet_op; (first
            | go_big_quiet_on
            | (refine ⟨_, fun _ _ => rfl, ?_⟩; go_big_quiet_on)
            | (apply Exists.intro; refine ⟨fun w9 hw9 => ?_, ?_⟩; (focus (first | (go_at_call 10; exact Calls.quiet_below (of_any _ (listB a) _ (HV.out.below hw9) (by omega)) hw9 (Nat.le_refl _) (fun _ _ h => h)) | (go_at_call 30; exact Calls.quiet_below (count_any _ _) hw9 (Nat.le_refl _) (fun _ _ h => h)) | (go_at_call 20; exact Calls.quiet_below (uni_any _ _ _) hw9 (Nat.le_refl _) (fun _ _ h => h)) | (go_at_call 22; exact Calls.quiet_below (mee_any _ _ _) hw9 (Nat.le_refl _) (fun _ _ h => h)) | (go_at_call 24; exact Calls.quiet_below (min_any _ _ _) hw9 (Nat.le_refl _) (fun _ _ h => h)) | (go_at_call 28; exact Calls.quiet_bool (sub_any _ _ _) hw9 (Nat.le_refl _)))); go_big_quiet_on))))))
  refine wpQuiet_nil ?_
  intro w3 hb3
  have a3 := a2.below hb3 a2.lt
  have b3 := b2.below hb3 b2.lt
  have B3 := B2.trans (hb3.mono B2.size)
  have HV3 := Lib.hid (HV.out.below hb3)
  clear a2 b2 B2 hb3 HV e1 e2 hw1 hw2
  go_wp2
  obtain ⟨n, hn⟩ : ∃ n, n = (listB a).length := ⟨_, rfl⟩
  have HN := Lib.hid hn
  have HA := Lib.hid (fun k z y => listB_step (p := a) (k := k) (x := z) (y := y))
  have HC := Lib.hid (contains_listB (p := a) hx8)
  obtain ⟨l, hl⟩ : ∃ l, l = listB a := ⟨_, rfl⟩
  rw [← hl] at HV3 HN HA HC
  rw [← hn] at n3 hcc ⊢
  clear hn hl
  go_loopw [8, 9] (fun b_ i wr => ∃ k : Nat, k ≤ n ∧ i = .int .i64 (k : Int) ∧ b_ = .bool ((l.take k).contains x) ∧ Below w3.heap.size w3 wr) (fun _ i _ => n - (intOf i).toNat)
  case atStart => exact ⟨0, Nat.zero_le _, rfl, by simp, Below.refl _ _⟩
  case round =>
    obtain ⟨k, hk, rfl, rfl, hB⟩ := hrel
    by_cases hlt : k < n
    · have hltb : decide ((k : Int) < (n : Int)) = true := decide_eq_true (by omega)
      have hkn : (k : Int) < (n : Int) := by omega
      obtain ⟨c, hc⟩ : ∃ c, l[k]? = some c := ⟨_, List.getElem?_eq_getElem (by rw [← HN.out]; exact hlt)⟩
      obtain ⟨g, o, c', ev, hgw, hcells⟩ := HV3.out.form (by rw [← HN.out]; omega)
      have hpp : pp = some ⟨g, o, none⟩ := by cases ev; rfl
      subst hpp
      obtain ⟨hc8, hcx⟩ := hcells k c hc
      have hck := (hB.cell (p := ⟨g, o + k, none⟩) hgw).trans hcx
      have hst := Lib.hid (show (l.take (k + 1)).contains x = ((l.take k).contains x || (c == x)) by
        rw [List.take_add_one, hc, Bool.eq_iff_iff]; simp; exact ⟨fun h => h.elim Or.inl (fun e => Or.inr e.symm), fun h => h.elim Or.inl (fun e => Or.inr e.symm)⟩)
      have hcx' : ((c : Int) == (x : Int)) = (c == x) := by rw [Bool.eq_iff_iff]; simp; omega
      have hwn : IntKind.i64.wrap ((k : Int) + 1) = (k : Int) + 1 := IntWalk.i64_in _ (by omega)
      obtain ⟨u, hu⟩ : ∃ u, u = (l.take k).contains x := ⟨_, rfl⟩
      rw [← hu] at hst ⊢
      clear hu ev hcx
      have HB := Lib.hid hB
      by_cases hk0 : k = 0
      · subst hk0
        have hck0 : wr.cell? ⟨g, o, none⟩ = some (.int .u8 (c : Int)) := hck
        clear hcells hc hB hck
        cases u
        all_goals
          go_wp2
          go_quiet (fail)
          go_wp2
          go_roundw
          case rel => exact ⟨1, by omega, by go_num, by rw [hst.out]; rfl, HB.out.trans ⟨rfl, rfl, rfl, Nat.le_refl _, fun _ _ => rfl⟩⟩
          case measure => simp [intOf]; omega
      · obtain ⟨j, hj⟩ : ∃ j, j + 1 = k := ⟨k - 1, by omega⟩
        obtain ⟨d, hd⟩ : ∃ d, l[j]? = some d := ⟨_, List.getElem?_eq_getElem (by rw [← HN.out]; omega)⟩
        have hdc := HA.out j d c hd (by rw [hj]; exact hc)
        have hdk := (hB.cell (p := ⟨g, o + j, none⟩) hgw).trans (hcells j d hd).2
        have hle : decide ((c : Int) ≤ (d : Int)) = false := decide_eq_false (by omega)
        have hnle : ¬ c ≤ d := by omega
        have hgt : decide ((0 : Int) < (k : Int)) = true := decide_eq_true (by omega)
        have hgk : 0 < k := by omega
        have hjn : (j : Int) < (n : Int) := by omega
        have hw4 : IntKind.i64.wrap ((k : Int) - 1) = (j : Int) := by rw [IntWalk.i64_in _ (by omega)]; omega
        clear hcells hc hd hB hdc hj
        cases u
        all_goals
          go_wp2
          go_quiet (fail)
          go_wp2
          go_roundw
          case rel => exact ⟨k + 1, by omega, by go_num, by rw [hst.out]; rfl, HB.out.trans ⟨rfl, rfl, rfl, Nat.le_refl _, fun _ _ => rfl⟩⟩
          case measure => simp [intOf]; omega
    · obtain rfl : k = n := by omega
      have hltb : decide ((k : Int) < (k : Int)) = false := decide_eq_false (by omega)
      have hin := HC.out
      rw [HN.out, List.take_length, hin]
      have a4 := a3.below hB a3.lt
      have b4 := b3.below hB b3.lt
      have B4 := B3.trans (hB.mono B3.size)
      clear hin
      obtain ⟨bx, hbx⟩ : ∃ bx, bx = a x := ⟨_, rfl⟩
      rw [← hbx]
      have HX : ∀ w, Calls Try.prog 14 #[sv a, .int .u8 (x : Int)] w fun e w' => e = .returned (.bool bx) ∧ Below w.heap.size w w' := fun w => by rw [hbx]; exact has_any a x w hx8
      replace HX := Lib.hid HX
      clear hbx
      have OO := Lib.hid (ofone x hx8)
      have e3 := with_un a x
      have e4 := less_mi a x
      go_wp2_with (first
        | (go_at_call 10; refine (OO.out _).mono ?_; rintro e w5 ⟨rfl, hb5⟩; have a5 := ((a4.alloc _).below hb5 (a4.alloc _).lt); have B5 := (B4.alloc B4.size _).trans (hb5.mono (B4.alloc B4.size _).size); have z5 := SA.zero w5; have la5 := a5.lt; clear hb5)
        | (refine wpList_put rfl _ _ rfl _ rfl _ (ofL [x]) rfl z5 ?_; (intro w6 x6 p6; have a6 := p6.sa (by omega) (a5.alloc zeros); have B6 := (B5.alloc B5.size zeros).trans (p6.below B5.size); clear z5 p6))
        )
      simp only [Act.put]
      refine wp_region_below (w := w6) (Nat.le_refl _) (by kernel_rfl) (by kernel_rfl) ?_
      repeat (first
        | go_big_quiet_skip
        | (go_big_quiet_want; (first
            | ((first | refine quiet_get _ rfl _ rfl _ a6 a6.lt ?_ | refine quiet_get _ rfl _ rfl _ x6 x6.lt ?_); simp only [Act.put, List.setIfInBounds_toArray, List.set_cons_succ, List.set_cons_zero]; go_big_quiet_on)
            | (go_big_quiet_op; (first
                | go_big_quiet_on
                | (refine ⟨_, fun _ _ => rfl, ?_⟩; go_big_quiet_on)
                | (apply Exists.intro; refine ⟨fun w9 hw9 => ?_, ?_⟩; (focus (first | (go_at_call 14; exact Calls.quiet_bool (HX.out _) hw9 (Nat.le_refl _)) | (go_at_call 16; exact Calls.quiet_below (add_any _ x _ hx8) hw9 (Nat.le_refl _) (fun _ _ h => h)) | (go_at_call 18; exact Calls.quiet_below (drop_any _ x _ hx8) hw9 (Nat.le_refl _) (fun _ _ h => h)) | (go_at_call 20; exact Calls.quiet_below (uni_any _ _ _) hw9 (Nat.le_refl _) (fun _ _ h => h)) | (go_at_call 24; exact Calls.quiet_below (min_any _ _ _) hw9 (Nat.le_refl _) (fun _ _ h => h)) | (go_at_call 9; exact Calls.quiet_bool (shown_any _) hw9 (Nat.le_refl _)))); go_big_quiet_on))))))
      refine wpQuiet_nil ?_
      intro w7 hb7
      have B7 := B6.trans (hb7.mono B6.size)
      go_wp2
      go_ret
      exact ⟨rfl, B7⟩
end Go.Proofs.Ytedbhjladpfafaa
