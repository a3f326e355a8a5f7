/- ArenaEnds. -/
import Derived.Test.YtonkenicikjefaaS
import Derived.Test.YtonkenicikjefaaP
namespace Go.Proofs.Ytonkenicikjefaa
open Go.RowKit
/-- The loop's relation: k steps are made. -/
def EndsR (w : World) (p k : Nat) (wr : World) : Prop := ∃ (cs : List Nat) (tr : List (Nat × Nat)), Ow w wr no p cs [] tr ∧ cs.length = 3 ∧ tr = (List.range k).map fun i => (2 - i % 2, i % 3)
theorem endsR_next {k : Nat} {tr : List (Nat × Nat)} (h : tr = (List.range k).map fun i => (2 - i % 2, i % 3)) : tr ++ [(2 - k % 2, k % 3)] = (List.range (k + 1)).map fun i => (2 - i % 2, i % 3) := by
  rw [List.range_succ, List.map_append, h]; rfl
theorem en_room {w W : World} {p : Nat} {cs : List Nat} {tr : List (Nat × Nat)} (a r : Int) (h : Ow w W no p cs [] tr) (m : Nat) (hm : tr.length = m) (hr : roomE m a = r) : Calls Try.prog 32 #[.pointer (some ⟨p, 0, none⟩), .int .i64 a] W fun e w' => e = .returned (.int .i64 r) ∧ W = w' := by
  subst hr; subst hm; exact ow_room h a
theorem en_steps {w W : World} {p : Nat} {cs : List Nat} {tr : List (Nat × Nat)} (h : Ow w W no p cs [] tr) (m : Nat) (hm : tr.length = m) : Calls Try.prog 15 #[.pointer (some ⟨p, 0, none⟩)] W fun e w' => e = .returned (.int .i64 (m : Int)) ∧ W = w' := by
  subst hm; exact ow_steps h
theorem en_r1 {w W : World} {p : Nat} (h : Ow w W no p [0, 0, 0] [] []) : Calls Try.prog 32 #[.pointer (some ⟨p, 0, none⟩), .int .i64 8388608] W fun e w' => e = .returned (.int .i64 0) ∧ W = w' := en_room 8388608 0 h 0 rfl (by decide +kernel)
theorem en_r2 {w W : World} {p : Nat} (h : Ow w W no p [0, 0, 0] [] []) : Calls Try.prog 32 #[.pointer (some ⟨p, 0, none⟩), .int .i64 8388609] W fun e w' => e = .returned (.int .i64 3) ∧ W = w' := en_room 8388609 3 h 0 rfl (by decide +kernel)
theorem en_m1 {w W : World} {p : Nat} {cs : List Nat} {tr : List (Nat × Nat)} (h : Ow w W no p cs [] tr) (hm : tr.length = 8388608) : Calls Try.prog 32 #[.pointer (some ⟨p, 0, none⟩), .int .i64 0] W fun e w' => e = .returned (.int .i64 0) ∧ W = w' := en_room 0 0 h _ hm (by decide +kernel)
theorem en_m2 {w W : World} {p : Nat} {cs : List Nat} {tr : List (Nat × Nat)} (h : Ow w W no p cs [] tr) (hm : tr.length = 8388608) : Calls Try.prog 32 #[.pointer (some ⟨p, 0, none⟩), .int .i64 1] W fun e w' => e = .returned (.int .i64 3) ∧ W = w' := en_room 1 3 h _ hm (by decide +kernel)
theorem en_ms {w W : World} {p : Nat} {cs : List Nat} {tr : List (Nat × Nat)} (h : Ow w W no p cs [] tr) (hm : tr.length = 8388608) : Calls Try.prog 15 #[.pointer (some ⟨p, 0, none⟩)] W fun e w' => e = .returned (.int .i64 8388608) ∧ W = w' := en_steps h _ hm
theorem drop_two {f : Nat → Nat × Nat} (m : Nat) : ((List.range (m + 2)).map f).drop m = [f m, f (m + 1)] := by
  rw [List.range_succ, List.range_succ, List.map_append, List.map_append, List.append_assoc, List.drop_append_of_le_length (by simp), List.drop_of_length_le (by simp)]
  rfl
theorem en_si {w W : World} {p : Nat} {cs : List Nat} {tr : List (Nat × Nat)} {k : Nat} (h : Ow w W no p cs [] tr) (hm : tr.length = 8388608) (ht : tr = (List.range k).map fun i => (2 - i % 2, i % 3)) : Calls Try.prog 29 #[.pointer (some ⟨p, 0, none⟩), .int .i64 8388606] W (SiPost W [(2, 0), (1, 1)]) := by
  have hk : k = 8388606 + 2 := by rw [ht] at hm; simpa using hm
  have h1 := ow_since h 8388606 (by rw [hm]; decide)
  rw [ht, hk, drop_two] at h1
  exact h1
theorem en_se (v : Value) (W : World) (h : ES W v [(2, 0), (1, 1)]) : Calls Try.prog 17 #[v, .slice (some ⟨W.heap.size, 0, none⟩) 2 2] (W.alloc (.cells #[.int .i32 2, .int .i32 0, .int .i32 1, .int .i32 1] 70)) fun e w' => e = .returned (.bool true) ∧ Below (W.alloc (.cells #[.int .i32 2, .int .i32 0, .int .i32 1, .int .i32 1] 70)).heap.size (W.alloc (.cells #[.int .i32 2, .int .i32 0, .int .i32 1, .int .i32 1] 70)) w' := by
  have h2 := two_es W (2, 0) (1, 1)
  have hb : Below W.heap.size W (W.alloc (.cells #[.int .i32 2, .int .i32 0, .int .i32 1, .int .i32 1] 70)) := (Below.refl _ W).alloc (Nat.le_refl _) _
  refine (same_ev v _ _ _ _ (h.below hb) h2 (by decide)).mono ?_
  rintro e w' ⟨rfl, d, rfl⟩
  exact ⟨by rw [eqB_true rfl], below_drewN (Below.refl _ _) d⟩
theorem en_st {w W : World} {p : Nat} {cs : List Nat} (h : Ow w W no p cs [] []) (hc : cs.length = 3) : Calls Try.prog 30 #[.pointer (some ⟨p, 0, none⟩), .int .i64 0, .int .u64 9] W (OwPost w W no p (cs.set 0 9) [] [(2, 0)] (.int .i64 0)) := ow_store h 0 9 (by omega) (by decide) (by decide)
theorem en_s0 {w W : World} {p : Nat} {cs : List Nat} (h : Ow w W no p cs [] []) : Calls Try.prog 15 #[.pointer (some ⟨p, 0, none⟩)] W fun e w' => e = .returned (.int .i64 0) ∧ W = w' := ow_steps h
theorem en_s1 {w W : World} {p : Nat} {cs : List Nat} (h : Ow w W no p cs [] [(2, 0)]) : Calls Try.prog 15 #[.pointer (some ⟨p, 0, none⟩)] W fun e w' => e = .returned (.int .i64 1) ∧ W = w' := ow_steps h
set_option maxRecDepth 100000 in
set_option maxHeartbeats 4000000 in
theorem ends_any (w : World) : Calls Try.prog 8 #[] w fun e w' => e = .returned (.bool true) ∧ Below w.heap.size w w' := by
  have AW := Lib.hid awake_any
  have NW := Lib.hid (show Calls Try.prog 12 #[.int .i64 3] w fun e W' => ∃ p, e = .returned (.tuple #[.pointer (some ⟨p, 0, none⟩), .int .i64 0]) ∧ Ow w W' no p [0, 0, 0] [] [] ∧ Below w.heap.size w W' from ow_new 3 w w no (Below.refl _ w) (fun _ h => h.elim) (by decide) (by decide))
  go_enter Try.func8, Try.ntmps8
  go_wp2_with (first
    | (go_at_call 12; (with_reducible refine (NW.out).mono ?_); rintro e w1 ⟨p, rfl, h1, hb1⟩; have H1 := Lib.hid h1; clear h1 hb1)
    | (go_at_call 32; (with_reducible refine (en_r1 H1.out).mono ?_); rintro e w' ⟨rfl, rfl⟩)
    | (go_at_call 32; (with_reducible refine (en_r2 H1.out).mono ?_); rintro e w' ⟨rfl, rfl⟩))
  have HO : Hid (EndsR w p 0 w1) := Lib.hid ⟨[0, 0, 0], [], H1.out, rfl, rfl⟩
  clear NW H1
  obtain ⟨M, hM⟩ : ∃ M : Nat, M = 8388608 := ⟨_, rfl⟩
  have HM := Lib.hid hM
  clear hM
  go_loopw [2, 3] (fun _ i wr => ∃ k : Nat, k ≤ M ∧ i = .int .i64 (k : Int) ∧ EndsR w p k wr) (fun _ i _ => M - (intOf i).toNat)
  case atStart => exact ⟨0, Nat.zero_le _, rfl, HO.out⟩
  case round =>
    obtain ⟨k, hk, rfl, hr⟩ := hrel
    clear HO
    obtain ⟨cs, tr, ho, hcl, htr⟩ := hr
    have OH := Lib.hid ho
    have CH := Lib.hid hcl
    have TH := Lib.hid htr
    have hlen : tr.length = k := by rw [htr]; simp
    have LH := Lib.hid hlen
    clear ho hcl htr hlen
    have e3 : ((k % 3 : Nat) : Int) = (k : Int) % 3 := by omega
    by_cases hlt : k < M
    · have t1 : decide ((k : Int) < 8388608) = true := decide_eq_true (by have := HM.out; omega)
      have kb : k < 8388608 := by have := HM.out; omega
      have ew : IntKind.u64.wrap (k : Int) = (k : Int) := by rw [IntKind.wrap_u64]; have := HM.out; omega
      by_cases hpar : k % 2 = 0
      · have t2 := mod_even hpar
        have SD := Lib.hid (ow_store OH.out (k % 3) k (by rw [CH.out]; omega) (by have := HM.out; omega) (by rw [LH.out]; have := HM.out; omega))
        rw [e3] at SD
        have HP := Lib.hid hpar
        clear hpar e3
        go_wp2_with (go_at_call 30; (with_reducible refine (SD.out).mono ?_); rintro e w3 ⟨rfl, h3, _, _⟩; have H3 := Lib.hid h3; clear h3)
        go_roundw
        case rel => exact ⟨k + 1, by omega, by go_num, _, _, H3.out, by rw [List.length_set, CH.out], by rw [← endsR_next TH.out, HP.out]⟩
        case measure => simp [intOf]; omega
      · have t2 := mod_odd hpar
        obtain ⟨z, hz⟩ : ∃ z, z = cs.getD (k % 3) 0 := ⟨_, rfl⟩
        have SD := Lib.hid (ow_load OH.out (k % 3) (by rw [CH.out]; omega) (by rw [LH.out]; have := HM.out; omega))
        rw [e3, ← hz] at SD
        have HP := Lib.hid (show k % 2 = 1 by omega)
        clear hpar e3 hz
        go_wp2_with (go_at_call 28; (with_reducible refine (SD.out).mono ?_); rintro e w3 ⟨rfl, h3, _, _⟩; have H3 := Lib.hid h3; clear h3)
        go_roundw
        case rel => exact ⟨k + 1, by omega, by go_num, _, _, H3.out, CH.out, by rw [← endsR_next TH.out, HP.out]⟩
        case measure => simp [intOf]; omega
    · have hkM : k = 8388608 := by have := HM.out; omega
      have t1 : decide ((k : Int) < 8388608) = false := decide_eq_false (by omega)
      have L8 := Lib.hid (show tr.length = 8388608 by rw [LH.out, hkM])
      have HK := Lib.hid hkM
      clear hkM LH hlt e3
      go_wp2_with (first
        | (go_at_call 24; (with_reducible refine (ow_cells' OH.out CH.out).mono ?_); rintro e w5 ⟨g5, c5, rfl, hu5, hb5⟩; have U5 := Lib.hid hu5; have O5 := Lib.hid (OH.out.below hb5); clear hu5 hb5)
        | (go_at_call 32; (with_reducible refine (en_m1 O5.out L8.out).mono ?_); rintro e w' ⟨rfl, rfl⟩)
        | (go_at_call 32; (with_reducible refine (en_m2 O5.out L8.out).mono ?_); rintro e w' ⟨rfl, rfl⟩)
        | (go_at_call 15; (with_reducible refine (en_ms O5.out L8.out).mono ?_); rintro e w' ⟨rfl, rfl⟩))
      clear AW HM HK t1 hk
      go_loopw [5, 6, 7, 8, 9, 10] (fun i _ _ _ _ _ wr => ∃ j : Nat, j ≤ 9 ∧ i = .int .i64 (j : Int) ∧ w5 = wr) (fun i _ _ _ _ _ _ => 9 - (intOf i).toNat)
      case atStart => exact ⟨0, by omega, rfl, rfl⟩
      case round =>
        obtain ⟨j, hj, rfl, rfl⟩ := hrel
        by_cases hj9 : j < 9
        · have t1 : decide ((j : Int) < 9) = true := decide_eq_true (by omega)
          have e3 : ((j % 3 : Nat) : Int) = (j : Int) % 3 := by omega
          have hE : stepE cs.length tr.length ((j % 3 : Nat) : Int) = 3 := by rw [CH.out, L8.out]; exact stepE_long (by omega)
          have L1 := Lib.hid (ow_load_bad O5.out ((j % 3 : Nat) : Int) (by rw [hE]; decide))
          have S1 := Lib.hid (ow_store_bad O5.out ((j % 3 : Nat) : Int) 5 (by rw [hE]; decide))
          have hE2 : stepE cs.length tr.length 3 = 7 := stepE_range (by rw [CH.out]; omega)
          have L2 := Lib.hid (ow_load_bad O5.out 3 (by rw [hE2]; decide))
          rw [hE, e3] at L1 S1
          rw [hE2] at L2
          clear hE hE2 e3
          go_wp2_with (first
            | (go_at_call 28; (with_reducible refine (L1.out).mono ?_); rintro e w' ⟨rfl, rfl⟩)
            | (go_at_call 30; (with_reducible refine (S1.out).mono ?_); rintro e w' ⟨rfl, rfl⟩)
            | (go_at_call 28; (with_reducible refine (L2.out).mono ?_); rintro e w' ⟨rfl, rfl⟩))
          go_roundw
          case rel => exact ⟨j + 1, by omega, by go_num, trivial⟩
          case measure => simp [intOf]; omega
        · obtain rfl : j = 9 := by omega
          have SI := Lib.hid (en_si O5.out L8.out TH.out)
          go_wp2_with (first
            | (go_at_call 29; (with_reducible refine (SI.out).mono ?_); rintro e w6 ⟨v, rfl, he, hb6⟩; have SE := Lib.hid (en_se v w6 he); have O6 := Lib.hid ((O5.out.below hb6).below ((Below.refl _ w6).alloc (Nat.le_refl _) (.cells #[.int .i32 2, .int .i32 0, .int .i32 1, .int .i32 1] 70))); have U6 := Lib.hid ((U5.out.below hb6).below ((Below.refl _ w6).alloc (Nat.le_refl _) (.cells #[.int .i32 2, .int .i32 0, .int .i32 1, .int .i32 1] 70))); clear he hb6)
            | (go_at_call 17; (with_reducible refine (SE.out).mono ?_); rintro e w7 ⟨rfl, hb7⟩; have O7 := Lib.hid (O6.out.below hb7); have U7 := Lib.hid (U6.out.below hb7); clear hb7)
            | (go_at_call 24; (with_reducible refine (ow_cells' O7.out CH.out).mono ?_); rintro e w8 ⟨g8, c8, rfl, hu8, hb8⟩; have V8 := Lib.hid hu8; have U8 := Lib.hid (U7.out.below hb8); have O8 := Lib.hid (O7.out.below hb8); clear hu8 hb8)
            | (go_at_call 23; (with_reducible refine (same_self V8.out U8.out (by rw [CH.out]; omega)).mono ?_); rintro e w9 ⟨rfl, hb9⟩; have O9 := Lib.hid (O8.out.below hb9); clear hb9)
            | (go_at_call 33; (with_reducible refine (ow_forget O9.out).mono ?_); rintro e w10 ⟨rfl, h10, _, _⟩; have O10 := Lib.hid h10; clear h10)
            | (go_at_call 30; (with_reducible refine (en_st O10.out CH.out).mono ?_); rintro e w11 ⟨rfl, h11, _, _⟩; have O11 := Lib.hid h11; clear h11)
            | (go_at_call 15; (with_reducible refine (en_s1 O11.out).mono ?_); rintro e w' ⟨rfl, rfl⟩)
            | (go_at_call 15; (with_reducible refine (en_s0 O10.out).mono ?_); rintro e w' ⟨rfl, rfl⟩)
            | (go_at_call 15; (with_reducible refine (en_ms O9.out L8.out).mono ?_); rintro e w' ⟨rfl, rfl⟩)
            | (go_at_call 11; (with_reducible refine (awake_any _).mono ?_); rintro e w13 ⟨rfl, hb13⟩))
          go_ret
          exact ⟨rfl, O11.out.bel.trans (hb13.mono O11.out.bel.size)⟩
end Go.Proofs.Ytonkenicikjefaa
