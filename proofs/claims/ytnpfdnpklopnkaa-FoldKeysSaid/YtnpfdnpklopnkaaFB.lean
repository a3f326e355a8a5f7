/- Layer 4: the reference's Lower, Same, Both; Both. -/
import Derived.Test.YtnpfdnpklopnkaaFA
namespace Go.Proofs.Ytnpfdnpklopnkaa
open Go.RowKit
theorem rlower_any (c : Nat) (w : World) (hc : c < 256) : Calls Try.prog 14 #[.int .u8 (c : Int)] w fun e w' => e = .returned (.int .u8 (lowN c : Int)) ∧ w = w' := by
  go_enter Try.func14, Try.ntmps14
  go_wp2
  all_goals (go_ret; exact ⟨ret_int (by unfold lowN capB; simp only [Bool.and_eq_true, decide_eq_true_eq]; split <;> omega), rfl⟩)
theorem rsame_any (a b : Nat) (w : World) (ha : a < 256) (hb : b < 256) : Calls Try.prog 12 #[.int .u8 (a : Int), .int .u8 (b : Int)] w fun e w' => e = .returned (.bool (sameN a b)) ∧ w = w' := by
  have A := Lib.hid (fun w => rlower_any a w ha)
  have B := Lib.hid (fun w => rlower_any b w hb)
  have R := Lib.hid (show (((lowN a : Nat) : Int) == ((lowN b : Nat) : Int)) = sameN a b by unfold sameN; rw [Bool.eq_iff_iff]; simp; omega)
  go_enter Try.func12, Try.ntmps12
  go_wp2_with (first
    | (go_at_call 14; (with_reducible refine (A.out _).mono ?_); rintro e w' ⟨rfl, rfl⟩)
    | (go_at_call 14; (with_reducible refine (B.out _).mono ?_); rintro e w' ⟨rfl, rfl⟩))
  go_ret
  exact ⟨ret_bool R.out, rfl⟩
/-- The set of the bytes that are the same letter. -/
def bothP (c : Nat) : Nat → Bool := fun i => sameN i c
theorem both_of {c : Nat} : ∀ i, i < 256 → ofL [c, othN c] i = bothP c i := fun i _ => by
  unfold ofL bothP
  rw [Bool.eq_iff_iff, List.contains_iff_mem, sameN_iff]
  constructor
  · intro h
    rcases List.mem_cons.1 h with rfl | h
    · exact .inl rfl
    · obtain rfl := List.mem_singleton.1 h
      exact .inr (oth_oth c).symm
  · rintro (rfl | rfl)
    · simp
    · rw [oth_oth]; simp
theorem of2_any (c d B : Nat) (W : World) (hB : B = W.heap.size) (hc : c < 256) (hd : d < 256) : Calls Try.prog 46 #[.slice (some ⟨B, 0, none⟩) 2 2] (W.alloc (.cells #[.int .u8 (c : Int), .int .u8 (d : Int)] 5)) (SetPost (W.alloc (.cells #[.int .u8 (c : Int), .int .u8 (d : Int)] 5)) (ofL [c, d])) :=
  hB ▸ of_any _ [c, d] _ (BR.lit W [c, d] (0, 0) (by intro x hx; simp at hx; omega)) (by simp)
set_option maxHeartbeats 400000 in
set_option maxRecDepth 100000 in
theorem both_any (c : Nat) (w : World) (hc : c < 256) : Calls Try.prog 15 #[.int .u8 (c : Int)] w (SetPost w (bothP c)) := by
  obtain ⟨z, hb⟩ := one_zero w
  have hl := othN_lt hc
  have O := Lib.hid (onBytes_any 47 (w.alloc zeros))
  have S := Lib.hid (show Calls Try.prog 60 #[.int .u8 (c : Int), .pointer (some ⟨w.heap.size + 1, 0, none⟩)] ((w.alloc zeros).alloc (fnO 47)) fun e w' => e = .returned (.int .u8 (othN c : Int)) ∧ (w.alloc zeros).alloc (fnO 47) = w' by
    have := ot1_any c (w.alloc zeros).heap.size ((w.alloc zeros).alloc (fnO 47)) hc (FnBox.new _ _)
    rwa [World.size_alloc] at this)
  have OF := Lib.hid (fun B W h => of2_any c (othN c) B W h hc hl)
  go_enter Try.func15, Try.ntmps15
  go_wp2_with (first
    | (go_at_call 44; (with_reducible refine O.out.mono ?_); rintro e w' ⟨rfl, rfl⟩)
    | (go_at_call 60; (with_reducible refine S.out.mono ?_); rintro e w' ⟨rfl, rfl⟩)
    | (go_at_call 46; (with_reducible refine (OF.out _ _ (by simp)).mono ?_); rintro e w2 ⟨rfl, hb2⟩; have z2 := ((z.alloc (fnO 47)).alloc (.cells #[.int .u8 (c : Int), .int .u8 (othN c : Int)] 5)).below hb2 (by simp <;> omega))
    | (refine wpList_put rfl _ _ rfl _ rfl _ (ofL [c, othN c]) rfl z2 ?_; intro w3 s3 p3)
    )
  refine bodyPost_ret (v := sv (bothP c)) (set_result Try.results15 _ _ _ _ rfl (s3.congr both_of)) rfl ⟨rfl, ?_⟩
  exact (((hb.alloc hb.size _).alloc (by simp <;> omega) _).trans (hb2.mono (by simp <;> omega))).trans (p3.below (Nat.le_refl _))
theorem bothP_self (c : Nat) : bothP c c = true := by unfold bothP sameN; simp
/-- The set of the bytes below k that are the same letter. -/
def upB (c k : Nat) : Nat → Bool := fun i => bothP c i && decide (i < k)
theorem upB_no {c k : Nat} (h : sameN k c = false) : ∀ i, i < 256 → upB c k i = upB c (k + 1) i := fun i _ => by
  unfold upB; rw [lt_succ_or]
  by_cases e : i = k
  · subst e; simp [bothP, h]
  · simp [e]
theorem upB_yes {c k : Nat} (h : sameN k c = true) : ∀ i, i < 256 → withB (upB c k) k i = upB c (k + 1) i := fun i _ => by
  unfold upB withB; rw [lt_succ_or]
  by_cases e : i = k
  · subst e; simp [bothP, h]
  · simp [e]
theorem upB_all (c : Nat) : ∀ i, i < 256 → upB c 256 i = bothP c i := fun i hi => by simp [upB, hi]
set_option maxHeartbeats 400000 in
set_option maxRecDepth 100000 in
theorem rboth_any (c : Nat) (w : World) (hc : c < 256) : Calls Try.prog 16 #[.int .u8 (c : Int)] w (SetPost w (bothP c)) := by
  obtain ⟨h1, h2, hb⟩ := zero_zero w
  go_enter Try.func16, Try.ntmps16
  go_wp2
  go_loopw [4] (fun i wr => ∃ k : Nat, k ≤ 256 ∧ i = .int .i64 k ∧ SA wr w.heap.size (fun _ => false) ∧ SA wr (w.heap.size + 1) (upB c k) ∧ Below w.heap.size w wr) (fun i _ => 256 - (intOf i).toNat)
  case atStart => exact ⟨0, Nat.zero_le _, rfl, h1, h2.congr fun i _ => by simp [upB], hb⟩
  case round =>
    obtain ⟨k, hk, rfl, h1, h2, hb⟩ := hrel
    by_cases hlt : k < 256
    · have hltb : decide ((k : Int) < 256) = true := decide_eq_true (by omega)
      have hu8 : IntKind.u8.wrap (k : Int) = k := by rw [IntKind.wrap_u8]; omega
      have HA := fun w => rsame_any k c w hlt hc
      have AD := Lib.hid (fun w => radd_any (upB c k) k w hlt)
      rcases hq : sameN k c with _ | _
      · simp only [hq] at HA
        have HA := Lib.hid HA
        have U := Lib.hid (upB_no hq)
        clear hq
        go_wp2_with (go_at_call 12; refine (HA.out _).mono ?_; rintro e w' ⟨rfl, rfl⟩)
        go_roundw
        case rel => exact ⟨k + 1, by omega, by go_num, h1, h2.congr U.out, hb⟩
        case measure => simp [intOf]; omega
      · simp only [hq] at HA
        have HA := Lib.hid HA
        have U := Lib.hid (upB_yes hq)
        clear hq
        go_wp2_with (first
          | (go_at_call 12; refine (HA.out _).mono ?_; rintro e w' ⟨rfl, rfl⟩)
          | (refine wpList_get rfl _ rfl _ rfl _ h2 ?_)
          | (go_at_call 48; refine (AD.out _).mono ?_; rintro e w2 ⟨rfl, hb2⟩; have s1 := h1.below hb2 h1.lt; have s2 := h2.below hb2 h2.lt)
          | (refine wpList_put rfl _ _ rfl _ rfl _ (withB (upB c k) k) rfl s2 ?_; intro w3 s3 p3))
        go_roundw
        case rel => exact ⟨k + 1, by omega, by go_num, p3.sa (by omega) s1, s3.congr U.out, (hb.trans (hb2.mono hb.size)).trans (p3.below (by omega))⟩
        case measure => simp [intOf]; omega
    · obtain rfl : k = 256 := by omega
      have h3 := h2.congr (upB_all c)
      have HB := Lib.hid hb
      clear h2 hb
      go_wp2_with (first
        | (refine wpList_get rfl _ rfl _ rfl _ h3 ?_)
        | (refine wpList_put rfl _ _ rfl _ rfl _ (bothP c) rfl h1 ?_; intro w3 s3 p3)
        )
      refine bodyPost_ret (v := sv (bothP c)) (set_result Try.results16 _ _ _ _ rfl s3) rfl ⟨rfl, ?_⟩
      exact HB.out.trans (p3.below (Nat.le_refl _))
end Go.Proofs.Ytnpfdnpklopnkaa
