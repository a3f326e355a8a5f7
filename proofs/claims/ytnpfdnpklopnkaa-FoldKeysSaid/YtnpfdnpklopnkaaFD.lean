/- Layer 4: cmp.Compare, compareBy, Compare, Alike. -/
import Derived.Test.YtnpfdnpklopnkaaFC
import Derived.Test.YtnpfdnpklopnkaaFS
namespace Go.Proofs.Ytnpfdnpklopnkaa
open Go.RowKit
theorem nanb_any (a : Int) (w : World) : Calls Try.prog 73 #[.int .u8 a] w fun e w' => e = .returned (.bool false) ∧ w = w' := by
  go_enter Try.func73, Try.ntmps73
  go_wp2
  go_ret
  exact ⟨rfl, rfl⟩
theorem nani_any (a : Int) (w : World) : Calls Try.prog 74 #[.int .i64 a] w fun e w' => e = .returned (.bool false) ∧ w = w' := by
  go_enter Try.func74, Try.ntmps74
  go_wp2
  go_ret
  exact ⟨rfl, rfl⟩
theorem cmpb_any (a b : Nat) (w : World) : Calls Try.prog 67 #[.int .u8 (a : Int), .int .u8 (b : Int)] w fun e w' => e = .returned (.int .i64 (cmpN a b)) ∧ w = w' := by
  have A := Lib.hid (fun a w => nanb_any a w)
  go_enter Try.func67, Try.ntmps67
  go_wp2_with (go_at_call 73; refine (A.out _ _).mono ?_; rintro e w' ⟨rfl, rfl⟩)
  all_goals (go_ret; exact ⟨ret_int (by unfold cmpN; split <;> (try split) <;> omega), rfl⟩)
theorem cmpi_any (a b : Nat) (w : World) : Calls Try.prog 68 #[.int .i64 (a : Int), .int .i64 (b : Int)] w fun e w' => e = .returned (.int .i64 (cmpN a b)) ∧ w = w' := by
  have A := Lib.hid (fun a w => nani_any a w)
  go_enter Try.func68, Try.ntmps68
  go_wp2_with (go_at_call 74; refine (A.out _ _).mono ?_; rintro e w' ⟨rfl, rfl⟩)
  all_goals (go_ret; exact ⟨ret_int (by unfold cmpN; split <;> (try split) <;> omega), rfl⟩)
set_option maxHeartbeats 800000 in
set_option maxRecDepth 100000 in
theorem compareBy_any (a b : ByteArray) (B : Nat) (w : World) (ha : a.size ≤ maxLen) (hb : b.size ≤ maxLen) (hB : FnBox w B 45) :
    Calls Try.prog 55 #[.string a, .string b, .func (.func 60) #[] #[.pointer (some ⟨B, 0, none⟩)]] w (NumP w (.int .i64 (cmpK a.data.toList b.data.toList))) := by
  unfold maxLen at ha hb
  go_enter Try.func55, Try.ntmps55
  go_wp2
  case _ h =>
    go_loopw [7, 8, 14] (fun _ _ i wr => ∃ k : Nat, k ≤ b.size ∧ i = .int .i64 (k : Int) ∧ Hid (cmpK a.data.toList b.data.toList = cmpK (a.data.toList.drop k) (b.data.toList.drop k)) ∧ Below w.heap.size w wr) (fun _ _ i _ => b.size - (intOf i).toNat)
    case atStart => exact ⟨0, Nat.zero_le _, rfl, Lib.hid (by simp), Below.refl _ _⟩
    case round =>
      obtain ⟨k, hk, rfl, he, hbw⟩ := hrel
      by_cases hlt : k < b.size
      · have hltb : decide ((k : Int) < (b.size : Int)) = true := decide_eq_true (by omega)
        have hka : k < a.size := by omega
        have hkb : k < b.size := by omega
        have S := Lib.hid (fun c W (hc : c < 256) (h : Below wr.heap.size wr W) => (sm1_any c B W hc (hB.below (hbw.trans (h.mono hbw.size)))).mono (R' := NumP W (.int .u8 (lowN c : Int))) fun _ _ hh => ⟨hh.1, hh.2 ▸ Below.refl _ _⟩)
        have HA := Lib.hid (fun (x y : Nat) (W : World) => (cmpb_any x y W).mono (R' := NumP W (.int .i64 (cmpN x y))) fun _ _ hh => ⟨hh.1, hh.2 ▸ Below.refl _ _⟩)
        go_wp2
        refine wp_region_below (w := wr) (Nat.le_refl _) (by kernel_rfl) (by kernel_rfl) ?_
        repeat (first
          | go_big_quiet_skip
          | (go_big_quiet_want; (first
              | ((fail); simp only [Act.put, List.setIfInBounds_toArray, List.set_cons_succ, List.set_cons_zero]; go_big_quiet_on)
              | (go_big_quiet_op; (first
                  | go_big_quiet_on
                  | (refine ⟨_, fun _ _ => rfl, ?_⟩; go_big_quiet_on)
                  | (apply Exists.intro; refine ⟨fun w9 hw9 => ?_, ?_⟩; (focus (first | (go_at_call 60; exact Calls.quiet_below (S.out _ _ (UInt8.toNat_lt _) hw9) hw9 (Nat.le_refl _) (fun _ _ h => h)) | (go_at_call 67; exact Calls.quiet_below (HA.out _ _ _) hw9 (Nat.le_refl _) (fun _ _ h => h)))); go_big_quiet_on))))))
        refine wpQuiet_nil ?_
        intro w2 hb2
        have st := cmpK_step a b hka hkb
        have hr := cmpK_here a b hka hkb
        have B2 := hbw.trans (hb2.mono hbw.size)
        clear S HA hb2 hbw
        generalize a[k].toNat = x at *
        generalize b[k].toNat = y at *
        by_cases hz : cmpN (lowN x) (lowN y) = 0
        · have hzb : (cmpN (lowN x) (lowN y) != 0) = false := by rw [hz]; rfl
          have st2 := st (cmpN_zero.1 hz)
          clear hz hr st
          generalize cmpN (lowN x) (lowN y) = z at *
          go_wp2
          go_roundw
          case rel => exact ⟨k + 1, by omega, by go_num, Lib.hid (he.out.trans st2), B2⟩
          case measure => simp [intOf]; omega
        · have hzb : (cmpN (lowN x) (lowN y) != 0) = true := by simp [hz]
          have hr2 := Lib.hid (hr hz)
          clear hz hr st
          generalize cmpN (lowN x) (lowN y) = z at *
          go_wp2
          go_ret
          exact ⟨ret_int (he.out.trans hr2.out).symm, B2⟩
      · obtain rfl : k = b.size := by omega
        have hltb : decide (((b.size : Nat) : Int) < (b.size : Int)) = false := decide_eq_false (by omega)
        have HC := Lib.hid (fun W => cmpi_any a.size b.size W)
        have e1 := cmpK_end a b
        rw [(Nat.min_eq_right (by omega))] at e1
        have HE := Lib.hid (he.out.trans e1)
        clear e1
        clear he
        go_wp2_with (go_at_call 68; refine (HC.out _).mono ?_; rintro e w' ⟨rfl, rfl⟩)
        go_ret
        exact ⟨ret_int HE.out.symm, hbw⟩
  case _ h =>
    go_loopw [7, 8, 14] (fun _ _ i wr => ∃ k : Nat, k ≤ a.size ∧ i = .int .i64 (k : Int) ∧ Hid (cmpK a.data.toList b.data.toList = cmpK (a.data.toList.drop k) (b.data.toList.drop k)) ∧ Below w.heap.size w wr) (fun _ _ i _ => a.size - (intOf i).toNat)
    case atStart => exact ⟨0, Nat.zero_le _, rfl, Lib.hid (by simp), Below.refl _ _⟩
    case round =>
      obtain ⟨k, hk, rfl, he, hbw⟩ := hrel
      by_cases hlt : k < a.size
      · have hltb : decide ((k : Int) < (a.size : Int)) = true := decide_eq_true (by omega)
        have hka : k < a.size := by omega
        have hkb : k < b.size := by omega
        have S := Lib.hid (fun c W (hc : c < 256) (h : Below wr.heap.size wr W) => (sm1_any c B W hc (hB.below (hbw.trans (h.mono hbw.size)))).mono (R' := NumP W (.int .u8 (lowN c : Int))) fun _ _ hh => ⟨hh.1, hh.2 ▸ Below.refl _ _⟩)
        have HA := Lib.hid (fun (x y : Nat) (W : World) => (cmpb_any x y W).mono (R' := NumP W (.int .i64 (cmpN x y))) fun _ _ hh => ⟨hh.1, hh.2 ▸ Below.refl _ _⟩)
        go_wp2
        refine wp_region_below (w := wr) (Nat.le_refl _) (by kernel_rfl) (by kernel_rfl) ?_
        repeat (first
          | go_big_quiet_skip
          | (go_big_quiet_want; (first
              | ((fail); simp only [Act.put, List.setIfInBounds_toArray, List.set_cons_succ, List.set_cons_zero]; go_big_quiet_on)
              | (go_big_quiet_op; (first
                  | go_big_quiet_on
                  | (refine ⟨_, fun _ _ => rfl, ?_⟩; go_big_quiet_on)
                  | (apply Exists.intro; refine ⟨fun w9 hw9 => ?_, ?_⟩; (focus (first | (go_at_call 60; exact Calls.quiet_below (S.out _ _ (UInt8.toNat_lt _) hw9) hw9 (Nat.le_refl _) (fun _ _ h => h)) | (go_at_call 67; exact Calls.quiet_below (HA.out _ _ _) hw9 (Nat.le_refl _) (fun _ _ h => h)))); go_big_quiet_on))))))
        refine wpQuiet_nil ?_
        intro w2 hb2
        have st := cmpK_step a b hka hkb
        have hr := cmpK_here a b hka hkb
        have B2 := hbw.trans (hb2.mono hbw.size)
        clear S HA hb2 hbw
        generalize a[k].toNat = x at *
        generalize b[k].toNat = y at *
        by_cases hz : cmpN (lowN x) (lowN y) = 0
        · have hzb : (cmpN (lowN x) (lowN y) != 0) = false := by rw [hz]; rfl
          have st2 := st (cmpN_zero.1 hz)
          clear hz hr st
          generalize cmpN (lowN x) (lowN y) = z at *
          go_wp2
          go_roundw
          case rel => exact ⟨k + 1, by omega, by go_num, Lib.hid (he.out.trans st2), B2⟩
          case measure => simp [intOf]; omega
        · have hzb : (cmpN (lowN x) (lowN y) != 0) = true := by simp [hz]
          have hr2 := Lib.hid (hr hz)
          clear hz hr st
          generalize cmpN (lowN x) (lowN y) = z at *
          go_wp2
          go_ret
          exact ⟨ret_int (he.out.trans hr2.out).symm, B2⟩
      · obtain rfl : k = a.size := by omega
        have hltb : decide (((a.size : Nat) : Int) < (a.size : Int)) = false := decide_eq_false (by omega)
        have HC := Lib.hid (fun W => cmpi_any a.size b.size W)
        have e1 := cmpK_end a b
        rw [(Nat.min_eq_left (by omega))] at e1
        have HE := Lib.hid (he.out.trans e1)
        clear e1
        clear he
        go_wp2_with (go_at_call 68; refine (HC.out _).mono ?_; rintro e w' ⟨rfl, rfl⟩)
        go_ret
        exact ⟨ret_int HE.out.symm, hbw⟩
theorem compare_any (a b : ByteArray) (w : World) (ha : a.size ≤ maxLen) (hb : b.size ≤ maxLen) : Calls Try.prog 30 #[.string a, .string b] w (NumP w (.int .i64 (cmpK a.data.toList b.data.toList))) := by
  have O := Lib.hid (onBytes_any 45 w)
  have C := Lib.hid (compareBy_any a b w.heap.size (w.alloc (fnO 45)) ha hb (FnBox.new w _))
  go_enter Try.func30, Try.ntmps30
  go_wp2_with (first
    | (go_at_call 44; (with_reducible refine O.out.mono ?_); rintro e w' ⟨rfl, rfl⟩)
    | (go_at_call 55; (with_reducible refine C.out.mono ?_); rintro e w2 ⟨rfl, hb2⟩))
  go_ret
  exact ⟨rfl, ((Below.refl _ w).alloc (Nat.le_refl _) _).trans (hb2.mono (by simp <;> omega))⟩
theorem alike_any (a b : ByteArray) (w : World) (ha : a.size ≤ maxLen) (hb : b.size ≤ maxLen) : Calls Try.prog 26 #[.string a, .string b] w (NumP w (.bool (alikeL a.data.toList b.data.toList))) := by
  have C := Lib.hid (compare_any a b w ha hb)
  go_enter Try.func26, Try.ntmps26
  go_wp2_with (go_at_call 30; (with_reducible refine C.out.mono ?_); rintro e w2 ⟨rfl, hb2⟩)
  go_ret
  exact ⟨rfl, hb2⟩
end Go.Proofs.Ytnpfdnpklopnkaa
