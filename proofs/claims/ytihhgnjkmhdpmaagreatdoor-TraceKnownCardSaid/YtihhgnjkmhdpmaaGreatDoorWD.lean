/- Layer 1: contracts of the reference's Int and Digits. -/
import Derived.Test.YtihhgnjkmhdpmaaGreatDoorWC
namespace Go.Proofs.YtihhgnjkmhdpmaaGreatDoor.W
open Go.RowKit
/-- How many bytes the sign takes. -/
def signN (l : List UInt8) : Nat := if minusB l then 1 else 0
def soFar (l : List UInt8) (k : Nat) : Nat := natFrom 0 ((dropM l).take (k - signN l))
theorem soFar_zero (l : List UInt8) : soFar l 0 = 0 := by unfold soFar; rw [show 0 - signN l = 0 by omega]; rfl
theorem natFrom_snoc (l : List UInt8) (a : Nat) (c : UInt8) : natFrom a (l ++ [c]) = 10 * natFrom a l + (c.toNat - 48) := by
  unfold natFrom; rw [List.foldl_append]; rfl
theorem natFrom_app (l r : List UInt8) (a : Nat) : natFrom a (l ++ r) = natFrom (natFrom a l) r := by
  unfold natFrom; rw [List.foldl_append]
theorem natFrom_pref (l : List UInt8) (k : Nat) : natFrom 0 (l.take k) ≤ natFrom 0 l := by
  have := natFrom_app (l.take k) (l.drop k) 0
  rw [List.take_append_drop] at this
  rw [this]; exact natFrom_le _ _
theorem minus_iff (s : ByteArray) (h : 0 < s.size) : minusB s.data.toList = decide (s[0] = 45) := by
  rw [data_cons s h, minusB_cons]
theorem dropM_at (s : ByteArray) (k : Nat) (h0 : 0 < s.size) (h : k < s.size) (hk : signN s.data.toList ≤ k) : (dropM s.data.toList)[k - signN s.data.toList]? = some s[k] := by
  have hd := data_get s k h
  unfold signN at hk ⊢
  rw [minus_iff s h0] at hk ⊢
  rw [data_cons s h0, dropM_cons]
  by_cases e : s[0] = 45
  · simp only [e] at hk ⊢
    simp at hk ⊢
    rw [show k - 1 + 1 = k by omega]
    simpa using hd
  · rw [decide_eq_false e, if_neg e, if_neg (by decide), ← data_cons s h0]; exact hd
theorem soFar_succ (s : ByteArray) (k : Nat) (h0 : 0 < s.size) (h : k < s.size) (hk : signN s.data.toList ≤ k) :
    soFar s.data.toList (k + 1) = 10 * soFar s.data.toList k + (s[k].toNat - 48) := by
  unfold soFar
  have := dropM_at s k h0 h hk
  obtain ⟨h1, h2⟩ := List.getElem?_eq_some_iff.1 this
  rw [show k + 1 - signN s.data.toList = (k - signN s.data.toList) + 1 by omega, List.take_succ_eq_append_getElem h1, natFrom_snoc, h2]
theorem form_digit (s : ByteArray) (k : Nat) (hf : intForm s.data.toList = true) (h0 : 0 < s.size) (h : k < s.size) (hk : signN s.data.toList ≤ k) : 48 ≤ s[k].toNat ∧ s[k].toNat ≤ 57 := by
  have := dropM_at s k h0 h hk
  unfold intForm at hf
  rw [Bool.and_eq_true] at hf
  have hd := natL_digits _ hf.1
  rw [List.all_eq_true] at hd
  exact (digitB_iff _).1 (hd _ (List.mem_of_getElem? this))
theorem form_pos (s : ByteArray) (hf : intForm s.data.toList = true) : 0 < s.size := by
  rcases Nat.eq_zero_or_pos s.size with h | h
  · rw [eq_nil_zero s h] at hf; cases hf
  · exact h
theorem soFar_all (s : ByteArray) (h0 : 0 < s.size) : soFar s.data.toList s.size = natFrom 0 (dropM s.data.toList) := by
  unfold soFar
  rw [List.take_of_length_le]
  unfold signN
  rw [minus_iff s h0]
  have h1 := data_cons s h0
  have h2 : s.data.toList.length = s.size := length_data s
  rw [h1] at h2 ⊢
  rw [dropM_cons]
  simp only [List.length_cons] at h2
  by_cases e : s[0] = 45
  · rw [if_pos e, decide_eq_true e, if_pos rfl]; omega
  · rw [if_neg e, decide_eq_false e, if_neg (by decide), List.length_cons]; omega
theorem soFar_le (l : List UInt8) (k : Nat) : soFar l k ≤ natFrom 0 (dropM l) := natFrom_pref _ _
theorem intVal_of (l : List UInt8) : intVal l = if minusB l then -(natFrom 0 (dropM l) : Int) else (natFrom 0 (dropM l) : Int) := rfl

theorem quo_bd (x : Int) (h0 : 0 ≤ x) (h1 : x ≤ 9) : (-9223372036854775808 + x).tdiv 10 = -((9223372036854775808 - x) / 10) := by
  rw [show -9223372036854775808 + x = -(9223372036854775808 - x) by omega, Int.neg_tdiv, Int.tdiv_eq_ediv_of_nonneg (by omega)]
theorem step_no (v x : Int) (h0 : 0 ≤ x) (h1 : x ≤ 9) (h : v < (-9223372036854775808 + x).tdiv 10) : 10 * v - x < -9223372036854775808 := by
  rw [quo_bd x h0 h1] at h; omega
theorem step_yes (v x : Int) (h0 : 0 ≤ x) (h1 : x ≤ 9) (hv : v ≤ 0) (h : (-9223372036854775808 + x).tdiv 10 ≤ v) : RowKit.wrap64 (RowKit.wrap64 (10 * v) - x) = 10 * v - x ∧ -9223372036854775808 ≤ 10 * v - x ∧ 10 * v - x ≤ 0 := by
  rw [quo_bd x h0 h1] at h
  rw [IntWalk.wrap64_in (10 * v) (by omega), IntWalk.wrap64_in _ (by omega)]
  omega
theorem ret_i64 {a b : Int} (h : a = b) : Value.int .i64 a = Value.int .i64 b := by rw [h]

theorem rint_bad (s : ByteArray) (lo hi : Int) (w : World) (hs : s.size ≤ maxLen) (h1 : intForm s.data.toList = false) :
    Calls Tryz.prog 34 #[.string s, .int .i64 lo, .int .i64 hi] w fun e w' =>
      e = .returned (.tuple #[.int .i64 (intV s.data.toList lo hi), .int .i64 (intE s.data.toList lo hi)]) ∧ w = w' := by
  go_enter Tryz.func34, Tryz.ntmps34
  go_wp2_with (go_at_call 50; refine (rdecimal_any _ _ hs).mono ?_; rintro e w' ⟨rfl, rfl⟩)
  go_ret2
  exact ⟨ret_tup2 (by unfold intV; rw [h1]; rfl) (by unfold intE; rw [h1]; rfl), rfl⟩

set_option maxHeartbeats 800000 in
theorem rint_minus (s : ByteArray) (lo hi : Int) (l0 : -9223372036854775808 ≤ lo) (h0 : hi ≤ 9223372036854775807) (w : World) (hs : s.size ≤ maxLen) (h1 : intForm s.data.toList = true)
    (hm : minusB s.data.toList = true) :
    Calls Tryz.prog 34 #[.string s, .int .i64 lo, .int .i64 hi] w fun e w' =>
      e = .returned (.tuple #[.int .i64 (intV s.data.toList lo hi), .int .i64 (intE s.data.toList lo hi)]) ∧ w = w' := by
  have hs' := hs
  unfold maxLen at hs'
  have hp := form_pos s h1
  have f1 : ((s[0].toNat : Int) == 45) = true := by
    rw [minus_iff s hp] at hm; have := of_decide_eq_true hm; rw [this]; rfl
  have HL := Lib.hid l0
  have HH := Lib.hid h0
  have HM := Lib.hid hm
  clear l0 h0 hm
  go_enter Tryz.func34, Tryz.ntmps34
  go_wp2_with (go_at_call 50; refine (rdecimal_any _ _ hs).mono ?_; rintro e w' ⟨rfl, rfl⟩)
  have HF := Lib.hid h1
  clear h1
  go_loop [9, 10, 11] (fun n i _ => ∃ k : Nat, k ≤ s.size ∧ i = .int .i64 k ∧ ∃ v : Int, -9223372036854775808 ≤ v ∧ v ≤ 0 ∧ n = .int .i64 v ∧ Hid (v = -(soFar s.data.toList k : Int))) (fun _ i _ => s.size - (intOf i).toNat)
  case atStart => exact ⟨0, Nat.zero_le _, rfl, 0, by omega, by omega, rfl, Lib.hid (by rw [soFar_zero]; rfl)⟩
  case round =>
    obtain ⟨k, hk, rfl, v, v0, v1, rfl, hv⟩ := hrel
    by_cases hlt : k < s.size
    · by_cases hk0 : k = 0
      · subst hk0
        go_wp2
        go_round
        case rel => exact ⟨1, by omega, rfl, v, v0, v1, rfl, Lib.hid (by rw [hv.out, soFar_zero]; unfold soFar signN; rw [HM.out]; rfl)⟩
        case measure => simp [intOf]; omega
      · skip
        have hsg : signN s.data.toList ≤ k := by unfold signN; rw [HM.out]; simp; omega
        have hd := form_digit s k HF.out hp hlt hsg
        have hss := soFar_succ s k hp hlt hsg
        have HS := Lib.hid hss
        have hle := soFar_le s.data.toList (k + 1)
        rw [hss] at hle
        have HLE := Lib.hid hle
        have g1 : ((s[k].toNat : Int) == 45) = false := beq_eq_false_iff_ne.2 (by omega)
        obtain ⟨d1, d2⟩ := hd
        clear f1 hsg hss hle
        go_wp2
        · have hno := step_no v ((s[k].toNat : Int) - 48) (by omega) (by omega) (by assumption)
          have ho : outR s.data.toList lo hi = true := by
            have h1 := HL.out
            have h4 := HH.out
            have h2 := hv.out
            have h3 := HLE.out
            unfold outR; rw [intVal_of, HM.out]; simp; omega
          go_ret2
          exact ⟨ret_tup2 (by unfold intV; rw [HF.out, ho]; rfl) (by unfold intE; rw [HF.out, ho]; rfl), rfl⟩
        · obtain ⟨e1, e2, e3⟩ := step_yes v ((s[k].toNat : Int) - 48) (by omega) (by omega) v1 (by assumption)
          have E1 := Lib.hid e1
          clear e1
          go_round
          case rel => exact ⟨k + 1, by omega, by go_num, _, e2, e3, ret_i64 E1.out, Lib.hid (by have h1 := hv.out; have h2 := HS.out; rw [h2]; omega)⟩
          case measure => simp [intOf]; omega
    · obtain rfl : k = s.size := by omega
      have hv2 : v = intVal s.data.toList := by rw [hv.out, soFar_all s hp, intVal_of, HM.out]; rfl
      have HV := Lib.hid hv2
      have hO : outR s.data.toList lo hi = (decide (v < lo) || decide (hi < v)) := by rw [hv2]; rfl
      have HO := Lib.hid hO
      clear hv hv2 hO
      go_wp2
      all_goals
        go_ret2
        refine ⟨ret_tup2 ?_ ?_, rfl⟩
        · unfold intV; rw [HF.out, HO.out]
          first | rw [if_neg (by simp; omega)] | rw [if_pos (by simp; omega), ← HV.out]
        · unfold intE; rw [HF.out, HO.out, if_pos rfl]
          first | rw [if_neg (by simp; omega)] | rw [if_pos (by simp; omega)]

set_option maxHeartbeats 800000 in
theorem rint_plus (s : ByteArray) (lo hi : Int) (l0 : -9223372036854775808 ≤ lo) (h0 : hi ≤ 9223372036854775807) (w : World) (hs : s.size ≤ maxLen) (h1 : intForm s.data.toList = true)
    (hm : minusB s.data.toList = false) :
    Calls Tryz.prog 34 #[.string s, .int .i64 lo, .int .i64 hi] w fun e w' =>
      e = .returned (.tuple #[.int .i64 (intV s.data.toList lo hi), .int .i64 (intE s.data.toList lo hi)]) ∧ w = w' := by
  have hs' := hs
  unfold maxLen at hs'
  have hp := form_pos s h1
  have f1 : ((s[0].toNat : Int) == 45) = false := by
    rw [minus_iff s hp] at hm; have := of_decide_eq_false hm
    exact beq_eq_false_iff_ne.2 (fun e => this (u8_eq_of_int _ 45 (by decide) e))
  have HL := Lib.hid l0
  have HH := Lib.hid h0
  have HM := Lib.hid hm
  clear l0 h0 hm
  go_enter Tryz.func34, Tryz.ntmps34
  go_wp2_with (go_at_call 50; refine (rdecimal_any _ _ hs).mono ?_; rintro e w' ⟨rfl, rfl⟩)
  have HF := Lib.hid h1
  clear h1
  go_loop [9, 10, 11] (fun n i _ => ∃ k : Nat, k ≤ s.size ∧ i = .int .i64 k ∧ ∃ v : Int, -9223372036854775808 ≤ v ∧ v ≤ 0 ∧ n = .int .i64 v ∧ Hid (v = -(soFar s.data.toList k : Int))) (fun _ i _ => s.size - (intOf i).toNat)
  case atStart => exact ⟨0, Nat.zero_le _, rfl, 0, by omega, by omega, rfl, Lib.hid (by rw [soFar_zero]; rfl)⟩
  case round =>
    obtain ⟨k, hk, rfl, v, v0, v1, rfl, hv⟩ := hrel
    by_cases hlt : k < s.size
    · skip
      have hsg : signN s.data.toList ≤ k := by unfold signN; rw [HM.out]; simp
      have hd := form_digit s k HF.out hp hlt hsg
      have hss := soFar_succ s k hp hlt hsg
      have HS := Lib.hid hss
      have hle := soFar_le s.data.toList (k + 1)
      rw [hss] at hle
      have HLE := Lib.hid hle
      have g1 : ((s[k].toNat : Int) == 45) = false := beq_eq_false_iff_ne.2 (by omega)
      obtain ⟨d1, d2⟩ := hd
      clear f1 hsg hss hle
      go_wp2
      · have hno := step_no v ((s[k].toNat : Int) - 48) (by omega) (by omega) (by assumption)
        have ho : outR s.data.toList lo hi = true := by
          have h1 := HL.out
          have h4 := HH.out
          have h2 := hv.out
          have h3 := HLE.out
          unfold outR; rw [intVal_of, HM.out]; simp; omega
        go_ret2
        exact ⟨ret_tup2 (by unfold intV; rw [HF.out, ho]; rfl) (by unfold intE; rw [HF.out, ho]; rfl), rfl⟩
      · obtain ⟨e1, e2, e3⟩ := step_yes v ((s[k].toNat : Int) - 48) (by omega) (by omega) v1 (by assumption)
        have E1 := Lib.hid e1
        clear e1
        go_round
        case rel => exact ⟨k + 1, by omega, by go_num, _, e2, e3, ret_i64 E1.out, Lib.hid (by have h1 := hv.out; have h2 := HS.out; rw [h2]; omega)⟩
        case measure => simp [intOf]; omega
    · obtain rfl : k = s.size := by omega
      have hv2 : -v = intVal s.data.toList := by rw [hv.out, soFar_all s hp, intVal_of, HM.out]; simp
      have HV := Lib.hid hv2
      have hO : outR s.data.toList lo hi = (decide (-v < lo) || decide (hi < -v)) := by rw [hv2]; rfl
      have HO := Lib.hid hO
      clear hv hv2 hO f1
      by_cases hx : v = -9223372036854775808
      · have hx' : (v == -9223372036854775808) = true := by rw [hx]; rfl
        have HX := Lib.hid hx
        clear hx
        go_wp2
        go_ret2
        have h2 := HX.out
        have h3 := HH.out
        have ho : outR s.data.toList lo hi = true := by rw [HO.out]; simp; omega
        exact ⟨ret_tup2 (by unfold intV; rw [HF.out, ho]; rfl) (by unfold intE; rw [HF.out, ho]; rfl), rfl⟩
      · have hx' : (v == -9223372036854775808) = false := beq_eq_false_iff_ne.2 hx
        have hw : wrap64 (-v) = -v := IntWalk.wrap64_in _ (by omega)
        clear hx
        go_wp2
        all_goals
          go_ret2
          refine ⟨ret_tup2 ?_ ?_, rfl⟩
          · unfold intV; rw [HF.out, HO.out]
            first | rw [if_neg (by simp; omega)] | rw [if_pos (by simp; omega), ← HV.out]
          · unfold intE; rw [HF.out, HO.out, if_pos rfl]
            first | rw [if_neg (by simp; omega)] | rw [if_pos (by simp; omega)]

theorem rint_any (s : ByteArray) (lo hi : Int) (l0 : -9223372036854775808 ≤ lo) (h0 : hi ≤ 9223372036854775807) (w : World) (hs : s.size ≤ maxLen) :
    Calls Tryz.prog 34 #[.string s, .int .i64 lo, .int .i64 hi] w fun e w' =>
      e = .returned (.tuple #[.int .i64 (intV s.data.toList lo hi), .int .i64 (intE s.data.toList lo hi)]) ∧ w = w' := by
  by_cases h1 : intForm s.data.toList = true
  · by_cases hm : minusB s.data.toList = true
    · exact rint_minus s lo hi l0 h0 w hs h1 hm
    · exact rint_plus s lo hi l0 h0 w hs h1 (by simpa using hm)
  · exact rint_bad s lo hi w hs (by simpa using h1)
end Go.Proofs.YtihhgnjkmhdpmaaGreatDoor.W
