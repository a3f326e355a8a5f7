/- Layer 1: contracts of the reference's Name, decimal, Int and Digits. -/
import Derived.Test.YtihhgnjkmhdpmaaGreatDoorWB
import Derived.Deep.RegionWith
import Derived.Deep.DeepCutAuto
namespace Go.Proofs.YtihhgnjkmhdpmaaGreatDoor.W
open Go.RowKit
theorem rdigit_any (c : UInt8) (w : World) :
    Calls Tryz.prog 66 #[.int .u8 c.toNat] w fun e w' => e = .returned (.bool (digitB c)) ∧ w = w' := by
  go_enter Tryz.func66, Tryz.ntmps66
  go_wp2
  all_goals (go_ret; exact ⟨ret_bool (by unfold digitB; rw [Bool.eq_iff_iff]; simp; omega), rfl⟩)

def TFact (s t : ByteArray) : Prop := t.size ≤ 2 ^ 63 - 1 ∧ intForm s.data.toList = natL t.data.toList ∧ ∃ h : 0 < t.size, ¬ (t[0].toNat : Int) = 48
theorem rdecimal_minus (s : ByteArray) (w : World) (hs : s.size ≤ 2 ^ 63 - 1) (h2 : 2 ≤ s.size) (a : (s[0].toNat : Int) = 45) (b : ¬ (s[1].toNat : Int) = 48) :
    Calls Tryz.prog 50 #[.string s] w fun e w' => e = .returned (.bool (intForm s.data.toList)) ∧ w = w' := by
  have e4 : 0 < s.size := by omega
  have f3 : decide (1 < (s.size : Int)) = true := decide_eq_true (by omega)
  have f1 : ((s[0].toNat : Int) == 45) = true := by simp [a]
  have f2 : ((s[1].toNat : Int) != 48) = true := by simp [b]
  have hb0 : ¬ (((s.extract 1 s.size)[0]'(lt_ext s h2)).toNat : Int) = 48 := by
    have := ext_get s 1 0 (lt_ext s h2) (by omega)
    rw [this]; exact b
  have HT : TFact s (s.extract 1 s.size) := ⟨by rw [ext_size s 1 (by omega)]; omega, form_minus s h2 a b, lt_ext s h2, hb0⟩
  clear a b hb0
  go_enter Tryz.func50, Tryz.ntmps50
  go_upto_if 16 with fail
  go_cut [0] (fun v wx => ∃ t : ByteArray, v = .string t ∧ TFact s t ∧ w = wx)
  case first =>
    go_wp2_with fail
    go_meet
    exact ⟨_, rfl, HT, rfl⟩
  case rest =>
    obtain ⟨t, rfl, ⟨t1, t2, t3, t4⟩, rfl⟩ := hcut
    have HF := Lib.hid t2
    have HB := Lib.hid t4
    have g1 : ((t[0].toNat : Int) == 48) = false := beq_eq_false_iff_ne.2 t4
    have g2 : ((t.size : Int) == 0) = false := beq_eq_false_iff_ne.2 (by omega)
    clear f1 f2 f3 HT t2 t4
    go_wp2
    all_goals
      have H2 := Lib.hid (natL_all t (t3) (Or.inr HB.out))
      go_loop [3] (fun i => ∃ k : Nat, k ≤ t.size ∧ i = .int .i64 k ∧ Hid (((t).data.toList.take k).all digitB = true)) (fun i => t.size - (intOf i).toNat)
      case atStart => exact ⟨0, Nat.zero_le _, rfl, Lib.hid rfl⟩
      case round =>
        obtain ⟨k, hk, rfl, hd⟩ := hrel
        by_cases hlt : k < t.size
        · have hltt : k < (t).size := by exact hlt
          by_cases hb : digitB ((t)[k]) = true
          · go_wp2_with (go_at_call 66; refine (rdigit_any _ _).mono ?_; rintro e w' ⟨rfl, rfl⟩)
            go_round
            case rel => exact ⟨k + 1, by omega, by go_num, Lib.hid (by rw [all_take_succ digitB _ k hltt, hd.out, hb]; rfl)⟩
            case measure => simp [intOf]; omega
          · have hb' : digitB ((t)[k]) = false := by simpa using hb
            go_wp2_with (go_at_call 66; refine (rdigit_any _ _).mono ?_; rintro e w' ⟨rfl, rfl⟩)
            go_ret
            exact ⟨ret_bool (by rw [HF.out, H2.out, all_get digitB _ k hltt hb']), rfl⟩
        · obtain rfl : k = t.size := by omega
          go_wp2
          go_ret
          exact ⟨ret_bool (by rw [HF.out, H2.out, ← hd.out, take_size]), rfl⟩

theorem rdecimal_any (s : ByteArray) (w : World) (hs : s.size ≤ maxLen) :
    Calls Tryz.prog 50 #[.string s] w fun e w' => e = .returned (.bool (intForm s.data.toList)) ∧ w = w' := by
  unfold maxLen at hs
  by_cases h0 : s.size = 0
  · have HN := Lib.hid (eq_nil_zero s h0)
    go_enter Tryz.func50, Tryz.ntmps50
    go_wp2
    all_goals (go_ret; exact ⟨ret_bool (by rw [HN.out]; rfl), rfl⟩)
  by_cases h1 : s.size = 1
  · have HF := Lib.hid (form_one s h1)
    have e1 : (decide (1 < (s.size : Int))) = false := decide_eq_false (by omega)
    have e2 : ((s.size : Int) == 0) = false := beq_eq_false_iff_ne.2 (by omega)
    have e3 : s.size ≤ 1 := by omega
    have e4 : 0 < s.size := by omega
    clear h0 h1
    go_enter Tryz.func50, Tryz.ntmps50
    go_wp2
    have H2 := Lib.hid (natL_all s (e4) (Or.inl (by omega)))
    go_loop [3] (fun i => ∃ k : Nat, k ≤ s.size ∧ i = .int .i64 k ∧ Hid (((s).data.toList.take k).all digitB = true)) (fun i => s.size - (intOf i).toNat)
    case atStart => exact ⟨0, Nat.zero_le _, rfl, Lib.hid rfl⟩
    case round =>
      obtain ⟨k, hk, rfl, hd⟩ := hrel
      by_cases hlt : k < s.size
      · have hltt : k < (s).size := by exact hlt
        by_cases hb : digitB ((s)[k]) = true
        · go_wp2_with (go_at_call 66; refine (rdigit_any _ _).mono ?_; rintro e w' ⟨rfl, rfl⟩)
          go_round
          case rel => exact ⟨k + 1, by omega, by go_num, Lib.hid (by rw [all_take_succ digitB _ k hltt, hd.out, hb]; rfl)⟩
          case measure => simp [intOf]; omega
        · have hb' : digitB ((s)[k]) = false := by simpa using hb
          go_wp2_with (go_at_call 66; refine (rdigit_any _ _).mono ?_; rintro e w' ⟨rfl, rfl⟩)
          go_ret
          exact ⟨ret_bool (by rw [HF.out, H2.out, all_get digitB _ k hltt hb']), rfl⟩
      · obtain rfl : k = s.size := by omega
        go_wp2
        go_ret
        exact ⟨ret_bool (by rw [HF.out, H2.out, ← hd.out, take_size]), rfl⟩
  have h2 : 2 ≤ s.size := by omega
  clear h0 h1
  have e4 : 0 < s.size := by omega
  have f3 : decide (1 < (s.size : Int)) = true := decide_eq_true (by omega)
  have f4 : ((s.size : Int) == 0) = false := beq_eq_false_iff_ne.2 (by omega)
  by_cases a : (s[0].toNat : Int) = 45
  · have f1 : ((s[0].toNat : Int) == 45) = true := by simp [a]
    have f5 : ((s[0].toNat : Int) == 48) = false := by rw [a]; rfl
    by_cases b : (s[1].toNat : Int) = 48
    · have f2 : ((s[1].toNat : Int) != 48) = false := by simp [b]
      have HF := Lib.hid (form_minus0 s h2 a b)
      have hd : digitB s[0] = false := by
        have : s[0] = 45 := u8_eq_of_int s[0] 45 (by decide) a
        rw [this]; rfl
      clear a b
      go_enter Tryz.func50, Tryz.ntmps50
      go_wp2
      go_loop [3] (fun i => i = .int .i64 ((0 : Nat) : Int)) (fun _ => 1)
      case atStart => rfl
      case round =>
        obtain rfl := hrel
        go_wp2_with (go_at_call 66; refine (rdigit_any _ _).mono ?_; rintro e w' ⟨rfl, rfl⟩)
        go_ret
        exact ⟨ret_bool (by rw [HF.out]), rfl⟩
    · exact rdecimal_minus s w hs h2 a b
  · have f1 : ((s[0].toNat : Int) == 45) = false := by simp [a]
    have HF := Lib.hid (form_plain s h2 a)
    clear a
    by_cases b : (s[0].toNat : Int) = 48
    · have hN := Lib.hid (natL_lead s e4 b (by omega))
      have f5 : ((s[0].toNat : Int) == 48) = true := by simp [b]
      clear b
      go_enter Tryz.func50, Tryz.ntmps50
      go_wp2
      go_ret
      exact ⟨ret_bool (by rw [HF.out, hN.out]), rfl⟩
    · have f5 : ((s[0].toNat : Int) == 48) = false := by simp [b]
      go_enter Tryz.func50, Tryz.ntmps50
      go_wp2
      have H2 := Lib.hid (natL_all s (e4) (Or.inr b))
      go_loop [3] (fun i => ∃ k : Nat, k ≤ s.size ∧ i = .int .i64 k ∧ Hid (((s).data.toList.take k).all digitB = true)) (fun i => s.size - (intOf i).toNat)
      case atStart => exact ⟨0, Nat.zero_le _, rfl, Lib.hid rfl⟩
      case round =>
        obtain ⟨k, hk, rfl, hd⟩ := hrel
        by_cases hlt : k < s.size
        · have hltt : k < (s).size := by exact hlt
          by_cases hb : digitB ((s)[k]) = true
          · go_wp2_with (go_at_call 66; refine (rdigit_any _ _).mono ?_; rintro e w' ⟨rfl, rfl⟩)
            go_round
            case rel => exact ⟨k + 1, by omega, by go_num, Lib.hid (by rw [all_take_succ digitB _ k hltt, hd.out, hb]; rfl)⟩
            case measure => simp [intOf]; omega
          · have hb' : digitB ((s)[k]) = false := by simpa using hb
            go_wp2_with (go_at_call 66; refine (rdigit_any _ _).mono ?_; rintro e w' ⟨rfl, rfl⟩)
            go_ret
            exact ⟨ret_bool (by rw [HF.out, H2.out, all_get digitB _ k hltt hb']), rfl⟩
        · obtain rfl : k = s.size := by omega
          go_wp2
          go_ret
          exact ⟨ret_bool (by rw [HF.out, H2.out, ← hd.out, take_size]), rfl⟩
end Go.Proofs.YtihhgnjkmhdpmaaGreatDoor.W
