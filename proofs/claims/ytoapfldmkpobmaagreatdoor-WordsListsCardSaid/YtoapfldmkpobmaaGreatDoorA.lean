/- Layer 1: contracts of the small predicates and of Name. -/
import Derived.Test.YtoapfldmkpobmaaGreatDoorRows
import Derived.Test.YtoapfldmkpobmaaGreatDoorPlain
import Derived.WalkKit
import Derived.WalkSpells
import Derived.WalkLawsBesides
import Derived.Lib.Hide
import Derived.Outline
namespace Go.Proofs.YtoapfldmkpobmaaGreatDoor
open Go.RowKit
theorem ret_bool {a b : Bool} (h : a = b) : Ending.returned (.bool a) = .returned (.bool b) := by rw [h]

theorem small_any (c : UInt8) (w : World) :
    Calls Tryz.prog 29 #[.int .u8 c.toNat] w fun e w' => e = .returned (.bool (smallB c)) ∧ w = w' := by
  go_enter Tryz.func29, Tryz.ntmps29
  go_wp2
  all_goals (go_ret; exact ⟨ret_bool (by unfold smallB; rw [Bool.eq_iff_iff]; simp; omega), rfl⟩)
theorem digit_any (c : UInt8) (w : World) :
    Calls Tryz.prog 30 #[.int .u8 c.toNat] w fun e w' => e = .returned (.bool (digitB c)) ∧ w = w' := by
  go_enter Tryz.func30, Tryz.ntmps30
  go_wp2
  all_goals (go_ret; exact ⟨ret_bool (by unfold digitB; rw [Bool.eq_iff_iff]; simp; omega), rfl⟩)

theorem natural_any (s : ByteArray) (w : World) (hs : s.size ≤ maxLen) :
    Calls Tryz.prog 44 #[.string s] w fun e w' => e = .returned (.bool (natL s.data.toList)) ∧ w = w' := by
  unfold maxLen at hs
  by_cases h0 : s.size = 0
  · have hN := toList_nil s h0
    go_enter Tryz.func44, Tryz.ntmps44
    go_wp2
    all_goals (go_ret; exact ⟨ret_bool (by rw [natL_nil s h0]), rfl⟩)
  · have h0' : 0 < s.size := by omega
    have hE := isEmpty_pos s h0'
    have hN := ne_nil_pos s h0'
    go_enter Tryz.func44, Tryz.ntmps44
    go_wp2
    · go_ret
      exact ⟨ret_bool (by rw [natL_lead s h0' (by assumption) (by assumption)]), rfl⟩
    all_goals
      have H1 : natL s.data.toList = s.data.toList.all digitB := by
        apply natL_all s h0'
        first | exact Or.inl (by assumption) | exact Or.inr (by assumption)
      have H2 := Lib.hid H1
      clear H1
      go_loop [18] (fun i => ∃ k : Nat, k ≤ s.size ∧ i = .int .i64 k ∧ Hid ((s.data.toList.take k).all digitB = true)) (fun i => s.size - (intOf i).toNat)
      case atStart => exact ⟨0, Nat.zero_le _, rfl, Lib.hid rfl⟩
      case round =>
        obtain ⟨k, hk, rfl, hd⟩ := hrel
        by_cases hlt : k < s.size
        · by_cases hb : digitB s[k] = true
          · go_wp2_with (go_at_call 30; refine (digit_any _ _).mono ?_; rintro e w' ⟨rfl, rfl⟩)
            go_round
            case rel => exact ⟨k + 1, by omega, by go_num, Lib.hid (by rw [all_take_succ digitB s k hlt, hd.out, hb]; rfl)⟩
            case measure => simp [intOf]; omega
          · have hb' : digitB s[k] = false := by simpa using hb
            go_wp2_with (go_at_call 30; refine (digit_any _ _).mono ?_; rintro e w' ⟨rfl, rfl⟩)
            go_ret
            exact ⟨ret_bool (by rw [H2.out, all_get digitB s k hlt hb']), rfl⟩
        · obtain rfl : k = s.size := by omega
          go_wp2
          go_ret
          exact ⟨ret_bool (by rw [H2.out, ← hd.out, take_size s]), rfl⟩

theorem name_any (s : ByteArray) (w : World) (hs : s.size ≤ maxLen) :
    Calls Tryz.prog 14 #[.string s] w fun e w' => e = .returned (.bool (nameL s.data.toList)) ∧ w = w' := by
  unfold maxLen at hs
  by_cases h0 : s.size = 0
  · have hN := toList_nil s h0
    go_enter Tryz.func14, Tryz.ntmps14
    go_wp2
    all_goals (go_ret; exact ⟨ret_bool (by rw [nameL_nil s h0]), rfl⟩)
  have h0' : 0 < s.size := by omega
  have hE := isEmpty_pos s h0'
  have hN := ne_nil_pos s h0'
  by_cases h1 : 16 < s.size
  · go_enter Tryz.func14, Tryz.ntmps14
    go_wp2
    all_goals (go_ret; exact ⟨ret_bool (by rw [nameL_long s h1]), rfl⟩)
  by_cases hb : smallB s[0] = true
  · go_enter Tryz.func14, Tryz.ntmps14
    go_wp2_with (go_at_call 29; refine (small_any _ _).mono ?_; rintro e w' ⟨rfl, rfl⟩)
    have H2 := Lib.hid (nameL_all s h0' (by omega) hb)
    clear hb
    go_loop [19] (fun i => ∃ k : Nat, k ≤ s.size ∧ i = .int .i64 k ∧ Hid ((s.data.toList.take k).all nameCh = true)) (fun i => s.size - (intOf i).toNat)
    case atStart => exact ⟨0, Nat.zero_le _, rfl, Lib.hid rfl⟩
    case round =>
      obtain ⟨k, hk, rfl, hd⟩ := hrel
      by_cases hlt : k < s.size
      · by_cases ha : smallB s[k] = true
        · go_wp2_with (go_at_call 29; refine (small_any _ _).mono ?_; rintro e w' ⟨rfl, rfl⟩)
          go_round
          case rel => exact ⟨k + 1, by omega, by go_num, Lib.hid (by rw [all_take_succ nameCh s k hlt, hd.out]; simp [nameCh, ha])⟩
          case measure => simp [intOf]; omega
        have ha' : smallB s[k] = false := by simpa using ha
        by_cases hb : digitB s[k] = true
        · go_wp2_with (first | (go_at_call 29; refine (small_any _ _).mono ?_; rintro e w' ⟨rfl, rfl⟩) | (go_at_call 30; refine (digit_any _ _).mono ?_; rintro e w' ⟨rfl, rfl⟩))
          go_round
          case rel => exact ⟨k + 1, by omega, by go_num, Lib.hid (by rw [all_take_succ nameCh s k hlt, hd.out]; simp [nameCh, hb])⟩
          case measure => simp [intOf]; omega
        have hb' : digitB s[k] = false := by simpa using hb
        by_cases hc : (s[k].toNat : Int) = 45
        · have hc' : ((s[k].toNat : Int) != 45) = false := by simp [hc]
          have HC := Lib.hid hc
          clear hc
          go_wp2_with (first | (go_at_call 29; refine (small_any _ _).mono ?_; rintro e w' ⟨rfl, rfl⟩) | (go_at_call 30; refine (digit_any _ _).mono ?_; rintro e w' ⟨rfl, rfl⟩))
          go_round
          case rel => exact ⟨k + 1, by omega, by go_num, Lib.hid (by rw [all_take_succ nameCh s k hlt, hd.out]; simp [nameCh, u8_eq_of_int _ 45 (by decide) HC.out])⟩
          case measure => simp [intOf]; omega
        · go_wp2_with (first | (go_at_call 29; refine (small_any _ _).mono ?_; rintro e w' ⟨rfl, rfl⟩) | (go_at_call 30; refine (digit_any _ _).mono ?_; rintro e w' ⟨rfl, rfl⟩))
          go_ret
          have hx : ¬ s[k] = 45 := by intro e; rw [e] at hc; exact hc rfl
          exact ⟨ret_bool (by rw [H2.out, all_get nameCh s k hlt (by simp [nameCh, ha', hb', hx])]), rfl⟩
      · obtain rfl : k = s.size := by omega
        go_wp2
        go_ret
        exact ⟨ret_bool (by rw [H2.out, ← hd.out, take_size s]), rfl⟩
  · have hb' : smallB s[0] = false := by simpa using hb
    go_enter Tryz.func14, Tryz.ntmps14
    go_wp2_with (go_at_call 29; refine (small_any _ _).mono ?_; rintro e w' ⟨rfl, rfl⟩)
    go_ret
    exact ⟨ret_bool (by rw [nameL_first s h0' hb']), rfl⟩
end Go.Proofs.YtoapfldmkpobmaaGreatDoor
