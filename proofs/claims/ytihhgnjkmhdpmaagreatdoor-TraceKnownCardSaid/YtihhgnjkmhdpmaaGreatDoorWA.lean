/- Layer 1: contracts of the small predicates and of Name. -/
import Derived.Test.YtihhgnjkmhdpmaaGreatDoorRows
import Derived.Test.YtihhgnjkmhdpmaaGreatDoorWPlain
import Derived.WalkKit
import Derived.WalkSpells
import Derived.WalkLawsBesides
import Derived.Lib.Hide
import Derived.Outline
namespace Go.Proofs.YtihhgnjkmhdpmaaGreatDoor.W
open Go.RowKit
theorem ret_bool {a b : Bool} (h : a = b) : Ending.returned (.bool a) = .returned (.bool b) := by rw [h]

theorem digit_any (c : UInt8) (w : World) :
    Calls Tryz.prog 98 #[.int .u8 c.toNat] w fun e w' => e = .returned (.bool (digitB c)) ∧ w = w' := by
  go_enter Tryz.func98, Tryz.ntmps98
  go_wp2
  all_goals (go_ret; exact ⟨ret_bool (by unfold digitB; rw [Bool.eq_iff_iff]; simp; omega), rfl⟩)

theorem natural_any (s : ByteArray) (w : World) (hs : s.size ≤ maxLen) :
    Calls Tryz.prog 77 #[.string s] w fun e w' => e = .returned (.bool (natL s.data.toList)) ∧ w = w' := by
  unfold maxLen at hs
  by_cases h0 : s.size = 0
  · have hN := toList_nil s h0
    go_enter Tryz.func77, Tryz.ntmps77
    go_wp2
    all_goals (go_ret; exact ⟨ret_bool (by rw [natL_nil s h0]), rfl⟩)
  · have h0' : 0 < s.size := by omega
    have hE := isEmpty_pos s h0'
    have hN := ne_nil_pos s h0'
    go_enter Tryz.func77, Tryz.ntmps77
    go_wp2
    · go_ret
      exact ⟨ret_bool (by rw [natL_lead s h0' (by assumption) (by assumption)]), rfl⟩
    all_goals
      have H1 : natL s.data.toList = s.data.toList.all digitB := by
        apply natL_all s h0'
        first | exact Or.inl (by assumption) | exact Or.inr (by assumption)
      have H2 := Lib.hid H1
      clear H1
      go_loop [18] (fun i => ∃ k : Nat, k ≤ s.size ∧ i = .int .i64 k ∧ Hid ((s.data.toList.take k).all digitB = true)) (fun i => s.size - (intOf i).toNat)
      case atStart => exact ⟨0, Nat.zero_le _, rfl, Lib.hid rfl⟩
      case round =>
        obtain ⟨k, hk, rfl, hd⟩ := hrel
        by_cases hlt : k < s.size
        · by_cases hb : digitB s[k] = true
          · go_wp2_with (go_at_call 98; refine (digit_any _ _).mono ?_; rintro e w' ⟨rfl, rfl⟩)
            go_round
            case rel => exact ⟨k + 1, by omega, by go_num, Lib.hid (by rw [all_take_succ digitB s k hlt, hd.out, hb]; rfl)⟩
            case measure => simp [intOf]; omega
          · have hb' : digitB s[k] = false := by simpa using hb
            go_wp2_with (go_at_call 98; refine (digit_any _ _).mono ?_; rintro e w' ⟨rfl, rfl⟩)
            go_ret
            exact ⟨ret_bool (by rw [H2.out, all_get digitB s k hlt hb']), rfl⟩
        · obtain rfl : k = s.size := by omega
          go_wp2
          go_ret
          exact ⟨ret_bool (by rw [H2.out, ← hd.out, take_size s]), rfl⟩

end Go.Proofs.YtihhgnjkmhdpmaaGreatDoor.W
