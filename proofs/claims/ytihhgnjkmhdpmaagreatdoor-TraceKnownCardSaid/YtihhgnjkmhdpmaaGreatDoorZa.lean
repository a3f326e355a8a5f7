/- kindOf, joins, the reference's word. -/
import Derived.Test.YtihhgnjkmhdpmaaGreatDoorPc
import Derived.Test.YtihhgnjkmhdpmaaGreatDoorN
namespace Go.Proofs.YtihhgnjkmhdpmaaGreatDoor
open Go.RowKit
/-- What kindOf returns. -/
def kdP (s : List UInt8) : Int × Bool := if s = [108, 111, 97, 100] then (1, true) else if s = [115, 116, 111, 114, 101] then (2, true) else (0, false)
theorem ret_kd {r : Int × Bool} {a : Int} {b : Bool} (h : r = (a, b)) : Ending.returned (.tuple #[.int .i64 a, .bool b]) = .returned (.tuple #[.int .i64 r.1, .bool r.2]) := by rw [h]
theorem beq_mk (s : ByteArray) (l : List UInt8) (h : s.data.toList = l) : (s.toList == l) = true := by
  rw [beq_iff_eq, ← h]; exact Lib.toList_data s
theorem bne_mk (s : ByteArray) (l : List UInt8) (h : ¬ s.data.toList = l) : (s.toList == l) = false := by
  rw [beq_eq_false_iff_ne]; intro e; exact h (by rw [← e]; exact (Lib.toList_data s).symm)
theorem kindOf_any (s : ByteArray) (w : World) : Calls Tryz.prog 48 #[.string s] w fun e w' => e = .returned (.tuple #[.int .i64 (kdP s.data.toList).1, .bool (kdP s.data.toList).2]) ∧ w = w' := by
  by_cases h1 : s.data.toList = [108, 111, 97, 100]
  · have t1 : (s.toList == [108, 111, 97, 100]) = true := beq_mk s _ h1
    have R := Lib.hid (show kdP s.data.toList = (1, true) by unfold kdP; rw [if_pos h1])
    clear h1
    go_enter Tryz.func48, Tryz.ntmps48
    go_wp2
    go_ret2
    exact ⟨ret_kd R.out, rfl⟩
  · have t1 : (s.toList == [108, 111, 97, 100]) = false := bne_mk s _ h1
    by_cases h2 : s.data.toList = [115, 116, 111, 114, 101]
    · have t2 : (s.toList == [115, 116, 111, 114, 101]) = true := beq_mk s _ h2
      have R := Lib.hid (show kdP s.data.toList = (2, true) by unfold kdP; rw [if_neg h1, if_pos h2])
      clear h1 h2
      go_enter Tryz.func48, Tryz.ntmps48
      go_wp2
      go_ret2
      exact ⟨ret_kd R.out, rfl⟩
    · have t2 : (s.toList == [115, 116, 111, 114, 101]) = false := bne_mk s _ h2
      have R := Lib.hid (show kdP s.data.toList = (0, false) by unfold kdP; rw [if_neg h1, if_neg h2])
      clear h1 h2
      go_enter Tryz.func48, Tryz.ntmps48
      go_wp2
      go_ret2
      exact ⟨ret_kd R.out, rfl⟩
theorem word_any (k : Int) (w : World) : Calls Tryz.prog 25 #[.int .i32 k] w fun e w' => e = .returned (.string ⟨(if k = 1 then [108, 111, 97, 100] else [115, 116, 111, 114, 101] : List UInt8).toArray⟩) ∧ w = w' := by
  by_cases h1 : k = 1
  · have t1 : (k == 1) = true := by simp [h1]
    rw [if_pos h1]
    clear h1
    go_enter Tryz.func25, Tryz.ntmps25
    go_wp2
    go_ret
    exact ⟨rfl, rfl⟩
  · have t1 : (k == 1) = false := by simpa using h1
    rw [if_neg h1]
    clear h1
    go_enter Tryz.func25, Tryz.ntmps25
    go_wp2
    go_ret
    exact ⟨rfl, rfl⟩
/-- Does a run go on where the one before it ends? -/
def joinB (r b : Run) : Bool := (r.k == b.k) && (r.a == b.a + b.n)
set_option maxRecDepth 100000 in
theorem joins_any (r b : Run) (w : World) (hb1 : -1000000000 ≤ b.a ∧ b.a ≤ 1000000000) (hb2 : b.n ≤ 1000000000) : Calls Tryz.prog 30 #[runV r, runV b] w fun e w' => e = .returned (.bool (joinB r b)) ∧ Below w.heap.size w w' := by
  obtain ⟨k, a, n⟩ := r
  obtain ⟨k', a', n'⟩ := b
  simp only at hb1 hb2
  unfold runV joinB
  simp only
  have hw : IntKind.i64.wrap (a' + (n' : Int)) = a' + (n' : Int) := IntWalk.i64_in _ (by omega)
  have B1 := Lib.hid (((Below.refl w.heap.size w).alloc (Nat.le_refl _) (.cells #[.int .i64 k, .int .i64 a, .int .i64 (n : Int)] 56)).alloc (by simp) (.cells #[.int .i64 k', .int .i64 a', .int .i64 (n' : Int)] 56))
  clear hb1 hb2
  by_cases h1 : k = k'
  · have t1 : (k == k') = true := by simp [h1]
    clear h1
    go_enter Tryz.func30, Tryz.ntmps30
    go_wp2
    go_ret
    exact ⟨ret_bool (by simp [t1]), B1.out⟩
  · have t1 : (k == k') = false := by simpa using h1
    clear h1
    go_enter Tryz.func30, Tryz.ntmps30
    go_wp2
    go_ret
    exact ⟨ret_bool (by simp [t1]), B1.out⟩
end Go.Proofs.YtihhgnjkmhdpmaaGreatDoor
