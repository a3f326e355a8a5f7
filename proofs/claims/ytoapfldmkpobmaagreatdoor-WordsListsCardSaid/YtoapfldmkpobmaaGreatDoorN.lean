/- Layer 1: bare fields; Clone; what the fields of a line are. -/
import Derived.Test.YtoapfldmkpobmaaGreatDoorK
import Derived.Test.YtoapfldmkpobmaaGreatDoorRange
namespace Go.Proofs.YtoapfldmkpobmaaGreatDoor
open Go.RowKit
theorem ret_int {k : IntKind} {a b : Int} (h : a = b) : Ending.returned (.int k a) = .returned (.int k b) := by rw [h]
def bareB (c : UInt8) : Bool := plainB c && decide (c ≠ 32)
theorem bare_any (c : UInt8) (w : World) : Calls Tryz.prog 53 #[.int .u8 c.toNat] w fun e w' => e = .returned (.bool (bareB c)) ∧ w = w' := by
  by_cases hp : plainB c = true
  · by_cases h : c = 32
    · have f : ((c.toNat : Int) != 32) = false := by rw [h]; rfl
      have H := Lib.hid h
      clear h
      go_enter Tryz.func53, Tryz.ntmps53
      go_wp2_with (go_at_call 61; refine (plain_any _ _).mono ?_; rintro e w' ⟨rfl, rfl⟩)
      go_ret
      exact ⟨ret_bool (by unfold bareB; rw [H.out]; decide), rfl⟩
    · have f : ((c.toNat : Int) != 32) = true := by rw [bne_iff_ne]; intro e; exact h (u8_eq_of_int _ 32 (by decide) e)
      have H := Lib.hid h
      clear h
      go_enter Tryz.func53, Tryz.ntmps53
      go_wp2_with (go_at_call 61; refine (plain_any _ _).mono ?_; rintro e w' ⟨rfl, rfl⟩)
      go_ret
      exact ⟨ret_bool (by unfold bareB; rw [hp]; simp [H.out]), rfl⟩
  · have hp : plainB c = false := by simpa using hp
    go_enter Tryz.func53, Tryz.ntmps53
    go_wp2_with (go_at_call 61; refine (plain_any _ _).mono ?_; rintro e w' ⟨rfl, rfl⟩)
    go_ret
    exact ⟨ret_bool (by unfold bareB; rw [hp]; rfl), rfl⟩
def bareN (l : List UInt8) : Nat := (l.takeWhile bareB).length
theorem bareN_le (l : List UInt8) : bareN l ≤ l.length := by unfold bareN; exact (List.takeWhile_prefix bareB).length_le
theorem bareN_of (s : ByteArray) (k : Nat) (hk : k ≤ s.size) (h1 : (s.data.toList.take k).all bareB = true) (h2 : ∀ h : k < s.size, bareB s[k] = false) : bareN s.data.toList = k := by
  have e := List.take_append_drop k s.data.toList
  have hl : (s.data.toList.take k).length = k := by rw [List.length_take, length_data]; omega
  unfold bareN
  rw [← e, List.takeWhile_append_of_pos (by simpa using h1), List.length_append, hl]
  rcases Nat.lt_or_ge k s.size with hlt | hge
  · rw [data_drop s k hlt, List.takeWhile_cons, h2 hlt]; simp
  · rw [List.drop_of_length_le (by rw [length_data]; omega)]; simp
theorem barePrefix_any (s : ByteArray) (w : World) (hs : s.size ≤ 100000000000) : Calls Tryz.prog 41 #[.string s] w fun e w' => e = .returned (.int .i64 (bareN s.data.toList)) ∧ w = w' := by
  go_enter Tryz.func41, Tryz.ntmps41
  go_wp2_with fail
  go_loop [3] (fun i => ∃ k : Nat, k ≤ s.size ∧ i = .int .i64 k ∧ Hid ((s.data.toList.take k).all bareB = true)) (fun i => s.size - (intOf i).toNat)
  case atStart => exact ⟨0, Nat.zero_le _, rfl, Lib.hid rfl⟩
  case round =>
    obtain ⟨k, hk, rfl, hd⟩ := hrel
    by_cases hlt : k < s.size
    · by_cases hb : bareB s[k] = true
      · go_wp2_with (go_at_call 53; refine (bare_any _ _).mono ?_; rintro e w' ⟨rfl, rfl⟩)
        go_round
        case rel => exact ⟨k + 1, by omega, by go_num, Lib.hid (by rw [all_take_succ bareB s k hlt, hd.out, hb]; rfl)⟩
        case measure => simp [intOf]; omega
      · have hb : bareB s[k] = false := by simpa using hb
        have hr := Lib.hid (bareN_of s k hk hd.out (fun _ => hb))
        go_wp2_with (go_at_call 53; refine (bare_any _ _).mono ?_; rintro e w' ⟨rfl, rfl⟩)
        go_ret
        exact ⟨ret_int (by rw [hr.out]), rfl⟩
    · obtain rfl : k = s.size := by omega
      have hr := Lib.hid (bareN_of s s.size hk hd.out (fun h => absurd h (by omega)))
      go_wp2_with (go_at_call 53; refine (bare_any _ _).mono ?_; rintro e w' ⟨rfl, rfl⟩)
      go_ret
      exact ⟨ret_int (by rw [hr.out]), rfl⟩
theorem clone_any (s : ByteArray) (w : World) (hs : s.size ≤ 100000000000) : Calls Tryz.prog 42 #[.string s] w fun e w' => e = .returned (.string s) ∧ Below w.heap.size w w' := by
  have hc := Lib.hid (Tryz.stringslite_Clone s w (by omega))
  go_enter Tryz.func42, Tryz.ntmps42
  go_wp2_with (go_at_call 54; refine hc.out.mono ?_; rintro e w2 ⟨rfl, hb⟩)
  go_ret
  exact ⟨rfl, hb⟩

/-- What the iterator yields: a field's string, whether it is quoted, and true; at a fault nothing, and false. -/
structure Item where
  s : List UInt8
  q : Bool
  ok : Bool
def encI (x : Item) : Array Value := #[.agg #[.string ⟨x.s.toArray⟩, .bool x.q], .bool x.ok]
def fStr (l : List UInt8) : List UInt8 := if l.head? = some 34 then qT l else l.take (bareN l)
def fQuo (l : List UInt8) : Bool := decide (l.head? = some 34)
def fLen (l : List UInt8) : Nat := if l.head? = some 34 then qN l else bareN l
def fBad (l : List UInt8) : Bool := decide (fLen l = 0) || (decide (fLen l < l.length) && decide (l.getD (fLen l) 0 ≠ 32))
def fSeq : Nat → List UInt8 → List Item
  | 0, _ => []
  | f + 1, l => if fBad l then [⟨[], false, false⟩] else ⟨fStr l, fQuo l, true⟩ :: (if fLen l = l.length then [] else fSeq f (l.drop (fLen l + 1)))
def fAll (l : List UInt8) : List Item := if l = [] then [] else fSeq (l.length + 1) l
theorem fLen_le (l : List UInt8) : fLen l ≤ l.length := by unfold fLen; split; exact qN_le l; exact bareN_le l
theorem fieldsOf_any (s : ByteArray) (w : World) : Calls Tryz.prog 25 #[.string s] w fun e w' =>
    e = .returned (.func (.func 40) #[] #[.pointer (some ⟨w.heap.size, 0, none⟩)]) ∧ w.alloc (.cells #[.string s] 9) = w' := by
  have hmf : ∀ (fn : Fn) (first cap : Array Value) (w : World), (Instr.makeFunc fn first cap).run Tryz.prog w = .ok (.func fn first cap) w := fun _ _ _ _ => rfl
  go_enter Tryz.func25, Tryz.ntmps25
  go_wp2
  go_ret
  exact ⟨rfl, rfl⟩
end Go.Proofs.YtoapfldmkpobmaaGreatDoor
