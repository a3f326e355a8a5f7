/- Names, plain. No program. -/
import Derived.Lib.Strings
import Derived.Lib.Hide
namespace Go.Proofs.Ytalnhbjpfnodiaa
def smallB (c : UInt8) : Bool := decide (97 ≤ (c.toNat : Int)) && decide ((c.toNat : Int) ≤ 122)
def digitB (c : UInt8) : Bool := decide (48 ≤ (c.toNat : Int)) && decide ((c.toNat : Int) ≤ 57)
def nameCh (c : UInt8) : Bool := smallB c || digitB c || c == 45
def nameL (l : List UInt8) : Bool := decide (1 ≤ l.length) && decide (l.length ≤ 16) && smallB (l.getD 0 0) && l.all nameCh
def natL (l : List UInt8) : Bool := decide (1 ≤ l.length) && !(decide (l.getD 0 0 = 48) && decide (1 < l.length)) && l.all digitB

theorem all_take_succ (p : UInt8 → Bool) (s : ByteArray) (k : Nat) (h : k < s.size) :
    (s.data.toList.take (k + 1)).all p = ((s.data.toList.take k).all p && p s[k]) := by
  have : s.data.toList.take (k + 1) = s.data.toList.take k ++ [s[k]] := by
    rw [List.take_succ_eq_append_getElem (by simpa using h)]; rfl
  rw [this]; simp
theorem all_get (p : UInt8 → Bool) (s : ByteArray) (k : Nat) (h : k < s.size) (hp : p s[k] = false) : s.data.toList.all p = false := by
  rw [List.all_eq_false]
  exact ⟨s[k], by simp [List.mem_iff_getElem]; exact ⟨k, by simpa using h, rfl⟩, by simp [hp]⟩
theorem take_size (s : ByteArray) : s.data.toList.take s.size = s.data.toList := List.take_of_length_le (by simp)
theorem getD_zero (s : ByteArray) (h : 0 < s.size) : s.data.toList.getD 0 0 = s[0] := by
  have h' : 0 < s.data.toList.length := by simpa using h
  rw [List.getD_eq_getElem?_getD, List.getElem?_eq_getElem h']; rfl
theorem length_data (s : ByteArray) : s.data.toList.length = s.size := by simp
theorem toList_data (s : ByteArray) : s.toList = s.data.toList := Lib.toList_data s
theorem isEmpty_pos (s : ByteArray) (h : 0 < s.size) : s.toList.isEmpty = false := by
  rw [toList_data]
  cases e : s.data.toList with
  | nil => have : s.data.toList.length = 0 := by rw [e]; rfl
           rw [length_data] at this; omega
  | cons a l => rfl
theorem ne_nil_pos (s : ByteArray) (h : 0 < s.size) : ¬ s.toList = [] := by
  have := isEmpty_pos s h
  intro e; rw [e] at this; cases this
theorem eq_nil_zero (s : ByteArray) (h : s.size = 0) : s.data.toList = [] := by
  apply List.eq_nil_of_length_eq_zero; rw [length_data]; exact h
theorem toList_nil (s : ByteArray) (h : s.size = 0) : s.toList = [] := by rw [toList_data, eq_nil_zero s h]
theorem natL_nil (s : ByteArray) (h : s.size = 0) : natL s.data.toList = false := by rw [eq_nil_zero s h]; rfl
theorem u8_eq_of_int (c : UInt8) (n : Nat) (hn : n < 256) (h : (c.toNat : Int) = n) : c = UInt8.ofNat n := by
  apply UInt8.toNat_inj.1; simp; omega
theorem natL_lead (s : ByteArray) (h : 0 < s.size) (h1 : (s[0].toNat : Int) = 48) (h2 : 1 < (s.size : Int)) : natL s.data.toList = false := by
  have e := u8_eq_of_int s[0] 48 (by decide) h1
  unfold natL
  rw [getD_zero s h, length_data, e]
  have : 1 < s.size := by omega
  simp [this]
theorem natL_all (s : ByteArray) (h : 0 < s.size) (h1 : (s.size : Int) ≤ 1 ∨ ¬ (s[0].toNat : Int) = 48) : natL s.data.toList = s.data.toList.all digitB := by
  unfold natL
  rw [getD_zero s h, length_data]
  have a : decide (1 ≤ s.size) = true := by simp; omega
  rw [a]
  have b : (decide (s[0] = 48) && decide (1 < s.size)) = false := by
    rcases h1 with h1 | h1
    · have : ¬ 1 < s.size := by omega
      simp [this]
    · have : ¬ s[0] = 48 := by intro e; rw [e] at h1; exact h1 rfl
      simp [this]
  rw [b]; rfl
theorem nameL_nil (s : ByteArray) (h : s.size = 0) : nameL s.data.toList = false := by rw [eq_nil_zero s h]; rfl
theorem nameL_long (s : ByteArray) (h : 16 < s.size) : nameL s.data.toList = false := by
  unfold nameL
  rw [length_data]
  have : decide (s.size ≤ 16) = false := by simp; omega
  rw [this]; simp
theorem nameL_first (s : ByteArray) (h : 0 < s.size) (hb : smallB s[0] = false) : nameL s.data.toList = false := by
  unfold nameL
  rw [getD_zero s h, hb]; simp
theorem nameL_all (s : ByteArray) (h : 0 < s.size) (h1 : s.size ≤ 16) (hb : smallB s[0] = true) : nameL s.data.toList = s.data.toList.all nameCh := by
  unfold nameL
  rw [getD_zero s h, hb, length_data]
  have a : decide (1 ≤ s.size) = true := by simp; omega
  have b : decide (s.size ≤ 16) = true := by simp; omega
  rw [a, b]; rfl

/-! Decimal forms. -/
end Go.Proofs.Ytalnhbjpfnodiaa
