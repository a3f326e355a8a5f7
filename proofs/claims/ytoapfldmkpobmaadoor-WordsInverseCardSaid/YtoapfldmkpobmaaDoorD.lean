/- Layer 1: contracts of the reference's Int and Digits. -/
import Derived.Test.YtoapfldmkpobmaaDoorC
namespace Go.Proofs.YtoapfldmkpobmaaDoor
open Go.RowKit
/-- How many bytes the sign takes. -/
def signN (l : List UInt8) : Nat := if minusB l then 1 else 0
def soFar (l : List UInt8) (k : Nat) : Nat := natFrom 0 ((dropM l).take (k - signN l))
theorem soFar_zero (l : List UInt8) : soFar l 0 = 0 := by unfold soFar; rw [show 0 - signN l = 0 by omega]; rfl
theorem natFrom_snoc (l : List UInt8) (a : Nat) (c : UInt8) : natFrom a (l ++ [c]) = 10 * natFrom a l + (c.toNat - 48) := by
  unfold natFrom; rw [List.foldl_append]; rfl
theorem natFrom_app (l r : List UInt8) (a : Nat) : natFrom a (l ++ r) = natFrom (natFrom a l) r := by
  unfold natFrom; rw [List.foldl_append]
theorem natFrom_pref (l : List UInt8) (k : Nat) : natFrom 0 (l.take k) ≤ natFrom 0 l := by
  have := natFrom_app (l.take k) (l.drop k) 0
  rw [List.take_append_drop] at this
  rw [this]; exact natFrom_le _ _
theorem minus_iff (s : ByteArray) (h : 0 < s.size) : minusB s.data.toList = decide (s[0] = 45) := by
  rw [data_cons s h, minusB_cons]
theorem dropM_at (s : ByteArray) (k : Nat) (h0 : 0 < s.size) (h : k < s.size) (hk : signN s.data.toList ≤ k) : (dropM s.data.toList)[k - signN s.data.toList]? = some s[k] := by
  have hd := data_get s k h
  unfold signN at hk ⊢
  rw [minus_iff s h0] at hk ⊢
  rw [data_cons s h0, dropM_cons]
  by_cases e : s[0] = 45
  · simp only [e] at hk ⊢
    simp at hk ⊢
    rw [show k - 1 + 1 = k by omega]
    simpa using hd
  · rw [decide_eq_false e, if_neg e, if_neg (by decide), ← data_cons s h0]; exact hd
theorem soFar_succ (s : ByteArray) (k : Nat) (h0 : 0 < s.size) (h : k < s.size) (hk : signN s.data.toList ≤ k) :
    soFar s.data.toList (k + 1) = 10 * soFar s.data.toList k + (s[k].toNat - 48) := by
  unfold soFar
  have := dropM_at s k h0 h hk
  obtain ⟨h1, h2⟩ := List.getElem?_eq_some_iff.1 this
  rw [show k + 1 - signN s.data.toList = (k - signN s.data.toList) + 1 by omega, List.take_succ_eq_append_getElem h1, natFrom_snoc, h2]
theorem form_digit (s : ByteArray) (k : Nat) (hf : intForm s.data.toList = true) (h0 : 0 < s.size) (h : k < s.size) (hk : signN s.data.toList ≤ k) : 48 ≤ s[k].toNat ∧ s[k].toNat ≤ 57 := by
  have := dropM_at s k h0 h hk
  unfold intForm at hf
  rw [Bool.and_eq_true] at hf
  have hd := natL_digits _ hf.1
  rw [List.all_eq_true] at hd
  exact (digitB_iff _).1 (hd _ (List.mem_of_getElem? this))
theorem form_pos (s : ByteArray) (hf : intForm s.data.toList = true) : 0 < s.size := by
  rcases Nat.eq_zero_or_pos s.size with h | h
  · rw [eq_nil_zero s h] at hf; cases hf
  · exact h
theorem soFar_all (s : ByteArray) (h0 : 0 < s.size) : soFar s.data.toList s.size = natFrom 0 (dropM s.data.toList) := by
  unfold soFar
  rw [List.take_of_length_le]
  unfold signN
  rw [minus_iff s h0]
  have h1 := data_cons s h0
  have h2 : s.data.toList.length = s.size := length_data s
  rw [h1] at h2 ⊢
  rw [dropM_cons]
  simp only [List.length_cons] at h2
  by_cases e : s[0] = 45
  · rw [if_pos e, decide_eq_true e, if_pos rfl]; omega
  · rw [if_neg e, decide_eq_false e, if_neg (by decide), List.length_cons]; omega
theorem soFar_le (l : List UInt8) (k : Nat) : soFar l k ≤ natFrom 0 (dropM l) := natFrom_pref _ _
theorem intVal_of (l : List UInt8) : intVal l = if minusB l then -(natFrom 0 (dropM l) : Int) else (natFrom 0 (dropM l) : Int) := rfl

theorem quo_bd (x : Int) (h0 : 0 ≤ x) (h1 : x ≤ 9) : (-9223372036854775808 + x).tdiv 10 = -((9223372036854775808 - x) / 10) := by
  rw [show -9223372036854775808 + x = -(9223372036854775808 - x) by omega, Int.neg_tdiv, Int.tdiv_eq_ediv_of_nonneg (by omega)]
theorem step_no (v x : Int) (h0 : 0 ≤ x) (h1 : x ≤ 9) (h : v < (-9223372036854775808 + x).tdiv 10) : 10 * v - x < -9223372036854775808 := by
  rw [quo_bd x h0 h1] at h; omega
theorem step_yes (v x : Int) (h0 : 0 ≤ x) (h1 : x ≤ 9) (hv : v ≤ 0) (h : (-9223372036854775808 + x).tdiv 10 ≤ v) : RowKit.wrap64 (RowKit.wrap64 (10 * v) - x) = 10 * v - x ∧ -9223372036854775808 ≤ 10 * v - x ∧ 10 * v - x ≤ 0 := by
  rw [quo_bd x h0 h1] at h
  rw [IntWalk.wrap64_in (10 * v) (by omega), IntWalk.wrap64_in _ (by omega)]
  omega
theorem ret_i64 {a b : Int} (h : a = b) : Value.int .i64 a = Value.int .i64 b := by rw [h]

end Go.Proofs.YtoapfldmkpobmaaDoor
