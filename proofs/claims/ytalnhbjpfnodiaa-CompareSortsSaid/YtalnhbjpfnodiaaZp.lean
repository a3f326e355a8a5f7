/- Masks, plain: what is chosen by them, and what the calls over an arena do. No program. -/
import Derived.Test.YtalnhbjpfnodiaaH
namespace Go.Proofs.Ytalnhbjpfnodiaa
open Go.RowKit
theorem word_ext {x y : Nat} (hx : x < 2 ^ 64) (hy : y < 2 ^ 64) (h : ∀ k, k < 64 → x.testBit k = y.testBit k) : x = y := by
  apply Nat.eq_of_testBit_eq
  intro k
  by_cases hk : k < 64
  · exact h k hk
  · have e : 2 ^ 64 ≤ 2 ^ k := Nat.pow_le_pow_right (by decide) (by omega)
    rw [Nat.testBit_lt_two_pow (Nat.lt_of_lt_of_le hx e), Nat.testBit_lt_two_pow (Nat.lt_of_lt_of_le hy e)]
abbrev onesN : Nat := 18446744073709551615
def ofM (b : Nat) : Nat := if b % 2 = 1 then onesN else 0
def zeroM (x : Nat) : Nat := if x = 0 then onesN else 0
def selM (m a b : Nat) : Nat := b ^^^ (m &&& (a ^^^ b))
def isM (m : Nat) : Prop := m = 0 ∨ m = onesN
instance (m : Nat) : Decidable (isM m) := inferInstanceAs (Decidable (_ ∨ _))
theorem ones_bit (k : Nat) (hk : k < 64) : onesN.testBit k = true := by
  rw [show onesN = 2 ^ 64 - 1 from rfl, Nat.testBit_two_pow_sub_one]; simp [hk]
theorem not_bit (m k : Nat) (hm : m < 2 ^ 64) (hk : k < 64) : (onesN - m).testBit k = !m.testBit k := by
  rw [show onesN - m = 2 ^ 64 - (m + 1) by simp only [onesN]; omega, Nat.testBit_two_pow_sub_succ hm]; simp [hk]
theorem selM_lt {m a b : Nat} (ha : a < 2 ^ 64) (hb : b < 2 ^ 64) : selM m a b < 2 ^ 64 :=
  Nat.xor_lt_two_pow hb (Nat.lt_of_le_of_lt Nat.and_le_right (Nat.xor_lt_two_pow ha hb))
theorem selM_bit (m a b k : Nat) : (selM m a b).testBit k = if m.testBit k then a.testBit k else b.testBit k := by
  unfold selM
  rw [Nat.testBit_xor, Nat.testBit_and, Nat.testBit_xor]
  cases m.testBit k <;> cases a.testBit k <;> cases b.testBit k <;> rfl
theorem selM_zero (a b : Nat) : selM 0 a b = b := by unfold selM; simp
theorem selM_ones {a b : Nat} (ha : a < 2 ^ 64) (hb : b < 2 ^ 64) : selM onesN a b = a :=
  word_ext (selM_lt ha hb) ha fun k hk => by rw [selM_bit, ones_bit k hk]; rfl
theorem selM_ref {m a b : Nat} (hm : m < 2 ^ 64) (ha : a < 2 ^ 64) (hb : b < 2 ^ 64) : (m &&& a) ||| ((onesN - m) &&& b) = selM m a b :=
  word_ext (Nat.or_lt_two_pow (Nat.lt_of_le_of_lt Nat.and_le_right ha) (Nat.lt_of_le_of_lt Nat.and_le_right hb)) (selM_lt ha hb) fun k hk => by
    rw [selM_bit, Nat.testBit_or, Nat.testBit_and, Nat.testBit_and, not_bit m k hm hk]
    cases m.testBit k <;> simp
theorem not_xor {m : Nat} (hm : m < 2 ^ 64) : onesN ^^^ m = onesN - m :=
  word_ext (Nat.xor_lt_two_pow (by decide) hm) (by simp only [onesN]; omega) fun k hk => by rw [not_bit m k hm hk, Nat.testBit_xor, ones_bit k hk]; cases m.testBit k <;> rfl
theorem selM_not {m a b : Nat} (hm : m < 2 ^ 64) (ha : a < 2 ^ 64) (hb : b < 2 ^ 64) : selM (onesN - m) a b = selM m b a :=
  word_ext (selM_lt ha hb) (selM_lt hb ha) fun k hk => by rw [selM_bit, selM_bit, not_bit m k hm hk]; cases m.testBit k <;> rfl
theorem selM_self (m a : Nat) : selM m a a = a := by unfold selM; simp
theorem sel_u64 {m a b : Nat} (hm : m < 2 ^ 64) (ha : a < 2 ^ 64) (hb : b < 2 ^ 64) : bits .xor .u64 (b : Int) (bits .and .u64 (m : Int) (bits .xor .u64 (a : Int) (b : Int))) = (selM m a b : Int) := by
  rw [u64_xor_nat _ _ ha hb, u64_and_nat _ _ hm (Nat.xor_lt_two_pow ha hb), u64_xor_nat _ _ hb (Nat.lt_of_le_of_lt Nat.and_le_right (Nat.xor_lt_two_pow ha hb))]
  rfl
theorem sel_ref_u64 {m a b : Nat} (hm : m < 2 ^ 64) (ha : a < 2 ^ 64) (hb : b < 2 ^ 64) : bits .or .u64 (bits .and .u64 (m : Int) (a : Int)) (bits .and .u64 ((onesN - m : Nat) : Int) (b : Int)) = (selM m a b : Int) := by
  rw [u64_and_nat _ _ hm ha, u64_and_nat _ _ (by simp only [onesN]; omega) hb, u64_or_nat _ _ (Nat.lt_of_le_of_lt Nat.and_le_right ha) (Nat.lt_of_le_of_lt Nat.and_le_right hb), selM_ref hm ha hb]
theorem not_u64 {m : Nat} (hm : m < 2 ^ 64) : bits .xor .u64 (if IntKind.u64.signed = true then -1 else IntKind.u64.max) (m : Int) = ((onesN - m : Nat) : Int) := by
  have e : (if IntKind.u64.signed = true then -1 else IntKind.u64.max) = ((onesN : Nat) : Int) := by decide
  rw [e, u64_xor_nat _ _ (by decide) hm, not_xor hm]
theorem low_u64 {b : Nat} (hb : b < 2 ^ 64) : bits .and .u64 (b : Int) 1 = ((b % 2 : Nat) : Int) := by
  have e := u64_and_nat b 1 hb (by decide)
  rw [Nat.and_one_is_mod] at e
  exact e
theorem neg_bit (b : Nat) : IntKind.u64.wrap (-((b % 2 : Nat) : Int)) = (ofM b : Int) := by
  rw [IntKind.wrap_u64]; unfold ofM onesN
  rcases Nat.mod_two_eq_zero_or_one b with h | h <;> rw [h] <;> decide
/-- n | -n has the top bit exactly if n is not 0. -/
theorem none_top {n : Nat} (hn : n < 2 ^ 64) : ((n ||| ((2 ^ 64 - n) % 2 ^ 64)) >>> 63) = if n = 0 then 0 else 1 := by
  by_cases h : n = 0
  · subst h; rfl
  · rw [if_neg h, Nat.mod_eq_of_lt (by omega)]
    have hl : n ||| (2 ^ 64 - n) < 2 ^ 64 := Nat.or_lt_two_pow hn (by omega)
    have h1 : n ≤ n ||| (2 ^ 64 - n) := Nat.left_le_or
    have h2 : 2 ^ 64 - n ≤ n ||| (2 ^ 64 - n) := Nat.right_le_or
    rw [Nat.shiftRight_eq_div_pow]
    omega
theorem ofM_mask (b : Nat) : isM (ofM b) := by unfold ofM isM; split <;> simp
theorem zeroM_mask (b : Nat) : isM (zeroM b) := by unfold zeroM isM; split <;> simp
theorem ofM_lt (b : Nat) : ofM b < 2 ^ 64 := by unfold ofM; split <;> decide
theorem zeroM_lt (b : Nat) : zeroM b < 2 ^ 64 := by unfold zeroM; split <;> decide
theorem isM_lt {m : Nat} (h : isM m) : m < 2 ^ 64 := by rcases h with rfl | rfl <;> decide
-- what the calls do
def swC (m x y : Nat) (cs : List Nat) : List Nat := (cs.set x (selM m (cs.getD y 0) (cs.getD x 0))).set y (selM m (cs.getD x 0) (cs.getD y 0))
def swT (x y : Nat) : List (Nat × Nat) := [(1, x), (1, y), (2, x), (2, y)]
def mvC (m x y : Nat) (cs : List Nat) : List Nat := cs.set y (selM m (cs.getD x 0) (cs.getD y 0))
def mvT (x y : Nat) : List (Nat × Nat) := [(1, x), (1, y), (2, y)]
def clC (m x : Nat) (cs : List Nat) : List Nat := cs.set x (selM m 0 (cs.getD x 0))
def clT (x : Nat) : List (Nat × Nat) := [(1, x), (2, x)]
def swRC (m x y : Nat) (cs : List Nat) : Nat → List Nat
  | 0 => cs
  | k + 1 => swC m (x + k) (y + k) (swRC m x y cs k)
def swRT (x y : Nat) : Nat → List (Nat × Nat)
  | 0 => []
  | k + 1 => swRT x y k ++ swT (x + k) (y + k)
def mvRC (m x y : Nat) (cs : List Nat) : Nat → List Nat
  | 0 => cs
  | k + 1 => mvC m (x + k) (y + k) (mvRC m x y cs k)
def mvRT (x y : Nat) : Nat → List (Nat × Nat)
  | 0 => []
  | k + 1 => mvRT x y k ++ mvT (x + k) (y + k)
theorem swC_len (m x y : Nat) (cs : List Nat) : (swC m x y cs).length = cs.length := by simp [swC]
theorem mvC_len (m x y : Nat) (cs : List Nat) : (mvC m x y cs).length = cs.length := by simp [mvC]
theorem clC_len (m x : Nat) (cs : List Nat) : (clC m x cs).length = cs.length := by simp [clC]
theorem swRC_len (m x y : Nat) (cs : List Nat) : ∀ k, (swRC m x y cs k).length = cs.length
  | 0 => rfl
  | k + 1 => by rw [swRC, swC_len, swRC_len m x y cs k]
theorem mvRC_len (m x y : Nat) (cs : List Nat) : ∀ k, (mvRC m x y cs k).length = cs.length
  | 0 => rfl
  | k + 1 => by rw [mvRC, mvC_len, mvRC_len m x y cs k]
theorem swRT_len (x y : Nat) : ∀ k, (swRT x y k).length = 4 * k
  | 0 => rfl
  | k + 1 => by rw [swRT, List.length_append, swRT_len x y k]; simp [swT]; omega
theorem mvRT_len (x y : Nat) : ∀ k, (mvRT x y k).length = 3 * k
  | 0 => rfl
  | k + 1 => by rw [mvRT, List.length_append, mvRT_len x y k]; simp [mvT]; omega
end Go.Proofs.Ytalnhbjpfnodiaa
