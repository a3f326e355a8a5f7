/- Plain mathematics of layer 4: letters without case. No program. -/
import Derived.Test.YtnpfdnpklopnkaaCPlain
namespace Go.Proofs.Ytnpfdnpklopnkaa
def capB (c : Nat) : Bool := decide (65 ≤ c) && decide (c ≤ 90)
def letB (c : Nat) : Bool := capB c || (decide (97 ≤ c) && decide (c ≤ 122))
/-- The small form; the letter of the other case. -/
def lowN (c : Nat) : Nat := if capB c then c + 32 else c
def othN (c : Nat) : Nat := if letB c then (if c < 97 then c + 32 else c - 32) else c
theorem lowN_lt {c : Nat} (h : c < 256) : lowN c < 256 := by unfold lowN capB; split <;> simp_all; omega
theorem othN_lt {c : Nat} (h : c < 256) : othN c < 256 := by unfold othN letB capB; split <;> (try split) <;> simp_all <;> omega
theorem let_all : ∀ c : Fin 256, ((((c.val : Int) / 64 == 1) && (bits .and .u32 (134217726 / 2 ^ (c.val % 32)) 1 == 1))) = letB c.val := by decide +kernel
theorem or_all : ∀ c : Fin 256, letB c.val = true → bits .or .u8 (c.val : Int) 32 = (lowN c.val : Int) := by decide +kernel
theorem xor_all : ∀ c : Fin 256, letB c.val = true → bits .xor .u8 (c.val : Int) 32 = (othN c.val : Int) := by decide +kernel
theorem low_no {c : Nat} (h : letB c = false) : lowN c = c := by unfold lowN; rw [if_neg]; unfold letB at h; simp at h; simp [h.1]
theorem oth_no {c : Nat} (h : letB c = false) : othN c = c := by unfold othN; rw [h]; rfl
theorem oth_oth (c : Nat) : othN (othN c) = c := by
  unfold othN letB capB
  simp only [Bool.or_eq_true, Bool.and_eq_true, decide_eq_true_eq]
  split <;> (try split) <;> (try split) <;> (try split) <;> omega
theorem low_low (c : Nat) : lowN (lowN c) = lowN c := by
  unfold lowN capB
  simp only [Bool.and_eq_true, decide_eq_true_eq]
  split <;> (try split) <;> omega
theorem low_oth (c : Nat) : lowN (othN c) = lowN c := by
  unfold lowN othN letB capB
  simp only [Bool.or_eq_true, Bool.and_eq_true, decide_eq_true_eq]
  split <;> (try split) <;> (try split) <;> (try split) <;> omega
/-- Are two bytes the same letter? -/
def sameN (a b : Nat) : Bool := lowN a == lowN b
theorem sameN_iff (a b : Nat) : sameN a b = true ↔ b = a ∨ b = othN a := by
  unfold sameN lowN othN letB capB
  simp only [beq_iff_eq, Bool.or_eq_true, Bool.and_eq_true, decide_eq_true_eq]
  split <;> (try split) <;> (try split) <;> (try split) <;> omega
/-- The least closed set in which p is; the greatest one in p. -/
def closeP (p : Nat → Bool) : Nat → Bool := fun i => p i || p (othN i)
def openP (p : Nat → Bool) : Nat → Bool := fun i => p i && p (othN i)
end Go.Proofs.Ytnpfdnpklopnkaa
