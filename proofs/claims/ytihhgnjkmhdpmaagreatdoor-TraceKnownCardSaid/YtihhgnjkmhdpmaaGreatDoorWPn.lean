/- Layer 1: of two decimal forms the lower one is the lesser number; a run's first number is not above its last. -/
import Derived.Test.YtihhgnjkmhdpmaaGreatDoorWE
namespace Go.Proofs.YtihhgnjkmhdpmaaGreatDoor.W
open Go.RowKit
theorem dig_rng {c : UInt8} (h : digitB c = true) : 48 ≤ c.toNat ∧ c.toNat ≤ 57 := by
  unfold digitB at h
  simp at h
  omega
theorem nat_parts {l : List UInt8} (h : natL l = true) : ∃ c r, l = c :: r ∧ l.all digitB = true ∧ (1 < l.length → c ≠ 48) := by
  unfold natL at h
  simp only [Bool.and_eq_true, decide_eq_true_eq, Bool.not_eq_true', Bool.and_eq_false_iff, decide_eq_false_iff_not] at h
  obtain ⟨⟨h1, h2⟩, h3⟩ := h
  cases l with
  | nil => simp at h1
  | cons c r => exact ⟨c, r, rfl, h3, fun hl => by rcases h2 with h2 | h2; simpa using h2; exact absurd hl h2⟩
theorem nat_form {l : List UInt8} (h : natL l = true) : minusB l = false ∧ dropM l = l ∧ intForm l = true ∧ intVal l = (natFrom 0 l : Int) := by
  obtain ⟨c, r, e, hd, _⟩ := nat_parts h
  have hm : minusB l = false := by
    subst e
    rw [List.all_cons, Bool.and_eq_true] at hd
    have := dig_rng hd.1
    unfold minusB Lib.hasPrefix
    have hc : c ≠ 45 := fun h => by rw [h] at this; revert this; decide
    show ((45 : UInt8) == c && [].isPrefixOf r) = false
    rw [beq_eq_false_iff_ne.2 (Ne.symm hc)]
    rfl
  have hdr : dropM l = l := by
    unfold dropM Lib.trimPrefix
    unfold minusB at hm
    rw [hm]; rfl
  refine ⟨hm, hdr, ?_, ?_⟩
  · unfold intForm; rw [hdr, h, hm]; rfl
  · unfold intVal; rw [hm, hdr]; rfl
end Go.Proofs.YtihhgnjkmhdpmaaGreatDoor.W
