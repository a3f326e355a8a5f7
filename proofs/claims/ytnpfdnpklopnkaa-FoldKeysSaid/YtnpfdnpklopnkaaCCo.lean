/- Layer 3: counts, lists, one byte more or less. -/
import Derived.Test.YtnpfdnpklopnkaaCY
namespace Go.Proofs.Ytnpfdnpklopnkaa
open Go.RowKit
attribute [local go_sem] eq4 guard4 eq4z
theorem mem_listB {p : Nat → Bool} {x : Nat} : x ∈ listB p ↔ x < 256 ∧ p x = true := by
  unfold listB; rw [List.mem_filter, List.mem_range]
theorem ofL_listB (p : Nat → Bool) : eqS (ofL (listB p)) p = true := eqS_true fun i hi => by
  unfold ofL
  rw [Bool.eq_iff_iff, List.contains_iff_mem, mem_listB]
  simp [hi]
theorem contains_listB {p : Nat → Bool} {x : Nat} (hx : x < 256) : (listB p).contains x = p x := by
  rw [Bool.eq_iff_iff, List.contains_iff_mem, mem_listB]
  simp [hx]
theorem listB_asc (p : Nat → Bool) : (listB p).Pairwise (· < ·) := List.Pairwise.filter _ List.pairwise_lt_range
theorem listB_step {p : Nat → Bool} {k x y : Nat} (hx : (listB p)[k]? = some x) (hy : (listB p)[k + 1]? = some y) : x < y := by
  obtain ⟨h1, e1⟩ := List.getElem?_eq_some_iff.1 hx
  obtain ⟨h2, e2⟩ := List.getElem?_eq_some_iff.1 hy
  have := List.pairwise_iff_getElem.1 (listB_asc p) k (k + 1) h1 h2 (by omega)
  rw [e1, e2] at this
  exact this
end Go.Proofs.Ytnpfdnpklopnkaa
