/- refused. -/
import Derived.Test.YtjckkohmgalabaaI
import Derived.Deep.RegionLaw
import Derived.Deep.RegionWith
namespace Go.Proofs.Ytjckkohmgalabaa
open Go.RowKit
/-- Why there may be no region of this name and size. -/
def regE (n : Nat) (rs : List Rg) (s : ByteArray) (k : Int) : Int :=
  if nameL s.data.toList = false then 6 else if k < 1 then 7 else if 0 ≤ idxI rs s then 8 else if 64 ≤ rs.length then 3 else if (n : Int) - (endR rs : Int) < k then 5 else 0
theorem idxI_bounds (rs : List Rg) (s : ByteArray) : -1 ≤ idxI rs s ∧ idxI rs s < (rs.length : Int) := by
  rcases idxI_cases rs s with ⟨e, _⟩ | ⟨k, r, e, hr, _⟩
  · rw [e]; omega
  · have := (List.getElem?_eq_some_iff.1 hr).1
    rw [e]; omega
theorem endR_le {n : Nat} {rs : List Rg} (h : ∀ r ∈ rs, r.base + r.size ≤ n ∧ r.name.size ≤ 16 ∧ 1 ≤ r.size) : endR rs ≤ n := by
  unfold endR
  cases e : rs.getLast? with
  | none => exact Nat.zero_le _
  | some r => exact (h r (List.mem_of_getLast? e)).1
section
variable {w : World} {F : Nat → Prop} {p cb : Nat} {pv rv : Value} {pg cs : List Nat} {rs : List Rg} {tr : List (Nat × Nat)}
end
end Go.Proofs.Ytjckkohmgalabaa
