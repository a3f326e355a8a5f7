/- Layer 1: a run that List writes is read as it was, plain. -/
import Derived.Test.YtihhgnjkmhdpmaaGreatDoorWQi
namespace Go.Proofs.YtihhgnjkmhdpmaaGreatDoor.W
theorem itoa_nat {a : Int} (ha : 0 ≤ a) : natL (Lib.itoa a) = true ∧ natFrom 0 (Lib.itoa a) = a.toNat := by
  unfold Lib.itoa
  rw [if_neg (by omega)]
  exact dec_nat _
end Go.Proofs.YtihhgnjkmhdpmaaGreatDoor.W
