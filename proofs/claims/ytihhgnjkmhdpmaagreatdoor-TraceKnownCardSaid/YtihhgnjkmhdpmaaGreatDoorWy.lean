/- Layer 1: List, walked. -/
import Derived.Test.YtihhgnjkmhdpmaaGreatDoorWB
namespace Go.Proofs.YtihhgnjkmhdpmaaGreatDoor.W
open Go.RowKit
theorem info_str : (Tryz.prog.info? 9).map (fun i => (i.zero, i.size, i.bytes)) = some (some (.string ⟨#[]⟩), 1, 16) := by kernel_rfl
end Go.Proofs.YtihhgnjkmhdpmaaGreatDoor.W
