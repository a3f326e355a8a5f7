/- Layer 1: bare fields; Clone; what the fields of a line are. -/
import Derived.Test.YtihhgnjkmhdpmaaGreatDoorWB
import Derived.Test.YtihhgnjkmhdpmaaGreatDoorShelf
namespace Go.Proofs.YtihhgnjkmhdpmaaGreatDoor.W
open Go.RowKit
theorem clone_any (s : ByteArray) (w : World) (hs : s.size ≤ 100000000000) : Calls Tryz.prog 45 #[.string s] w fun e w' => e = .returned (.string s) ∧ Below w.heap.size w w' := by
  have hc := Lib.hid (Tryz.stringslite_Clone s w (by omega))
  go_enter Tryz.func45, Tryz.ntmps45
  go_wp2_with (go_at_call 61; refine hc.out.mono ?_; rintro e w2 ⟨rfl, hb⟩)
  go_ret
  exact ⟨rfl, hb⟩

end Go.Proofs.YtihhgnjkmhdpmaaGreatDoor.W
