/- Layer 1: the iterator over the fields of a line, walked. -/
import Derived.Test.YtihhgnjkmhdpmaaGreatDoorWB
namespace Go.Proofs.YtihhgnjkmhdpmaaGreatDoor.W
open Go.RowKit Go.Shelf
attribute [local go_sem] Oper.semAt_some
theorem getD_at (s : ByteArray) (k : Nat) (h : k < s.size) : s.data.toList.getD k 0 = s[k] := by
  rw [List.getD_eq_getElem?_getD, data_get s k h]; rfl
end Go.Proofs.YtihhgnjkmhdpmaaGreatDoor.W
