/- parseRun at every line. -/
import Derived.Test.YtihhgnjkmhdpmaaGreatDoorZd
namespace Go.Proofs.YtihhgnjkmhdpmaaGreatDoor
open Go.RowKit W
theorem parseRun_any (s : ByteArray) (w : World) (hw : LW w) (hs : s.size ≤ 4000000000) : Calls Tryz.prog 29 #[.string s] w (LrPost w s.data.toList) := by
  by_cases h : (cutC 32 [] s.data.toList).length = 3
  · match hc : cutC 32 [] s.data.toList, h with
    | [a, b, c], _ => exact parseRun_three s w hw hs a b c hc
  · exact parseRun_six s w hw hs h
end Go.Proofs.YtihhgnjkmhdpmaaGreatDoor
