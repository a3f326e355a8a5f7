/- WHAT IS PROVED: the law dragnetlaw01.WordsLines returns true for every two strings and both Booleans, whatever the world holds; it changes nothing that was there. CONDITIONS: the package-level variables that it reads hold what the program's own text lays in them (tied). -/
import Derived.Test.YtinffflkplhdiaaDoorLines
import Derived.Test.YtinffflkplhdiaaDoorCards
import Derived.Test.YtinffflkplhdiaaDoorTie
import Derived.SevenTiedAt
namespace Go.Proofs.YtinffflkplhdiaaDoor
open Go
theorem wlines_card : Rows.WordsLinesCardSaid :=
  Claim7.holds_tied_plain_at .later [] Rows.wordsLinesCard.laidKinds true Rows.wordsLinesCard.stood.harness Rows.wordsLinesCard.stood.looks
    wlines_holds (fun _ h => by cases h) (by kernel_rfl) (fun _ h => by cases h) wordsLines_row_tie rfl ⟨rfl, rfl⟩ (by kernel_rfl) rfl
    (fun f fn hf hfn => by
      obtain rfl : f = 7 := Option.some.inj ((show Tryd.prog.funcNamed "dragnet/dragnetlaw01.WordsLines" = some 7 by kernel_rfl).symm.trans hf) |>.symm
      obtain rfl : fn = Tryd.f7 := (Option.some.inj (Tryd.func7.symm.trans hfn)).symm
      exact ⟨by kernel_rfl, fun j t ht => by
        rw [Tryd.params7] at ht
        have hm : t ∈ [9, 9, 4] := by simpa using Array.mem_of_getElem? ht
        have hall : ([9, 9, 4].all fun u => !Tryd.prog.wantsStandIn u) = true := by kernel_rfl
        exact (show Tryd.prog.wantsStandIn t = false by simpa using List.all_eq_true.1 hall t hm)⟩)
    (by kernel_rfl)
end Go.Proofs.YtinffflkplhdiaaDoor
