/- WHAT IS PROVED: the law dragnetlaw01.WordsNames returns true for every string and all numbers, whatever the world holds; it changes nothing that was there. CONDITIONS: the package-level variables that it reads hold what the program's own text lays in them (tied). -/
import Derived.Test.YtodhbcpjlmeijaaDoorNames
import Derived.Test.YtodhbcpjlmeijaaDoorCards
import Derived.Test.YtodhbcpjlmeijaaDoorTie
import Derived.SevenTiedAt
namespace Go.Proofs.YtodhbcpjlmeijaaDoor
open Go
theorem names_card : Rows.WordsNamesCardSaid :=
  Claim7.holds_tied_plain_at .later [] Rows.wordsNamesCard.laidKinds true Rows.wordsNamesCard.stood.harness true
    names_holds (fun _ h => by cases h) (by kernel_rfl) (fun _ h => by cases h) wordsNames_row_tie rfl ⟨rfl, rfl⟩ (by kernel_rfl) rfl
    (fun f fn hf hfn => by
      obtain rfl : f = 3 := Option.some.inj ((show Tryd.prog.funcNamed "dragnet/dragnetlaw01.WordsNames" = some 3 by kernel_rfl).symm.trans hf) |>.symm
      obtain rfl : fn = Tryd.f3 := (Option.some.inj (Tryd.func3.symm.trans hfn)).symm
      exact ⟨by kernel_rfl, fun j t ht => by
        rw [Tryd.params3] at ht
        have hm : t ∈ [9, 2, 2] := by simpa using Array.mem_of_getElem? ht
        have hall : ([9, 2, 2].all fun u => !Tryd.prog.wantsStandIn u) = true := by kernel_rfl
        exact (show Tryd.prog.wantsStandIn t = false by simpa using List.all_eq_true.1 hall t hm)⟩)
    (by kernel_rfl)
end Go.Proofs.YtodhbcpjlmeijaaDoor
