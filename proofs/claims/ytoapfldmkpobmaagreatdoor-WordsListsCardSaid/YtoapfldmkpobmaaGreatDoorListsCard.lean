/- WHAT IS PROVED: the law dragnetlaw01.WordsLists returns true for every list of numbers and every string, whatever the world holds; it changes nothing that was there. CONDITIONS: the package-level variables that it reads hold what the program's own text lays in them (tied). -/
import Derived.Test.YtoapfldmkpobmaaGreatDoorLists
import Derived.Test.YtoapfldmkpobmaaGreatDoorCards
import Derived.Test.YtoapfldmkpobmaaGreatDoorTie
import Derived.SevenTiedAt
namespace Go.Proofs.YtoapfldmkpobmaaGreatDoor
open Go
theorem lists_card : Rows.WordsListsCardSaid :=
  Claim7.holds_tied_plain_at .later [] Rows.wordsListsCard.laidKinds true Rows.wordsListsCard.stood.harness Rows.wordsListsCard.stood.looks
    lists_holds (fun _ h => by cases h) (by kernel_rfl) (fun _ h => by cases h) wordsLists_row_tie rfl ⟨rfl, rfl⟩ (by kernel_rfl) rfl
    (fun f fn hf hfn => by
      obtain rfl : f = 3 := Option.some.inj ((show Tryz.prog.funcNamed "dragnet/dragnetlaw01.WordsLists" = some 3 by kernel_rfl).symm.trans hf) |>.symm
      obtain rfl : fn = Tryz.f3 := (Option.some.inj (Tryz.func3.symm.trans hfn)).symm
      exact ⟨by kernel_rfl, fun j t ht => by
        rw [Tryz.params3] at ht
        have hm : t ∈ [22, 9] := by simpa using Array.mem_of_getElem? ht
        have hall : ([22, 9].all fun u => !Tryz.prog.wantsStandIn u) = true := by kernel_rfl
        exact (show Tryz.prog.wantsStandIn t = false by simpa using List.all_eq_true.1 hall t hm)⟩)
    (by kernel_rfl)
end Go.Proofs.YtoapfldmkpobmaaGreatDoor
