/- WHAT IS PROVED: the law dragnetlaw01.WordsInverse returns true for every string, every list of fields, every list of numbers and every number, whatever the world holds; it changes nothing that was there. CONDITIONS: the package-level variables that it reads hold what the program's own text lays in them (tied). -/
import Derived.Test.YtoapfldmkpobmaaDoorInverse
import Derived.Test.YtoapfldmkpobmaaDoorCards
import Derived.Test.YtoapfldmkpobmaaDoorTie
import Derived.SevenTiedAt
namespace Go.Proofs.YtoapfldmkpobmaaDoor
open Go
theorem inverse_card : Rows.WordsInverseCardSaid :=
  Claim7.holds_tied_plain_at .later [] Rows.wordsInverseCard.laidKinds true Rows.wordsInverseCard.stood.harness Rows.wordsInverseCard.stood.looks
    inverse_holds (fun _ h => by cases h) (by kernel_rfl) (fun _ h => by cases h) wordsInverse_row_tie rfl ⟨rfl, rfl⟩ (by kernel_rfl) rfl
    (fun f fn hf hfn => by
      obtain rfl : f = 3 := Option.some.inj ((show Tryd.prog.funcNamed "dragnet/dragnetlaw01.WordsInverse" = some 3 by kernel_rfl).symm.trans hf) |>.symm
      obtain rfl : fn = Tryd.f3 := (Option.some.inj (Tryd.func3.symm.trans hfn)).symm
      exact ⟨by kernel_rfl, fun j t ht => by
        rw [Tryd.params3] at ht
        have hm : t ∈ [9, 22, 25] := by simpa using Array.mem_of_getElem? ht
        have hall : ([9, 22, 25].all fun u => !Tryd.prog.wantsStandIn u) = true := by kernel_rfl
        exact (show Tryd.prog.wantsStandIn t = false by simpa using List.all_eq_true.1 hall t hm)⟩)
    (by kernel_rfl)
end Go.Proofs.YtoapfldmkpobmaaDoor
