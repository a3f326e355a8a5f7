/- WHAT IS PROVED: the law dragnetlaw02.BitsTexts returns true for every list of words and every string, whatever the world holds; it changes nothing that was there. CONDITIONS: the package-level variables that it reads hold what the program's own text lays in them (tied). -/
import Derived.Test.YtnegnmjjibhldaaDoorBitsTexts
import Derived.Test.YtnegnmjjibhldaaDoorCards
import Derived.Test.YtnegnmjjibhldaaDoorTie
import Derived.SevenTiedAt
namespace Go.Proofs.YtnegnmjjibhldaaDoor
open Go
theorem texts_card : Rows.BitsTextsCardSaid :=
  Claim7.holds_tied_plain_at .later [] Rows.bitsTextsCard.laidKinds true Rows.bitsTextsCard.stood.harness Rows.bitsTextsCard.stood.looks
    texts_holds (fun _ h => by cases h) (by kernel_rfl) (fun _ h => by cases h) bitsTexts_row_tie rfl ⟨rfl, rfl⟩ (by kernel_rfl) rfl
    (fun f fn hf hfn => by
      obtain rfl : f = 3 := Option.some.inj ((show Tryd.prog.funcNamed "dragnet/dragnetlaw02.BitsTexts" = some 3 by kernel_rfl).symm.trans hf) |>.symm
      obtain rfl : fn = Tryd.f3 := (Option.some.inj (Tryd.func3.symm.trans hfn)).symm
      exact ⟨by kernel_rfl, fun j t ht => by
        rw [Tryd.params3] at ht
        have hm : t ∈ ([22, 9] : List TypeId) := by simpa using Array.mem_of_getElem? ht
        have hall : (([22, 9] : List TypeId).all fun u => !Tryd.prog.wantsStandIn u) = true := by kernel_rfl
        exact (show Tryd.prog.wantsStandIn t = false by simpa using List.all_eq_true.1 hall t hm)⟩)
    (by kernel_rfl)
end Go.Proofs.YtnegnmjjibhldaaDoor
