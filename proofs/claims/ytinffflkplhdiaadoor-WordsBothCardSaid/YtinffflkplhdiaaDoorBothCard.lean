/- WHAT IS PROVED: the law dragnetlaw01.WordsBoth returns true for every two lists of fields, whatever the world holds; it changes nothing that was there. CONDITIONS: the package-level variables that it reads hold what the program's own text lays in them (tied). -/
import Derived.Test.YtinffflkplhdiaaDoorBoth
import Derived.Test.YtinffflkplhdiaaDoorCards
import Derived.Test.YtinffflkplhdiaaDoorTie
import Derived.SevenTiedAt
namespace Go.Proofs.YtinffflkplhdiaaDoor
open Go
theorem both_card : Rows.WordsBothCardSaid :=
  Claim7.holds_tied_plain_at .later [] Rows.wordsBothCard.laidKinds true Rows.wordsBothCard.stood.harness Rows.wordsBothCard.stood.looks
    both_holds (fun _ h => by cases h) (by kernel_rfl) (fun _ h => by cases h) wordsBoth_row_tie rfl ⟨rfl, rfl⟩ (by kernel_rfl) rfl
    (fun f fn hf hfn => by
      obtain rfl : f = 9 := Option.some.inj ((show Tryd.prog.funcNamed "dragnet/dragnetlaw01.WordsBoth" = some 9 by kernel_rfl).symm.trans hf) |>.symm
      obtain rfl : fn = Tryd.f9 := (Option.some.inj (Tryd.func9.symm.trans hfn)).symm
      exact ⟨by kernel_rfl, fun j t ht => by
        rw [Tryd.params9] at ht
        have hm : t ∈ [32, 32] := by simpa using Array.mem_of_getElem? ht
        have hall : ([32, 32].all fun u => !Tryd.prog.wantsStandIn u) = true := by kernel_rfl
        exact (show Tryd.prog.wantsStandIn t = false by simpa using List.all_eq_true.1 hall t hm)⟩)
    (by kernel_rfl)
end Go.Proofs.YtinffflkplhdiaaDoor
