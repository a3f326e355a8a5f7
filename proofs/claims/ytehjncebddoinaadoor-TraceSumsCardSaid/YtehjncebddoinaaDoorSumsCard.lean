/- WHAT IS PROVED: the law dragnetlaw06.TraceSums returns true for every two traces and every list of regions, whatever the world holds; it changes nothing that was there. CONDITIONS: the package-level variables that it reads hold what the program's own text lays in them (tied). -/
import Derived.Test.YtehjncebddoinaaDoorSums
import Derived.Test.YtehjncebddoinaaDoorCards
import Derived.Test.YtehjncebddoinaaDoorTie
import Derived.SevenTiedAt
namespace Go.Proofs.YtehjncebddoinaaDoor
open Go
theorem sums_card : Rows.TraceSumsCardSaid :=
  Claim7.holds_tied_plain_at .later [] Rows.traceSumsCard.laidKinds true Rows.traceSumsCard.stood.harness Rows.traceSumsCard.stood.looks
    traceSums_holds (fun _ h => by cases h) (by kernel_rfl) (fun _ h => by cases h) traceSums_row_tie rfl ⟨rfl, rfl⟩ (by kernel_rfl) rfl
    (fun f fn hf hfn => by
      obtain rfl : f = 7 := Option.some.inj ((show Tryd.prog.funcNamed "dragnet/dragnetlaw06.TraceSums" = some 7 by kernel_rfl).symm.trans hf) |>.symm
      obtain rfl : fn = Tryd.f7 := (Option.some.inj (Tryd.func7.symm.trans hfn)).symm
      exact ⟨by kernel_rfl, fun j t ht => by
        rw [Tryd.params7] at ht
        have hm : t ∈ [22, 36] := by simpa using Array.mem_of_getElem? ht
        have hall : ([22, 36].all fun u => !Tryd.prog.wantsStandIn u) = true := by kernel_rfl
        exact (show Tryd.prog.wantsStandIn t = false by simpa using List.all_eq_true.1 hall t hm)⟩)
    (by kernel_rfl)
end Go.Proofs.YtehjncebddoinaaDoor
