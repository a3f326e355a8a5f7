/- WHAT IS PROVED: the law dragnetlaw06.TraceBack returns true for every trace and every text, whatever the world holds; it changes nothing that was there. CONDITIONS: the package-level variables that it reads hold what the program's own text lays in them (tied). -/
import Derived.Test.YtihhgnjkmhdpmaaGreatDoorBack
import Derived.Test.YtihhgnjkmhdpmaaGreatDoorCards
import Derived.Test.YtihhgnjkmhdpmaaGreatDoorTie
import Derived.SevenTiedAt
namespace Go.Proofs.YtihhgnjkmhdpmaaGreatDoor
open Go
theorem back_card : Rows.TraceBackCardSaid :=
  Claim7.holds_tied_plain_at .later [] Rows.traceBackCard.laidKinds true Rows.traceBackCard.stood.harness Rows.traceBackCard.stood.looks
    traceBack_holds (fun _ h => by cases h) (by kernel_rfl) (fun _ h => by cases h) traceBack_row_tie rfl ⟨rfl, rfl⟩ (by kernel_rfl) rfl
    (fun f fn hf hfn => by
      obtain rfl : f = 4 := Option.some.inj ((show Tryz.prog.funcNamed "dragnet/dragnetlaw06.TraceBack" = some 4 by kernel_rfl).symm.trans hf) |>.symm
      obtain rfl : fn = Tryz.f4 := (Option.some.inj (Tryz.func4.symm.trans hfn)).symm
      exact ⟨by kernel_rfl, fun j t ht => by
        rw [Tryz.params4] at ht
        have hm : t ∈ [22, 9] := by simpa using Array.mem_of_getElem? ht
        have hall : ([22, 9].all fun u => !Tryz.prog.wantsStandIn u) = true := by kernel_rfl
        exact (show Tryz.prog.wantsStandIn t = false by simpa using List.all_eq_true.1 hall t hm)⟩)
    (by kernel_rfl)
end Go.Proofs.YtihhgnjkmhdpmaaGreatDoor
