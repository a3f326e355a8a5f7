/- WHAT IS PROVED: the law dragnetlaw06.TraceChecks returns true for every trace, every number of cells and every three numbers, whatever the world holds; it changes nothing that was there. CONDITIONS: the package-level variables that it reads hold what the program's own text lays in them (tied). -/
import Derived.Test.YtehjncebddoinaaDoorChecks
import Derived.Test.YtehjncebddoinaaDoorCards
import Derived.Test.YtehjncebddoinaaDoorTie
import Derived.SevenTiedAt
namespace Go.Proofs.YtehjncebddoinaaDoor
open Go
theorem checks_card : Rows.TraceChecksCardSaid :=
  Claim7.holds_tied_plain_at .later [] Rows.traceChecksCard.laidKinds true Rows.traceChecksCard.stood.harness Rows.traceChecksCard.stood.looks
    traceChecks_holds (fun _ h => by cases h) (by kernel_rfl) (fun _ h => by cases h) traceChecks_row_tie rfl ⟨rfl, rfl⟩ (by kernel_rfl) rfl
    (fun f fn hf hfn => by
      obtain rfl : f = 3 := Option.some.inj ((show Tryd.prog.funcNamed "dragnet/dragnetlaw06.TraceChecks" = some 3 by kernel_rfl).symm.trans hf) |>.symm
      obtain rfl : fn = Tryd.f3 := (Option.some.inj (Tryd.func3.symm.trans hfn)).symm
      exact ⟨by kernel_rfl, fun j t ht => by
        rw [Tryd.params3] at ht
        have hm : t ∈ [22, 3, 23] := by simpa using Array.mem_of_getElem? ht
        have hall : ([22, 3, 23].all fun u => !Tryd.prog.wantsStandIn u) = true := by kernel_rfl
        exact (show Tryd.prog.wantsStandIn t = false by simpa using List.all_eq_true.1 hall t hm)⟩)
    (by kernel_rfl)
end Go.Proofs.YtehjncebddoinaaDoor
