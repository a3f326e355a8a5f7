/- WHAT IS PROVED: the law dragnetlaw06.TraceFirst returns true for every two traces, whatever the world holds; it changes nothing that was there. CONDITIONS: the package-level variables that it reads hold what the program's own text lays in them (tied). -/
import Derived.Test.YtehjncebddoinaaDoorFirst
import Derived.Test.YtehjncebddoinaaDoorCards
import Derived.Test.YtehjncebddoinaaDoorTie
import Derived.SevenTiedAt
namespace Go.Proofs.YtehjncebddoinaaDoor
open Go
theorem first_card : Rows.TraceFirstCardSaid :=
  Claim7.holds_tied_plain_at .later [] Rows.traceFirstCard.laidKinds true Rows.traceFirstCard.stood.harness Rows.traceFirstCard.stood.looks
    traceFirst_holds (fun _ h => by cases h) (by kernel_rfl) (fun _ h => by cases h) traceFirst_row_tie rfl ⟨rfl, rfl⟩ (by kernel_rfl) rfl
    (fun f fn hf hfn => by
      obtain rfl : f = 6 := Option.some.inj ((show Tryd.prog.funcNamed "dragnet/dragnetlaw06.TraceFirst" = some 6 by kernel_rfl).symm.trans hf) |>.symm
      obtain rfl : fn = Tryd.f6 := (Option.some.inj (Tryd.func6.symm.trans hfn)).symm
      exact ⟨by kernel_rfl, fun j t ht => by
        rw [Tryd.params6] at ht
        have hm : t ∈ [22] := by simpa using Array.mem_of_getElem? ht
        have hall : ([22].all fun u => !Tryd.prog.wantsStandIn u) = true := by kernel_rfl
        exact (show Tryd.prog.wantsStandIn t = false by simpa using List.all_eq_true.1 hall t hm)⟩)
    (by kernel_rfl)
end Go.Proofs.YtehjncebddoinaaDoor
