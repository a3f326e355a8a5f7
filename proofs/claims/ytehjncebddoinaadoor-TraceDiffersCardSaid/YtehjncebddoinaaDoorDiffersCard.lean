/- WHAT IS PROVED: the law dragnetlaw06.TraceDiffers returns true for every two traces, whatever the world holds; it changes nothing that was there. CONDITIONS: the package-level variables that it reads hold what the program's own text lays in them (tied). -/
import Derived.Test.YtehjncebddoinaaDoorDiffers
import Derived.Test.YtehjncebddoinaaDoorCards
import Derived.Test.YtehjncebddoinaaDoorTie
import Derived.SevenTiedAt
namespace Go.Proofs.YtehjncebddoinaaDoor
open Go
theorem differs_card : Rows.TraceDiffersCardSaid :=
  Claim7.holds_tied_plain_at .later [] Rows.traceDiffersCard.laidKinds true Rows.traceDiffersCard.stood.harness Rows.traceDiffersCard.stood.looks
    traceDiffers_holds (fun _ h => by cases h) (by kernel_rfl) (fun _ h => by cases h) traceDiffers_row_tie rfl ⟨rfl, rfl⟩ (by kernel_rfl) rfl
    (fun f fn hf hfn => by
      obtain rfl : f = 4 := Option.some.inj ((show Tryd.prog.funcNamed "dragnet/dragnetlaw06.TraceDiffers" = some 4 by kernel_rfl).symm.trans hf) |>.symm
      obtain rfl : fn = Tryd.f4 := (Option.some.inj (Tryd.func4.symm.trans hfn)).symm
      exact ⟨by kernel_rfl, fun j t ht => by
        rw [Tryd.params4] at ht
        have hm : t ∈ [22] := by simpa using Array.mem_of_getElem? ht
        have hall : ([22].all fun u => !Tryd.prog.wantsStandIn u) = true := by kernel_rfl
        exact (show Tryd.prog.wantsStandIn t = false by simpa using List.all_eq_true.1 hall t hm)⟩)
    (by kernel_rfl)
end Go.Proofs.YtehjncebddoinaaDoor
