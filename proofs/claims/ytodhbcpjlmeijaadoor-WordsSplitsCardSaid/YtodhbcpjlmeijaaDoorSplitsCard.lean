/- WHAT IS PROVED: the law dragnetlaw01.WordsSplits returns true for every string, whatever the world holds; it changes nothing that was there. CONDITIONS: the package-level variables that it reads hold what the program's own text lays in them (tied). -/
import Derived.Test.YtodhbcpjlmeijaaDoorSplits
import Derived.Test.YtodhbcpjlmeijaaDoorCards
import Derived.Test.YtodhbcpjlmeijaaDoorTie
import Derived.SevenTiedAt
namespace Go.Proofs.YtodhbcpjlmeijaaDoor
open Go
theorem splits_card : Rows.WordsSplitsCardSaid :=
  Claim7.holds_tied_plain_at .later [] Rows.wordsSplitsCard.laidKinds true Rows.wordsSplitsCard.stood.harness true
    splits_holds (fun _ h => by cases h) (by kernel_rfl) (fun _ h => by cases h) wordsSplits_row_tie rfl ⟨rfl, rfl⟩ (by kernel_rfl) rfl
    (fun f fn hf hfn => by
      obtain rfl : f = 5 := Option.some.inj ((show Tryd.prog.funcNamed "dragnet/dragnetlaw01.WordsSplits" = some 5 by kernel_rfl).symm.trans hf) |>.symm
      obtain rfl : fn = Tryd.f5 := (Option.some.inj (Tryd.func5.symm.trans hfn)).symm
      exact ⟨by kernel_rfl, fun j t ht => by
        rw [Tryd.params5] at ht
        have hm : t ∈ [9] := by simpa using Array.mem_of_getElem? ht
        have hall : ([9].all fun u => !Tryd.prog.wantsStandIn u) = true := by kernel_rfl
        exact (show Tryd.prog.wantsStandIn t = false by simpa using List.all_eq_true.1 hall t hm)⟩)
    (by kernel_rfl)
end Go.Proofs.YtodhbcpjlmeijaaDoor
