/- WHAT IS PROVED: the law dragnetlaw06.TraceKnown returns true (the document's examples), whatever the world holds; it changes nothing that was there. CONDITIONS: the package-level variables that it reads hold what the program's own text lays in them (tied). -/
import Derived.Test.YtihhgnjkmhdpmaaGreatDoorKnown
import Derived.Test.YtihhgnjkmhdpmaaGreatDoorCards
import Derived.Test.YtihhgnjkmhdpmaaGreatDoorTie
import Derived.SevenTiedAt
namespace Go.Proofs.YtihhgnjkmhdpmaaGreatDoor
open Go
theorem known_card : Rows.TraceKnownCardSaid :=
  Claim7.holds_tied_plain_at .later [] Rows.traceKnownCard.laidKinds true Rows.traceKnownCard.stood.harness Rows.traceKnownCard.stood.looks
    traceKnown_holds (fun _ h => by cases h) (by kernel_rfl) (fun _ h => by cases h) traceKnown_row_tie rfl ⟨rfl, rfl⟩ (by kernel_rfl) rfl
    (fun f fn hf hfn => by
      obtain rfl : f = 5 := Option.some.inj ((show Tryz.prog.funcNamed "dragnet/dragnetlaw06.TraceKnown" = some 5 by kernel_rfl).symm.trans hf) |>.symm
      obtain rfl : fn = Tryz.f5 := (Option.some.inj (Tryz.func5.symm.trans hfn)).symm
      exact ⟨by kernel_rfl, fun j t ht => by rw [Tryz.params5] at ht; simp at ht⟩)
    (by kernel_rfl)
end Go.Proofs.YtihhgnjkmhdpmaaGreatDoor
