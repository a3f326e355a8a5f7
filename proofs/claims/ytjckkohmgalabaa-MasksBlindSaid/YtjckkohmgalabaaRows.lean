/-
  No cell of these rows narrows 'for every input' (looked for: loops, veiled, ifaces, maps, wideKeys, modest, calm, conditions, laid).
  DERIVED. THE GIVEN ROWS OF THIS SEAT. 6 by the template 'for every input the law returns true; each argument reads behind the call as it read before'; 0 by the template 'total and deterministic' (their statements: YtjckkohmgalabaaTotals.lean).
  GIVEN WITH THE SEED: the statements are not yours to turn. If you find one false, say at which input.
  Laid BY PROGRAM, IN A SANDBOX (cutbox-rows.mjs): the forced cells as the released guide's own fill.sh prints them over the translation 3c83cb0ce51f1538… (all of the seat's roots in one cut). By AI agents, Wed Nov 11 2026. No macro, syntax, notation, axiom, sorry.
-/
import Derived.Test.YtjckkohmgalabaaChecked
import GoSem.Claim
import GoSem.ClaimJoined
import GoSem.ClaimMapViews
import Derived.JoinedTies
import Derived.KernelRfl
namespace Go.Proofs.Ytjckkohmgalabaa
/- THE CELL 'sum', in the pinned program and in every row, IS THE sha256 OF THE DUMP (.gsa) THAT YtjckkohmgalabaaProg.lean LOADS. Nothing in Lean hashes anything: it is a label: what it is worth is what the hold of that sum in a sandbox is worth. -/
noncomputable def Try.pinned : Pinned := { name := "ytjckkohmgalabaa", sum := "3c83cb0ce51f153806e6e51db4b172b33df4776c337255787cc92f69a2ae41d5", checked := Try.checked }
namespace Rows
def none {H : Type} : Left H := { results := [], args := [] }

/-- 'dragnetlaw07.MasksPure': WHATEVER THE INPUT: true; the input reads as it did. -/
def masksPureSpec : ChangeSpec := { name := "masksPure", fn := fun _ => fun
  | [d1, d2, d3] => { results := [.lit (.bool true)], args := [d1, d2, d3] }
  | _ => none }
def masksPureRow : OpenClaim := { program := "ytjckkohmgalabaa", sum := "3c83cb0ce51f153806e6e51db4b172b33df4776c337255787cc92f69a2ae41d5", func := "dragnet/dragnetlaw07.MasksPure", spec := "masksPure", unfollowed := true, recurses := true, apart := false }
def MasksPureSaid : Prop := masksPureRow.holds Try.pinned (OpenSpec.ofChange masksPureSpec)

/-- ITS FALSE NEIGHBOUR: 'it returns false'. Refute it at one input. -/
def masksPureWrong : ChangeSpec := { name := "masksPure", fn := fun _ => fun
  | [d1, d2, d3] => { results := [.lit (.bool false)], args := [d1, d2, d3] }
  | _ => none }
def MasksPureWrongFalsely : Prop := masksPureRow.holds Try.pinned (OpenSpec.ofChange masksPureWrong)

/-- 'dragnetlaw07.MasksCalls': WHATEVER THE INPUT: true; the input reads as it did. -/
def masksCallsSpec : ChangeSpec := { name := "masksCalls", fn := fun _ => fun
  | [d1, d2, d3] => { results := [.lit (.bool true)], args := [d1, d2, d3] }
  | _ => none }
def masksCallsRow : OpenClaim := { program := "ytjckkohmgalabaa", sum := "3c83cb0ce51f153806e6e51db4b172b33df4776c337255787cc92f69a2ae41d5", func := "dragnet/dragnetlaw07.MasksCalls", spec := "masksCalls", unfollowed := true, recurses := true, apart := false }
def MasksCallsSaid : Prop := masksCallsRow.holds Try.pinned (OpenSpec.ofChange masksCallsSpec)

/-- ITS FALSE NEIGHBOUR: 'it returns false'. Refute it at one input. -/
def masksCallsWrong : ChangeSpec := { name := "masksCalls", fn := fun _ => fun
  | [d1, d2, d3] => { results := [.lit (.bool false)], args := [d1, d2, d3] }
  | _ => none }
def MasksCallsWrongFalsely : Prop := masksCallsRow.holds Try.pinned (OpenSpec.ofChange masksCallsWrong)

/-- 'dragnetlaw07.MasksBlind': WHATEVER THE INPUT: true; the input reads as it did. -/
def masksBlindSpec : ChangeSpec := { name := "masksBlind", fn := fun _ => fun
  | [d1, d2, d3] => { results := [.lit (.bool true)], args := [d1, d2, d3] }
  | _ => none }
def masksBlindRow : OpenClaim := { program := "ytjckkohmgalabaa", sum := "3c83cb0ce51f153806e6e51db4b172b33df4776c337255787cc92f69a2ae41d5", func := "dragnet/dragnetlaw07.MasksBlind", spec := "masksBlind", unfollowed := true, recurses := true, apart := false }
def MasksBlindSaid : Prop := masksBlindRow.holds Try.pinned (OpenSpec.ofChange masksBlindSpec)

/-- ITS FALSE NEIGHBOUR: 'it returns false'. Refute it at one input. -/
def masksBlindWrong : ChangeSpec := { name := "masksBlind", fn := fun _ => fun
  | [d1, d2, d3] => { results := [.lit (.bool false)], args := [d1, d2, d3] }
  | _ => none }
def MasksBlindWrongFalsely : Prop := masksBlindRow.holds Try.pinned (OpenSpec.ofChange masksBlindWrong)

/-- 'dragnetlaw07.MasksTwice': WHATEVER THE INPUT: true; the input reads as it did. -/
def masksTwiceSpec : ChangeSpec := { name := "masksTwice", fn := fun _ => fun
  | [d1, d2] => { results := [.lit (.bool true)], args := [d1, d2] }
  | _ => none }
def masksTwiceRow : OpenClaim := { program := "ytjckkohmgalabaa", sum := "3c83cb0ce51f153806e6e51db4b172b33df4776c337255787cc92f69a2ae41d5", func := "dragnet/dragnetlaw07.MasksTwice", spec := "masksTwice", unfollowed := true, recurses := true, apart := false }
def MasksTwiceSaid : Prop := masksTwiceRow.holds Try.pinned (OpenSpec.ofChange masksTwiceSpec)

/-- ITS FALSE NEIGHBOUR: 'it returns false'. Refute it at one input. -/
def masksTwiceWrong : ChangeSpec := { name := "masksTwice", fn := fun _ => fun
  | [d1, d2] => { results := [.lit (.bool false)], args := [d1, d2] }
  | _ => none }
def MasksTwiceWrongFalsely : Prop := masksTwiceRow.holds Try.pinned (OpenSpec.ofChange masksTwiceWrong)

/-- 'dragnetlaw07.MasksMoves': WHATEVER THE INPUT: true; the input reads as it did. -/
def masksMovesSpec : ChangeSpec := { name := "masksMoves", fn := fun _ => fun
  | [d1, d2] => { results := [.lit (.bool true)], args := [d1, d2] }
  | _ => none }
def masksMovesRow : OpenClaim := { program := "ytjckkohmgalabaa", sum := "3c83cb0ce51f153806e6e51db4b172b33df4776c337255787cc92f69a2ae41d5", func := "dragnet/dragnetlaw07.MasksMoves", spec := "masksMoves", unfollowed := true, recurses := true, apart := false }
def MasksMovesSaid : Prop := masksMovesRow.holds Try.pinned (OpenSpec.ofChange masksMovesSpec)

/-- ITS FALSE NEIGHBOUR: 'it returns false'. Refute it at one input. -/
def masksMovesWrong : ChangeSpec := { name := "masksMoves", fn := fun _ => fun
  | [d1, d2] => { results := [.lit (.bool false)], args := [d1, d2] }
  | _ => none }
def MasksMovesWrongFalsely : Prop := masksMovesRow.holds Try.pinned (OpenSpec.ofChange masksMovesWrong)

/-- 'dragnetlaw07.MasksChoices': WHATEVER THE INPUT: true; the input reads as it did. -/
def masksChoicesSpec : ChangeSpec := { name := "masksChoices", fn := fun _ => fun
  | [d1, d2, d3] => { results := [.lit (.bool true)], args := [d1, d2, d3] }
  | _ => none }
def masksChoicesRow : OpenClaim := { program := "ytjckkohmgalabaa", sum := "3c83cb0ce51f153806e6e51db4b172b33df4776c337255787cc92f69a2ae41d5", func := "dragnet/dragnetlaw07.MasksChoices", spec := "masksChoices", unfollowed := true, recurses := true, apart := false }
def MasksChoicesSaid : Prop := masksChoicesRow.holds Try.pinned (OpenSpec.ofChange masksChoicesSpec)

/-- ITS FALSE NEIGHBOUR: 'it returns false'. Refute it at one input. -/
def masksChoicesWrong : ChangeSpec := { name := "masksChoices", fn := fun _ => fun
  | [d1, d2, d3] => { results := [.lit (.bool false)], args := [d1, d2, d3] }
  | _ => none }
def MasksChoicesWrongFalsely : Prop := masksChoicesRow.holds Try.pinned (OpenSpec.ofChange masksChoicesWrong)

/- THE SECOND FORM. 'bulk': how many values and letters a reading holds, each counted each time it is reached (what is shared counts as often as it is met; a slice's spare places count too). A statement '..UptoSaid' is the law's where the arguments, and the package variables that the reading takes, are together of bulk at most 1048576: NARROWER than '..Said'. Prove '..Said' where nothing that the law and all that it calls make is longer than what came in: it says more and counts as full. Else prove '..UptoSaid'. A law counts once. -/
mutual
def uptoBulk {H : Type} : DataW H → Nat
  | .lit (.string bytes) => bytes.length + 1
  | .lit _ => 1
  | .nil => 1
  | .ptr d => uptoBulk d + 1
  | .slice elems spare => uptoBulkAll elems + uptoBulkAll spare + 1
  | .agg parts => uptoBulkAll parts + 1
  | .iface _ d => uptoBulk d + 1
  | .map entries => uptoBulkEntries entries + 1
  | .held _ => 1
def uptoBulkAll {H : Type} : List (DataW H) → Nat
  | [] => 0
  | d :: r => uptoBulk d + uptoBulkAll r
def uptoBulkEntries {H : Type} : List (Lit × DataW H) → Nat
  | [] => 0
  | x :: r => uptoBulkEntry x + uptoBulkEntries r
def uptoBulkEntry {H : Type} : Lit × DataW H → Nat
  | (.string bytes, d) => bytes.length + uptoBulk d + 1
  | (_, d) => uptoBulk d + 1
 end
def uptoSmall : (H : Type) → List (DataW H) → Bool := fun _ ds => decide (uptoBulkAll ds ≤ 1048576)
def OpenSpec.upto (s : _root_.Go.ChangeSpec) : _root_.Go.OpenSpec := { _root_.Go.OpenSpec.ofChange s with cond := some uptoSmall }

/-- 'dragnetlaw07.MasksPure', WHERE WHAT IT READS IS OF BULK AT MOST 1048576: true; the input reads as it did. -/
def masksPureUptoRow : OpenClaim := { program := "ytjckkohmgalabaa", sum := "3c83cb0ce51f153806e6e51db4b172b33df4776c337255787cc92f69a2ae41d5", func := "dragnet/dragnetlaw07.MasksPure", spec := "masksPure", unfollowed := true, recurses := true, apart := false, narrowed := true }
def MasksPureUptoSaid : Prop := masksPureUptoRow.holds Try.pinned (OpenSpec.upto masksPureSpec)

/-- 'dragnetlaw07.MasksCalls', WHERE WHAT IT READS IS OF BULK AT MOST 1048576: true; the input reads as it did. -/
def masksCallsUptoRow : OpenClaim := { program := "ytjckkohmgalabaa", sum := "3c83cb0ce51f153806e6e51db4b172b33df4776c337255787cc92f69a2ae41d5", func := "dragnet/dragnetlaw07.MasksCalls", spec := "masksCalls", unfollowed := true, recurses := true, apart := false, narrowed := true }
def MasksCallsUptoSaid : Prop := masksCallsUptoRow.holds Try.pinned (OpenSpec.upto masksCallsSpec)

/-- 'dragnetlaw07.MasksBlind', WHERE WHAT IT READS IS OF BULK AT MOST 1048576: true; the input reads as it did. -/
def masksBlindUptoRow : OpenClaim := { program := "ytjckkohmgalabaa", sum := "3c83cb0ce51f153806e6e51db4b172b33df4776c337255787cc92f69a2ae41d5", func := "dragnet/dragnetlaw07.MasksBlind", spec := "masksBlind", unfollowed := true, recurses := true, apart := false, narrowed := true }
def MasksBlindUptoSaid : Prop := masksBlindUptoRow.holds Try.pinned (OpenSpec.upto masksBlindSpec)

/-- 'dragnetlaw07.MasksTwice', WHERE WHAT IT READS IS OF BULK AT MOST 1048576: true; the input reads as it did. -/
def masksTwiceUptoRow : OpenClaim := { program := "ytjckkohmgalabaa", sum := "3c83cb0ce51f153806e6e51db4b172b33df4776c337255787cc92f69a2ae41d5", func := "dragnet/dragnetlaw07.MasksTwice", spec := "masksTwice", unfollowed := true, recurses := true, apart := false, narrowed := true }
def MasksTwiceUptoSaid : Prop := masksTwiceUptoRow.holds Try.pinned (OpenSpec.upto masksTwiceSpec)

/-- 'dragnetlaw07.MasksMoves', WHERE WHAT IT READS IS OF BULK AT MOST 1048576: true; the input reads as it did. -/
def masksMovesUptoRow : OpenClaim := { program := "ytjckkohmgalabaa", sum := "3c83cb0ce51f153806e6e51db4b172b33df4776c337255787cc92f69a2ae41d5", func := "dragnet/dragnetlaw07.MasksMoves", spec := "masksMoves", unfollowed := true, recurses := true, apart := false, narrowed := true }
def MasksMovesUptoSaid : Prop := masksMovesUptoRow.holds Try.pinned (OpenSpec.upto masksMovesSpec)

/-- 'dragnetlaw07.MasksChoices', WHERE WHAT IT READS IS OF BULK AT MOST 1048576: true; the input reads as it did. -/
def masksChoicesUptoRow : OpenClaim := { program := "ytjckkohmgalabaa", sum := "3c83cb0ce51f153806e6e51db4b172b33df4776c337255787cc92f69a2ae41d5", func := "dragnet/dragnetlaw07.MasksChoices", spec := "masksChoices", unfollowed := true, recurses := true, apart := false, narrowed := true }
def MasksChoicesUptoSaid : Prop := masksChoicesUptoRow.holds Try.pinned (OpenSpec.upto masksChoicesSpec)

end Rows
end Go.Proofs.Ytjckkohmgalabaa
