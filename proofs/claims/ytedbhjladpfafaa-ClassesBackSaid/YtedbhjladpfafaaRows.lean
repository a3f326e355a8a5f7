/-
  No cell of these rows narrows 'for every input' (looked for: loops, veiled, ifaces, maps, wideKeys, modest, calm, conditions, laid).
  DERIVED. THE GIVEN ROWS OF THIS SEAT. 6 by the template 'for every input the law returns true; each argument reads behind the call as it read before'; 0 by the template 'total and deterministic' (their statements: YtedbhjladpfafaaTotals.lean).
  GIVEN WITH THE SEED: the statements are not yours to turn. If you find one false, say at which input.
  Laid BY PROGRAM, IN A SANDBOX (cutbox-rows.mjs): the forced cells as the released guide's own fill.sh prints them over the translation f596acd36311cfab… (all of the seat's roots in one cut). By AI agents, Wed Nov 11 2026. No macro, syntax, notation, axiom, sorry.
-/
import Derived.Test.YtedbhjladpfafaaChecked
import GoSem.Claim
import GoSem.ClaimJoined
import GoSem.ClaimMapViews
import Derived.JoinedTies
import Derived.KernelRfl
namespace Go.Proofs.Ytedbhjladpfafaa
/- THE CELL 'sum', in the pinned program and in every row, IS THE sha256 OF THE DUMP (.gsa) THAT YtedbhjladpfafaaProg.lean LOADS. Nothing in Lean hashes anything: it is a label: what it is worth is what the hold of that sum in a sandbox is worth. -/
noncomputable def Try.pinned : Pinned := { name := "ytedbhjladpfafaa", sum := "f596acd36311cfabed43af922d9ba6dace664fb8d1b7fc5d994ee7405cfac742", checked := Try.checked }
namespace Rows
def none {H : Type} : Left H := { results := [], args := [] }

/-- 'dragnetlaw03.ClassesMakes': WHATEVER THE INPUT: true; the input reads as it did. -/
def classesMakesSpec : ChangeSpec := { name := "classesMakes", fn := fun _ => fun
  | [d1, d2, d3] => { results := [.lit (.bool true)], args := [d1, d2, d3] }
  | _ => none }
def classesMakesRow : OpenClaim := { program := "ytedbhjladpfafaa", sum := "f596acd36311cfabed43af922d9ba6dace664fb8d1b7fc5d994ee7405cfac742", func := "dragnet/dragnetlaw03.ClassesMakes", spec := "classesMakes", inPlace := ["internal/bytealg.IndexByteString"], unfollowed := true, recurses := true, apart := false }
def ClassesMakesSaid : Prop := classesMakesRow.holds Try.pinned (OpenSpec.ofChange classesMakesSpec)

/-- ITS FALSE NEIGHBOUR: 'it returns false'. Refute it at one input. -/
def classesMakesWrong : ChangeSpec := { name := "classesMakes", fn := fun _ => fun
  | [d1, d2, d3] => { results := [.lit (.bool false)], args := [d1, d2, d3] }
  | _ => none }
def ClassesMakesWrongFalsely : Prop := classesMakesRow.holds Try.pinned (OpenSpec.ofChange classesMakesWrong)

/-- 'dragnetlaw03.ClassesAlgebra': WHATEVER THE INPUT: true; the input reads as it did. -/
def classesAlgebraSpec : ChangeSpec := { name := "classesAlgebra", fn := fun _ => fun
  | [d1, d2] => { results := [.lit (.bool true)], args := [d1, d2] }
  | _ => none }
def classesAlgebraRow : OpenClaim := { program := "ytedbhjladpfafaa", sum := "f596acd36311cfabed43af922d9ba6dace664fb8d1b7fc5d994ee7405cfac742", func := "dragnet/dragnetlaw03.ClassesAlgebra", spec := "classesAlgebra", inPlace := ["internal/bytealg.IndexByteString"], unfollowed := true, recurses := true, apart := false }
def ClassesAlgebraSaid : Prop := classesAlgebraRow.holds Try.pinned (OpenSpec.ofChange classesAlgebraSpec)

/-- ITS FALSE NEIGHBOUR: 'it returns false'. Refute it at one input. -/
def classesAlgebraWrong : ChangeSpec := { name := "classesAlgebra", fn := fun _ => fun
  | [d1, d2] => { results := [.lit (.bool false)], args := [d1, d2] }
  | _ => none }
def ClassesAlgebraWrongFalsely : Prop := classesAlgebraRow.holds Try.pinned (OpenSpec.ofChange classesAlgebraWrong)

/-- 'dragnetlaw03.ClassesLaws': WHATEVER THE INPUT: true; the input reads as it did. -/
def classesLawsSpec : ChangeSpec := { name := "classesLaws", fn := fun _ => fun
  | [d1, d2, d3] => { results := [.lit (.bool true)], args := [d1, d2, d3] }
  | _ => none }
def classesLawsRow : OpenClaim := { program := "ytedbhjladpfafaa", sum := "f596acd36311cfabed43af922d9ba6dace664fb8d1b7fc5d994ee7405cfac742", func := "dragnet/dragnetlaw03.ClassesLaws", spec := "classesLaws", inPlace := ["internal/bytealg.IndexByteString"], unfollowed := true, recurses := true, apart := false }
def ClassesLawsSaid : Prop := classesLawsRow.holds Try.pinned (OpenSpec.ofChange classesLawsSpec)

/-- ITS FALSE NEIGHBOUR: 'it returns false'. Refute it at one input. -/
def classesLawsWrong : ChangeSpec := { name := "classesLaws", fn := fun _ => fun
  | [d1, d2, d3] => { results := [.lit (.bool false)], args := [d1, d2, d3] }
  | _ => none }
def ClassesLawsWrongFalsely : Prop := classesLawsRow.holds Try.pinned (OpenSpec.ofChange classesLawsWrong)

/-- 'dragnetlaw03.ClassesCounts': WHATEVER THE INPUT: true; the input reads as it did. -/
def classesCountsSpec : ChangeSpec := { name := "classesCounts", fn := fun _ => fun
  | [d1, d2, d3] => { results := [.lit (.bool true)], args := [d1, d2, d3] }
  | _ => none }
def classesCountsRow : OpenClaim := { program := "ytedbhjladpfafaa", sum := "f596acd36311cfabed43af922d9ba6dace664fb8d1b7fc5d994ee7405cfac742", func := "dragnet/dragnetlaw03.ClassesCounts", spec := "classesCounts", inPlace := ["internal/bytealg.IndexByteString"], unfollowed := true, recurses := true, apart := false }
def ClassesCountsSaid : Prop := classesCountsRow.holds Try.pinned (OpenSpec.ofChange classesCountsSpec)

/-- ITS FALSE NEIGHBOUR: 'it returns false'. Refute it at one input. -/
def classesCountsWrong : ChangeSpec := { name := "classesCounts", fn := fun _ => fun
  | [d1, d2, d3] => { results := [.lit (.bool false)], args := [d1, d2, d3] }
  | _ => none }
def ClassesCountsWrongFalsely : Prop := classesCountsRow.holds Try.pinned (OpenSpec.ofChange classesCountsWrong)

/-- 'dragnetlaw03.ClassesBack': WHATEVER THE INPUT: true; the input reads as it did. -/
def classesBackSpec : ChangeSpec := { name := "classesBack", fn := fun _ => fun
  | [d1, d2] => { results := [.lit (.bool true)], args := [d1, d2] }
  | _ => none }
def classesBackRow : OpenClaim := { program := "ytedbhjladpfafaa", sum := "f596acd36311cfabed43af922d9ba6dace664fb8d1b7fc5d994ee7405cfac742", func := "dragnet/dragnetlaw03.ClassesBack", spec := "classesBack", inPlace := ["internal/bytealg.IndexByteString"], unfollowed := true, recurses := true, apart := false }
def ClassesBackSaid : Prop := classesBackRow.holds Try.pinned (OpenSpec.ofChange classesBackSpec)

/-- ITS FALSE NEIGHBOUR: 'it returns false'. Refute it at one input. -/
def classesBackWrong : ChangeSpec := { name := "classesBack", fn := fun _ => fun
  | [d1, d2] => { results := [.lit (.bool false)], args := [d1, d2] }
  | _ => none }
def ClassesBackWrongFalsely : Prop := classesBackRow.holds Try.pinned (OpenSpec.ofChange classesBackWrong)

/-- 'dragnetlaw03.ClassesKnown': WHATEVER THE INPUT: true; the input reads as it did. -/
def classesKnownSpec : ChangeSpec := { name := "classesKnown", fn := fun _ => fun
  | [] => { results := [.lit (.bool true)], args := [] }
  | _ => none }
def classesKnownRow : OpenClaim := { program := "ytedbhjladpfafaa", sum := "f596acd36311cfabed43af922d9ba6dace664fb8d1b7fc5d994ee7405cfac742", func := "dragnet/dragnetlaw03.ClassesKnown", spec := "classesKnown", inPlace := ["internal/bytealg.IndexByteString"], unfollowed := true, recurses := true, apart := false }
def ClassesKnownSaid : Prop := classesKnownRow.holds Try.pinned (OpenSpec.ofChange classesKnownSpec)

/-- ITS FALSE NEIGHBOUR: 'it returns false'. Refute it at one input. -/
def classesKnownWrong : ChangeSpec := { name := "classesKnown", fn := fun _ => fun
  | [] => { results := [.lit (.bool false)], args := [] }
  | _ => none }
def ClassesKnownWrongFalsely : Prop := classesKnownRow.holds Try.pinned (OpenSpec.ofChange classesKnownWrong)

/- THE SECOND FORM. 'bulk': how many values and letters a reading holds, each counted each time it is reached (what is shared counts as often as it is met; a slice's spare places count too). A statement '..UptoSaid' is the law's where the arguments, and the package variables that the reading takes, are together of bulk at most 1048576: NARROWER than '..Said'. Prove '..Said' where nothing that the law and all that it calls make is longer than what came in: it says more and counts as full. Else prove '..UptoSaid'. A law counts once. -/
mutual
def uptoBulk {H : Type} : DataW H → Nat
  | .lit (.string bytes) => bytes.length + 1
  | .lit _ => 1
  | .nil => 1
  | .ptr d => uptoBulk d + 1
  | .slice elems spare => uptoBulkAll elems + uptoBulkAll spare + 1
  | .agg parts => uptoBulkAll parts + 1
  | .iface _ d => uptoBulk d + 1
  | .map entries => uptoBulkEntries entries + 1
  | .held _ => 1
def uptoBulkAll {H : Type} : List (DataW H) → Nat
  | [] => 0
  | d :: r => uptoBulk d + uptoBulkAll r
def uptoBulkEntries {H : Type} : List (Lit × DataW H) → Nat
  | [] => 0
  | x :: r => uptoBulkEntry x + uptoBulkEntries r
def uptoBulkEntry {H : Type} : Lit × DataW H → Nat
  | (.string bytes, d) => bytes.length + uptoBulk d + 1
  | (_, d) => uptoBulk d + 1
 end
def uptoSmall : (H : Type) → List (DataW H) → Bool := fun _ ds => decide (uptoBulkAll ds ≤ 1048576)
def OpenSpec.upto (s : _root_.Go.ChangeSpec) : _root_.Go.OpenSpec := { _root_.Go.OpenSpec.ofChange s with cond := some uptoSmall }

/-- 'dragnetlaw03.ClassesMakes', WHERE WHAT IT READS IS OF BULK AT MOST 1048576: true; the input reads as it did. -/
def classesMakesUptoRow : OpenClaim := { program := "ytedbhjladpfafaa", sum := "f596acd36311cfabed43af922d9ba6dace664fb8d1b7fc5d994ee7405cfac742", func := "dragnet/dragnetlaw03.ClassesMakes", spec := "classesMakes", inPlace := ["internal/bytealg.IndexByteString"], unfollowed := true, recurses := true, apart := false, narrowed := true }
def ClassesMakesUptoSaid : Prop := classesMakesUptoRow.holds Try.pinned (OpenSpec.upto classesMakesSpec)

/-- 'dragnetlaw03.ClassesAlgebra', WHERE WHAT IT READS IS OF BULK AT MOST 1048576: true; the input reads as it did. -/
def classesAlgebraUptoRow : OpenClaim := { program := "ytedbhjladpfafaa", sum := "f596acd36311cfabed43af922d9ba6dace664fb8d1b7fc5d994ee7405cfac742", func := "dragnet/dragnetlaw03.ClassesAlgebra", spec := "classesAlgebra", inPlace := ["internal/bytealg.IndexByteString"], unfollowed := true, recurses := true, apart := false, narrowed := true }
def ClassesAlgebraUptoSaid : Prop := classesAlgebraUptoRow.holds Try.pinned (OpenSpec.upto classesAlgebraSpec)

/-- 'dragnetlaw03.ClassesLaws', WHERE WHAT IT READS IS OF BULK AT MOST 1048576: true; the input reads as it did. -/
def classesLawsUptoRow : OpenClaim := { program := "ytedbhjladpfafaa", sum := "f596acd36311cfabed43af922d9ba6dace664fb8d1b7fc5d994ee7405cfac742", func := "dragnet/dragnetlaw03.ClassesLaws", spec := "classesLaws", inPlace := ["internal/bytealg.IndexByteString"], unfollowed := true, recurses := true, apart := false, narrowed := true }
def ClassesLawsUptoSaid : Prop := classesLawsUptoRow.holds Try.pinned (OpenSpec.upto classesLawsSpec)

/-- 'dragnetlaw03.ClassesCounts', WHERE WHAT IT READS IS OF BULK AT MOST 1048576: true; the input reads as it did. -/
def classesCountsUptoRow : OpenClaim := { program := "ytedbhjladpfafaa", sum := "f596acd36311cfabed43af922d9ba6dace664fb8d1b7fc5d994ee7405cfac742", func := "dragnet/dragnetlaw03.ClassesCounts", spec := "classesCounts", inPlace := ["internal/bytealg.IndexByteString"], unfollowed := true, recurses := true, apart := false, narrowed := true }
def ClassesCountsUptoSaid : Prop := classesCountsUptoRow.holds Try.pinned (OpenSpec.upto classesCountsSpec)

/-- 'dragnetlaw03.ClassesBack', WHERE WHAT IT READS IS OF BULK AT MOST 1048576: true; the input reads as it did. -/
def classesBackUptoRow : OpenClaim := { program := "ytedbhjladpfafaa", sum := "f596acd36311cfabed43af922d9ba6dace664fb8d1b7fc5d994ee7405cfac742", func := "dragnet/dragnetlaw03.ClassesBack", spec := "classesBack", inPlace := ["internal/bytealg.IndexByteString"], unfollowed := true, recurses := true, apart := false, narrowed := true }
def ClassesBackUptoSaid : Prop := classesBackUptoRow.holds Try.pinned (OpenSpec.upto classesBackSpec)

/-- 'dragnetlaw03.ClassesKnown', WHERE WHAT IT READS IS OF BULK AT MOST 1048576: true; the input reads as it did. -/
def classesKnownUptoRow : OpenClaim := { program := "ytedbhjladpfafaa", sum := "f596acd36311cfabed43af922d9ba6dace664fb8d1b7fc5d994ee7405cfac742", func := "dragnet/dragnetlaw03.ClassesKnown", spec := "classesKnown", inPlace := ["internal/bytealg.IndexByteString"], unfollowed := true, recurses := true, apart := false, narrowed := true }
def ClassesKnownUptoSaid : Prop := classesKnownUptoRow.holds Try.pinned (OpenSpec.upto classesKnownSpec)

end Rows
end Go.Proofs.Ytedbhjladpfafaa
