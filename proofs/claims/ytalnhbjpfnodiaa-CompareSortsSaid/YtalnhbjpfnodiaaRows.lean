/-
  No cell of these rows narrows 'for every input' (looked for: loops, veiled, ifaces, maps, wideKeys, modest, calm, conditions, laid).
  DERIVED. THE GIVEN ROWS OF THIS SEAT. 6 by the template 'for every input the law returns true; each argument reads behind the call as it read before'; 0 by the template 'total and deterministic' (their statements: YtalnhbjpfnodiaaTotals.lean).
  GIVEN WITH THE SEED: the statements are not yours to turn. If you find one false, say at which input.
  Laid BY PROGRAM, IN A SANDBOX (cutbox-rows.mjs): the forced cells as the released guide's own fill.sh prints them over the translation bf1f71cabe40ca95… (all of the seat's roots in one cut). By AI agents, Wed Nov 11 2026. No macro, syntax, notation, axiom, sorry.
-/
import Derived.Test.YtalnhbjpfnodiaaChecked
import GoSem.Claim
import GoSem.ClaimJoined
import GoSem.ClaimMapViews
import Derived.JoinedTies
import Derived.KernelRfl
namespace Go.Proofs.Ytalnhbjpfnodiaa
/- THE CELL 'sum', in the pinned program and in every row, IS THE sha256 OF THE DUMP (.gsa) THAT YtalnhbjpfnodiaaProg.lean LOADS. Nothing in Lean hashes anything: it is a label: what it is worth is what the hold of that sum in a sandbox is worth. -/
noncomputable def Try.pinned : Pinned := { name := "ytalnhbjpfnodiaa", sum := "bf1f71cabe40ca950c37089dc5a72cf1192a80e057297a573cac2d13bd2b707f", checked := Try.checked }
namespace Rows
def none {H : Type} : Left H := { results := [], args := [] }

/-- 'dragnetlaw08.ComparePure': WHATEVER THE INPUT: true; the input reads as it did. -/
def comparePureSpec : ChangeSpec := { name := "comparePure", fn := fun _ => fun
  | [d1, d2, d3] => { results := [.lit (.bool true)], args := [d1, d2, d3] }
  | _ => none }
def comparePureRow : OpenClaim := { program := "ytalnhbjpfnodiaa", sum := "bf1f71cabe40ca950c37089dc5a72cf1192a80e057297a573cac2d13bd2b707f", func := "dragnet/dragnetlaw08.ComparePure", spec := "comparePure", unfollowed := true, recurses := true, apart := false }
def ComparePureSaid : Prop := comparePureRow.holds Try.pinned (OpenSpec.ofChange comparePureSpec)

/-- ITS FALSE NEIGHBOUR: 'it returns false'. Refute it at one input. -/
def comparePureWrong : ChangeSpec := { name := "comparePure", fn := fun _ => fun
  | [d1, d2, d3] => { results := [.lit (.bool false)], args := [d1, d2, d3] }
  | _ => none }
def ComparePureWrongFalsely : Prop := comparePureRow.holds Try.pinned (OpenSpec.ofChange comparePureWrong)

/-- 'dragnetlaw08.CompareCalls': WHATEVER THE INPUT: true; the input reads as it did. -/
def compareCallsSpec : ChangeSpec := { name := "compareCalls", fn := fun _ => fun
  | [d1, d2, d3] => { results := [.lit (.bool true)], args := [d1, d2, d3] }
  | _ => none }
def compareCallsRow : OpenClaim := { program := "ytalnhbjpfnodiaa", sum := "bf1f71cabe40ca950c37089dc5a72cf1192a80e057297a573cac2d13bd2b707f", func := "dragnet/dragnetlaw08.CompareCalls", spec := "compareCalls", unfollowed := true, recurses := true, apart := false }
def CompareCallsSaid : Prop := compareCallsRow.holds Try.pinned (OpenSpec.ofChange compareCallsSpec)

/-- ITS FALSE NEIGHBOUR: 'it returns false'. Refute it at one input. -/
def compareCallsWrong : ChangeSpec := { name := "compareCalls", fn := fun _ => fun
  | [d1, d2, d3] => { results := [.lit (.bool false)], args := [d1, d2, d3] }
  | _ => none }
def CompareCallsWrongFalsely : Prop := compareCallsRow.holds Try.pinned (OpenSpec.ofChange compareCallsWrong)

/-- 'dragnetlaw08.CompareOrders': WHATEVER THE INPUT: true; the input reads as it did. -/
def compareOrdersSpec : ChangeSpec := { name := "compareOrders", fn := fun _ => fun
  | [d1, d2, d3] => { results := [.lit (.bool true)], args := [d1, d2, d3] }
  | _ => none }
def compareOrdersRow : OpenClaim := { program := "ytalnhbjpfnodiaa", sum := "bf1f71cabe40ca950c37089dc5a72cf1192a80e057297a573cac2d13bd2b707f", func := "dragnet/dragnetlaw08.CompareOrders", spec := "compareOrders", unfollowed := true, recurses := true, apart := false }
def CompareOrdersSaid : Prop := compareOrdersRow.holds Try.pinned (OpenSpec.ofChange compareOrdersSpec)

/-- ITS FALSE NEIGHBOUR: 'it returns false'. Refute it at one input. -/
def compareOrdersWrong : ChangeSpec := { name := "compareOrders", fn := fun _ => fun
  | [d1, d2, d3] => { results := [.lit (.bool false)], args := [d1, d2, d3] }
  | _ => none }
def CompareOrdersWrongFalsely : Prop := compareOrdersRow.holds Try.pinned (OpenSpec.ofChange compareOrdersWrong)

/-- 'dragnetlaw08.CompareRows': WHATEVER THE INPUT: true; the input reads as it did. -/
def compareRowsSpec : ChangeSpec := { name := "compareRows", fn := fun _ => fun
  | [d1, d2] => { results := [.lit (.bool true)], args := [d1, d2] }
  | _ => none }
def compareRowsRow : OpenClaim := { program := "ytalnhbjpfnodiaa", sum := "bf1f71cabe40ca950c37089dc5a72cf1192a80e057297a573cac2d13bd2b707f", func := "dragnet/dragnetlaw08.CompareRows", spec := "compareRows", unfollowed := true, recurses := true, apart := false }
def CompareRowsSaid : Prop := compareRowsRow.holds Try.pinned (OpenSpec.ofChange compareRowsSpec)

/-- ITS FALSE NEIGHBOUR: 'it returns false'. Refute it at one input. -/
def compareRowsWrong : ChangeSpec := { name := "compareRows", fn := fun _ => fun
  | [d1, d2] => { results := [.lit (.bool false)], args := [d1, d2] }
  | _ => none }
def CompareRowsWrongFalsely : Prop := compareRowsRow.holds Try.pinned (OpenSpec.ofChange compareRowsWrong)

/-- 'dragnetlaw08.CompareBlind': WHATEVER THE INPUT: true; the input reads as it did. -/
def compareBlindSpec : ChangeSpec := { name := "compareBlind", fn := fun _ => fun
  | [d1, d2, d3] => { results := [.lit (.bool true)], args := [d1, d2, d3] }
  | _ => none }
def compareBlindRow : OpenClaim := { program := "ytalnhbjpfnodiaa", sum := "bf1f71cabe40ca950c37089dc5a72cf1192a80e057297a573cac2d13bd2b707f", func := "dragnet/dragnetlaw08.CompareBlind", spec := "compareBlind", unfollowed := true, recurses := true, apart := false }
def CompareBlindSaid : Prop := compareBlindRow.holds Try.pinned (OpenSpec.ofChange compareBlindSpec)

/-- ITS FALSE NEIGHBOUR: 'it returns false'. Refute it at one input. -/
def compareBlindWrong : ChangeSpec := { name := "compareBlind", fn := fun _ => fun
  | [d1, d2, d3] => { results := [.lit (.bool false)], args := [d1, d2, d3] }
  | _ => none }
def CompareBlindWrongFalsely : Prop := compareBlindRow.holds Try.pinned (OpenSpec.ofChange compareBlindWrong)

/-- 'dragnetlaw08.CompareSorts': WHATEVER THE INPUT: true; the input reads as it did. -/
def compareSortsSpec : ChangeSpec := { name := "compareSorts", fn := fun _ => fun
  | [d1, d2, d3] => { results := [.lit (.bool true)], args := [d1, d2, d3] }
  | _ => none }
def compareSortsRow : OpenClaim := { program := "ytalnhbjpfnodiaa", sum := "bf1f71cabe40ca950c37089dc5a72cf1192a80e057297a573cac2d13bd2b707f", func := "dragnet/dragnetlaw08.CompareSorts", spec := "compareSorts", unfollowed := true, recurses := true, apart := false }
def CompareSortsSaid : Prop := compareSortsRow.holds Try.pinned (OpenSpec.ofChange compareSortsSpec)

/-- ITS FALSE NEIGHBOUR: 'it returns false'. Refute it at one input. -/
def compareSortsWrong : ChangeSpec := { name := "compareSorts", fn := fun _ => fun
  | [d1, d2, d3] => { results := [.lit (.bool false)], args := [d1, d2, d3] }
  | _ => none }
def CompareSortsWrongFalsely : Prop := compareSortsRow.holds Try.pinned (OpenSpec.ofChange compareSortsWrong)

/- THE SECOND FORM. 'bulk': how many values and letters a reading holds, each counted each time it is reached (what is shared counts as often as it is met; a slice's spare places count too). A statement '..UptoSaid' is the law's where the arguments, and the package variables that the reading takes, are together of bulk at most 1048576: NARROWER than '..Said'. Prove '..Said' where nothing that the law and all that it calls make is longer than what came in: it says more and counts as full. Else prove '..UptoSaid'. A law counts once. -/
mutual
def uptoBulk {H : Type} : DataW H → Nat
  | .lit (.string bytes) => bytes.length + 1
  | .lit _ => 1
  | .nil => 1
  | .ptr d => uptoBulk d + 1
  | .slice elems spare => uptoBulkAll elems + uptoBulkAll spare + 1
  | .agg parts => uptoBulkAll parts + 1
  | .iface _ d => uptoBulk d + 1
  | .map entries => uptoBulkEntries entries + 1
  | .held _ => 1
def uptoBulkAll {H : Type} : List (DataW H) → Nat
  | [] => 0
  | d :: r => uptoBulk d + uptoBulkAll r
def uptoBulkEntries {H : Type} : List (Lit × DataW H) → Nat
  | [] => 0
  | x :: r => uptoBulkEntry x + uptoBulkEntries r
def uptoBulkEntry {H : Type} : Lit × DataW H → Nat
  | (.string bytes, d) => bytes.length + uptoBulk d + 1
  | (_, d) => uptoBulk d + 1
 end
def uptoSmall : (H : Type) → List (DataW H) → Bool := fun _ ds => decide (uptoBulkAll ds ≤ 1048576)
def OpenSpec.upto (s : _root_.Go.ChangeSpec) : _root_.Go.OpenSpec := { _root_.Go.OpenSpec.ofChange s with cond := some uptoSmall }

/-- 'dragnetlaw08.ComparePure', WHERE WHAT IT READS IS OF BULK AT MOST 1048576: true; the input reads as it did. -/
def comparePureUptoRow : OpenClaim := { program := "ytalnhbjpfnodiaa", sum := "bf1f71cabe40ca950c37089dc5a72cf1192a80e057297a573cac2d13bd2b707f", func := "dragnet/dragnetlaw08.ComparePure", spec := "comparePure", unfollowed := true, recurses := true, apart := false, narrowed := true }
def ComparePureUptoSaid : Prop := comparePureUptoRow.holds Try.pinned (OpenSpec.upto comparePureSpec)

/-- 'dragnetlaw08.CompareCalls', WHERE WHAT IT READS IS OF BULK AT MOST 1048576: true; the input reads as it did. -/
def compareCallsUptoRow : OpenClaim := { program := "ytalnhbjpfnodiaa", sum := "bf1f71cabe40ca950c37089dc5a72cf1192a80e057297a573cac2d13bd2b707f", func := "dragnet/dragnetlaw08.CompareCalls", spec := "compareCalls", unfollowed := true, recurses := true, apart := false, narrowed := true }
def CompareCallsUptoSaid : Prop := compareCallsUptoRow.holds Try.pinned (OpenSpec.upto compareCallsSpec)

/-- 'dragnetlaw08.CompareOrders', WHERE WHAT IT READS IS OF BULK AT MOST 1048576: true; the input reads as it did. -/
def compareOrdersUptoRow : OpenClaim := { program := "ytalnhbjpfnodiaa", sum := "bf1f71cabe40ca950c37089dc5a72cf1192a80e057297a573cac2d13bd2b707f", func := "dragnet/dragnetlaw08.CompareOrders", spec := "compareOrders", unfollowed := true, recurses := true, apart := false, narrowed := true }
def CompareOrdersUptoSaid : Prop := compareOrdersUptoRow.holds Try.pinned (OpenSpec.upto compareOrdersSpec)

/-- 'dragnetlaw08.CompareRows', WHERE WHAT IT READS IS OF BULK AT MOST 1048576: true; the input reads as it did. -/
def compareRowsUptoRow : OpenClaim := { program := "ytalnhbjpfnodiaa", sum := "bf1f71cabe40ca950c37089dc5a72cf1192a80e057297a573cac2d13bd2b707f", func := "dragnet/dragnetlaw08.CompareRows", spec := "compareRows", unfollowed := true, recurses := true, apart := false, narrowed := true }
def CompareRowsUptoSaid : Prop := compareRowsUptoRow.holds Try.pinned (OpenSpec.upto compareRowsSpec)

/-- 'dragnetlaw08.CompareBlind', WHERE WHAT IT READS IS OF BULK AT MOST 1048576: true; the input reads as it did. -/
def compareBlindUptoRow : OpenClaim := { program := "ytalnhbjpfnodiaa", sum := "bf1f71cabe40ca950c37089dc5a72cf1192a80e057297a573cac2d13bd2b707f", func := "dragnet/dragnetlaw08.CompareBlind", spec := "compareBlind", unfollowed := true, recurses := true, apart := false, narrowed := true }
def CompareBlindUptoSaid : Prop := compareBlindUptoRow.holds Try.pinned (OpenSpec.upto compareBlindSpec)

/-- 'dragnetlaw08.CompareSorts', WHERE WHAT IT READS IS OF BULK AT MOST 1048576: true; the input reads as it did. -/
def compareSortsUptoRow : OpenClaim := { program := "ytalnhbjpfnodiaa", sum := "bf1f71cabe40ca950c37089dc5a72cf1192a80e057297a573cac2d13bd2b707f", func := "dragnet/dragnetlaw08.CompareSorts", spec := "compareSorts", unfollowed := true, recurses := true, apart := false, narrowed := true }
def CompareSortsUptoSaid : Prop := compareSortsUptoRow.holds Try.pinned (OpenSpec.upto compareSortsSpec)

end Rows
end Go.Proofs.Ytalnhbjpfnodiaa
