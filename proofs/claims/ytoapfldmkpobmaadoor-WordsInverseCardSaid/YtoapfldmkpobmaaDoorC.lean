/- Layer 1: contracts of the reference's Name, decimal, Int and Digits. -/
import Derived.Test.YtoapfldmkpobmaaDoorB
import Derived.Deep.RegionWith
import Derived.Deep.DeepCutAuto
namespace Go.Proofs.YtoapfldmkpobmaaDoor
open Go.RowKit
def TFact (s t : ByteArray) : Prop := t.size ≤ 2 ^ 63 - 1 ∧ intForm s.data.toList = natL t.data.toList ∧ ∃ h : 0 < t.size, ¬ (t[0].toNat : Int) = 48
end Go.Proofs.YtoapfldmkpobmaaDoor
