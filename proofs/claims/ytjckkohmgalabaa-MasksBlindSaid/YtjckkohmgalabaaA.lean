/- Names (program and reference), strings.Clone. -/
import Derived.Test.YtjckkohmgalabaaRows
import Derived.Test.YtjckkohmgalabaaPlain
import Derived.WalkKit
import Derived.WalkSpells
import Derived.WalkLawsBesides
import Derived.Lib.Hide
import Derived.Outline
import Derived.Test.YtjckkohmgalabaaChecked
namespace Go.Proofs.Ytjckkohmgalabaa
open Go.RowKit
theorem ret_int {k : IntKind} {a b : Int} (h : a = b) : Ending.returned (.int k a) = .returned (.int k b) := by rw [h]
theorem ret_bool {a b : Bool} (h : a = b) : Ending.returned (.bool a) = .returned (.bool b) := by rw [h]

end Go.Proofs.Ytjckkohmgalabaa
