/- Layer 1: the reference's escaped and Quote. -/
import Derived.Test.YtoapfldmkpobmaaDoorK
import Derived.Test.YtoapfldmkpobmaaDoorE
import Derived.Lib.AppendStr
namespace Go.Proofs.YtoapfldmkpobmaaDoor
open Go.RowKit
theorem two_bytes (w : World) (l : List UInt8) : (convert 50 9 (.slice (some ⟨w.heap.size, 0, none⟩) l.length l.length)).run Tryd.prog (w.alloc (.cells (l.map u8v).toArray 5)) =
    .ok (.string ⟨l.toArray⟩) (w.alloc (.cells (l.map u8v).toArray 5)) :=
  run_convert_bytes_back (P := Tryd.prog) _ 50 9 5 ⟨w.heap.size, 0, none⟩ l.length l Tryd.underlying50 Tryd.underlying5 Tryd.underlying9 (fun j hj => new_cells w l j _ (by simp [hj]; rfl))
def EscPost (w : World) (c : UInt8) (e : Ending) (w' : World) : Prop := e = .returned (.string ⟨(escL c).toArray⟩) ∧ Below w.heap.size w w'
theorem escPost {w w' : World} {c : UInt8} {l : List UInt8} (h : escL c = l) (hb : Below w.heap.size w w') : EscPost w c (.returned (.string ⟨l.toArray⟩)) w' := ⟨by rw [h], hb⟩
end Go.Proofs.YtoapfldmkpobmaaDoor
