/- Layer 1: the reference's escaped and Quote. -/
import Derived.Test.YtoapfldmkpobmaaGreatDoorK
import Derived.Test.YtoapfldmkpobmaaGreatDoorE
import Derived.Lib.AppendStr
namespace Go.Proofs.YtoapfldmkpobmaaGreatDoor
open Go.RowKit
theorem two_bytes (w : World) (l : List UInt8) : (convert 66 9 (.slice (some ⟨w.heap.size, 0, none⟩) l.length l.length)).run Tryz.prog (w.alloc (.cells (l.map u8v).toArray 5)) =
    .ok (.string ⟨l.toArray⟩) (w.alloc (.cells (l.map u8v).toArray 5)) :=
  run_convert_bytes_back (P := Tryz.prog) _ 66 9 5 ⟨w.heap.size, 0, none⟩ l.length l Tryz.underlying66 Tryz.underlying5 Tryz.underlying9 (fun j hj => new_cells w l j _ (by simp [hj]; rfl))
def EscPost (w : World) (c : UInt8) (e : Ending) (w' : World) : Prop := e = .returned (.string ⟨(escL c).toArray⟩) ∧ Below w.heap.size w w'
theorem escPost {w w' : World} {c : UInt8} {l : List UInt8} (h : escL c = l) (hb : Below w.heap.size w w') : EscPost w c (.returned (.string ⟨l.toArray⟩)) w' := ⟨by rw [h], hb⟩
end Go.Proofs.YtoapfldmkpobmaaGreatDoor
