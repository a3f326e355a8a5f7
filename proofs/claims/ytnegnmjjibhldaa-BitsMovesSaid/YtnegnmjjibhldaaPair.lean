/- Layer 2: an array of two Booleans that came in, opened. -/
import Derived.Test.YtnegnmjjibhldaaY
namespace Go.Proofs.Ytnegnmjjibhldaa
open Go.ChangeShapes Go.WideShapes Go.ChangeAt Go.ChangeMaps Go.RowKit
theorem list2 {α : Type} (l : List α) (h : (⟨l⟩ : Array α).size = 2) : ∃ a b, l = [a, b] := by
  match l, h with
  | [a, b], _ => exact ⟨a, b, rfl⟩
theorem open_pair {H : Type} {enc : TypeId × Value → H} {W : World} {r : Reach} {b0 fuel : Nat} {v : Value} {d : DataW H} {ps : List MemPlace} (hval : Value.okWide Try.prog W r b0 46 v)
    (h : DataW.trod enc Try.prog W 0 (fun _ => true) true fuel 46 v.cells.toList = some (d, ps)) : ∃ a b, v = .agg #[.bool a, .bool b] := by
  obtain ⟨cs, rfl, hsz, _⟩ : ∃ cs, v = .agg cs ∧ cs.size = Try.prog.cellsOf 46 ∧ Row.okWide Try.prog W r b0 46 cs := by
    simpa [Value.okWide, Try.underlying46] using hval
  rw [show Try.prog.cellsOf 46 = 2 by kernel_rfl] at hsz
  obtain ⟨l⟩ := cs
  obtain ⟨c0, c1, rfl⟩ := list2 l hsz
  obtain ⟨xs, m, _, _, _, hl, hel⟩ := DataW.trod_array Try.underlying46 h
  rw [show Try.prog.cellsOf 4 = 1 by kernel_rfl] at hel
  match xs, hl, hel with
  | [x0, x1], _, hel =>
    obtain ⟨a, e0, _⟩ := DataW.trod_bool Try.underlying4 (show DataW.trod enc Try.prog W 0 _ true m 4 _ = some x0 from hel 0 (by omega))
    obtain ⟨b, e1, _⟩ := DataW.trod_bool Try.underlying4 (show DataW.trod enc Try.prog W 0 _ true m 4 _ = some x1 from hel 1 (by omega))
    simp [Value.cells] at e0 e1
    exact ⟨a, b, by rw [e0, e1]⟩
end Go.Proofs.Ytnegnmjjibhldaa
