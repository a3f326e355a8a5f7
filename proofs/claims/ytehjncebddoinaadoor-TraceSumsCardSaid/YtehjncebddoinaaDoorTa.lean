/- What the laws begin with. -/
import Derived.Test.YtehjncebddoinaaDoorS
namespace Go.Proofs.YtehjncebddoinaaDoor
open Go.RowKit
theorem TR.len {W : World} {v : Value} {l : List Ev} (h : TR W v l) : ∃ p c, v = .slice p l.length c := by
  obtain ⟨_, p, c, e, _⟩ := h; exact ⟨p, c, e⟩
theorem or_false2 {a b : Bool} (h : ¬ (a || b) = true) : a = false ∧ b = false := by cases a <;> cases b <;> simp_all
/-- What the law begins with, of one trace. -/
theorem far_tr {W : World} {v : Value} {l : List Ev} (h : TR W v l) : Calls Tryd.prog 8 #[v] W fun e w' => e = .returned (.bool (farB l.length)) ∧ W = w' := by
  obtain ⟨p, c, rfl⟩ := h.len
  exact far_any p _ c W
end Go.Proofs.YtehjncebddoinaaDoor
