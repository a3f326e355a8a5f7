/- far; ArenaKeeps. -/
import Derived.Test.YtjckkohmgalabaaN
import Derived.Deep.Cut
namespace Go.Proofs.Ytjckkohmgalabaa
open Go.RowKit
/-- The row 'last'. -/
def LR (W : World) (g : Nat) (cs : List Nat) : Prop := W.rowIs g 22 cs.length (fun i => u64v (cs.getD i 0))
theorem LR.urow {W : World} {g n : Nat} {cs : List Nat} (h : LR W g cs) (hn : cs.length = n) : URow W (.slice (some ⟨g, 0, none⟩) n n) cs := by
  subst hn
  exact ⟨_, _, rfl, Nat.le_refl _, fun i x hi => ⟨g, 0, rfl, by
    have hin := (List.getElem?_eq_some_iff.1 hi).1
    rw [Nat.zero_add, World.rowIs.cell h hin, List.getD_eq_getElem?_getD, hi]; rfl⟩⟩
theorem LR.set {W : World} {g : Nat} {cs : List Nat} (h : LR W g cs) (a v : Nat) (ha : a < cs.length) : LR (W.setCell ⟨g, a, none⟩ (.int .u64 (v : Int))) g (cs.set a v) := by
  unfold LR
  rw [List.length_set]
  refine (World.rowIs.set h a _).congr fun i hi => ?_
  by_cases e : i = a
  · subst e
    rw [if_pos rfl, List.getD_eq_getElem?_getD, List.getElem?_set_self (by simpa using hi)]; rfl
  · rw [if_neg e, List.getD_eq_getElem?_getD, List.getD_eq_getElem?_getD, List.getElem?_set_ne (Ne.symm e)]
theorem ow_cells' {w0 W : World} {R : Nat → Prop} {p n : Nat} {cs : List Nat} {rs : List Rg} {tr : List (Nat × Nat)} (h : Ow w0 W R p cs rs tr) (hn : cs.length = n) : Calls Try.prog 30 #[.pointer (some ⟨p, 0, none⟩)] W fun e w' => ∃ g c, e = .returned (.slice (some ⟨g, 0, none⟩) n c) ∧ URow w' (.slice (some ⟨g, 0, none⟩) n c) cs ∧ Below W.heap.size W w' := by
  subst hn
  refine (ow_cells h).mono ?_
  rintro e w' ⟨g, c, rfl, _, ho, hb⟩
  exact ⟨g, c, rfl, ho.row, hb⟩
theorem URow.below' {w w' : World} {v : Value} {xs : List Nat} (h : URow w v xs) (hb : Below w.heap.size w w') : URow w' v xs := h.below hb
theorem LR.below {w w' : World} {g : Nat} {cs : List Nat} (h : LR w g cs) (hb : Below w.heap.size w w') : LR w' g cs := World.rowIs.of_block h (hb.block g (World.rowIs.lt h))
end Go.Proofs.Ytjckkohmgalabaa
