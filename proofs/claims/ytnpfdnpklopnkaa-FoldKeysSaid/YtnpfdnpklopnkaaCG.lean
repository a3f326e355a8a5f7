/- Layer 3: Add, Drop; the reference's Of, Union, Minus, Meet, All, Not, Sub. -/
import Derived.Test.YtnpfdnpklopnkaaCF
import Derived.Deep.RegionHeld3
namespace Go.Proofs.Ytnpfdnpklopnkaa
open Go.RowKit
attribute [local go_sem] eq4 guard4
/-- The four cells of a set. -/
def Four (W : World) (B : Nat) (p : Nat → Bool) : Prop := W.cell? ⟨B, 0, none⟩ = some (wv p 0) ∧ W.cell? ⟨B, 1, none⟩ = some (wv p 1) ∧ W.cell? ⟨B, 2, none⟩ = some (wv p 2) ∧ W.cell? ⟨B, 3, none⟩ = some (wv p 3)
theorem SA.four {W : World} {B : Nat} {p : Nat → Bool} (h : SA W B p) : W.cell? ⟨B, 0, none⟩ = some (wv p 0) ∧ W.cell? ⟨B, 1, none⟩ = some (wv p 1) ∧ W.cell? ⟨B, 2, none⟩ = some (wv p 2) ∧ W.cell? ⟨B, 3, none⟩ = some (wv p 3) :=
  ⟨cell_of_row W B 0 _ _ _ h, cell_of_row W B 1 _ _ _ h, cell_of_row W B 2 _ _ _ h, cell_of_row W B 3 _ _ _ h⟩
theorem SA.store {W : World} {B : Nat} {p : Nat → Bool} (h : SA W B p) (q : Nat → Bool) : (storeCells ⟨B, 0, none⟩ (sc q).toList 0).run Try.prog W = .ok () (W.setRow B (sc q)) := by
  have := run_storeVar_row (P := Try.prog) W B 26 26 (sc p) (sc q) h (by kernel_rfl) rfl (sc_one q)
  have hi : (Try.prog.info? 26).map (·.size) = some 4 := by kernel_rfl
  cases hq : Try.prog.info? 26 with
  | none => simp [hq] at hi
  | some i =>
    have hs : i.size = 4 := by simpa [hq] using hi
    simpa [storeVar, sizeOf, typeInfo, hq, Value.cells, hs, sc_size] using this
theorem SA.setRow {W : World} {B : Nat} {p : Nat → Bool} (h : SA W B p) (q : Nat → Bool) : SA (W.setRow B (sc q)) B q := setRow_heap W B _ _ _ _ h
theorem BR.one (W : World) (c : Nat) (hc : c < 256) : BR (W.alloc (.cells #[.int .u8 (c : Int)] 5)) (.slice (some ⟨W.heap.size, 0, none⟩) 1 1) [c] :=
  ⟨_, 1, rfl, Nat.le_refl _, fun i x hi => by
    cases i with
    | zero =>
      simp at hi; subst hi
      exact ⟨hc, _, _, rfl, by rw [cell_of_row _ _ _ _ _ _ (heap_alloc_new _ _)]; rfl⟩
    | succ i => simp at hi⟩
end Go.Proofs.Ytnpfdnpklopnkaa
