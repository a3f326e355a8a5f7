/- What MasksBlind's drawn regions keep. -/
import Derived.Test.YtjckkohmgalabaaZv
namespace Go.Proofs.Ytjckkohmgalabaa
open Go.RowKit
theorem cq_alloc {W : World} {B m : Nat} {x y k : Int} (h : W.heap[B]? = some (cqO m x y k)) (o : Obj) : (W.alloc o).heap[B]? = some (cqO m x y k) :=
  (Below.heap_alloc W o B (Array.getElem?_eq_some_iff.1 h).1).trans h
theorem any_alloc {W : World} {B : Nat} {o' : Obj} (h : W.heap[B]? = some o') (o : Obj) : (W.alloc o).heap[B]? = some o' :=
  (Below.heap_alloc W o B (Array.getElem?_eq_some_iff.1 h).1).trans h
theorem cq_three {W : World} {B m : Nat} {x y k : Int} (h : W.heap[B]? = some (cqO m x y k)) : W.cell? ⟨B, 1, none⟩ = some (.int .i64 x) ∧ W.cell? ⟨B, 2, none⟩ = some (.int .i64 y) ∧ W.cell? ⟨B, 3, none⟩ = some (.int .i64 k) := (cq_cells h).2
theorem ne_new {W : World} {B : Nat} {o : Obj} (h : W.heap[B]? = some o) : B ≠ W.heap.size := by
  have := (Array.getElem?_eq_some_iff.1 h).1
  omega
abbrev set5 (W : World) (B : Nat) (a b c d e : Int) : World := ((((W.setCell ⟨B, 0, none⟩ (.int .i64 a)).setCell ⟨B, 1, none⟩ (.int .i64 b)).setCell ⟨B, 2, none⟩ (.int .i64 c)).setCell ⟨B, 3, none⟩ (.int .i64 d)).setCell ⟨B, 4, none⟩ (.int .i64 e)
theorem set5_other {W : World} {B i : Nat} {a b c d e : Int} (h : i ≠ B) : (set5 W B a b c d e).heap[i]? = W.heap[i]? :=
  (Below.heap_setCell _ _ _ i h).trans ((Below.heap_setCell _ _ _ i h).trans ((Below.heap_setCell _ _ _ i h).trans ((Below.heap_setCell _ _ _ i h).trans (Below.heap_setCell _ _ _ i h))))
abbrev errO (a b c d e : Int) : Obj := .cells #[.int .i64 a, .int .i64 b, .int .i64 c, .int .i64 d, .int .i64 e] 46
theorem set5_same {W : World} {B : Nat} {a b c d e : Int} (h : W.heap[B]? = some (errO 0 0 0 0 0)) : (set5 W B a b c d e).heap[B]? = some (errO a b c d e) :=
  heap_setCell_same _ B 4 _ _ (.int .i64 e) (heap_setCell_same _ B 3 _ _ (.int .i64 d) (heap_setCell_same _ B 2 _ _ (.int .i64 c) (heap_setCell_same _ B 1 _ _ (.int .i64 b) (heap_setCell_same _ B 0 _ _ (.int .i64 a) h))))
theorem set5_size {W : World} {B : Nat} {a b c d e : Int} : (set5 W B a b c d e).heap.size = W.heap.size := by simp [set5, World.setCell]
theorem err_cells {W : World} {B : Nat} {a b c d e : Int} (h : W.heap[B]? = some (errO a b c d e)) : W.cell? ⟨B, 0, none⟩ = some (.int .i64 a) ∧ W.cell? ⟨B, 1, none⟩ = some (.int .i64 b) ∧ W.cell? ⟨B, 2, none⟩ = some (.int .i64 c) ∧ W.cell? ⟨B, 3, none⟩ = some (.int .i64 d) ∧ W.cell? ⟨B, 4, none⟩ = some (.int .i64 e) :=
  ⟨cell_blk h 0, cell_blk h 1, cell_blk h 2, cell_blk h 3, cell_blk h 4⟩
theorem err_free {W : World} {B : Nat} {a b c d e : Int} (h : W.heap[B]? = some (errO a b c d e)) : W.frozen? ⟨B, 0, none⟩ = false ∧ W.frozen? ⟨B, 1, none⟩ = false ∧ W.frozen? ⟨B, 2, none⟩ = false ∧ W.frozen? ⟨B, 3, none⟩ = false ∧ W.frozen? ⟨B, 4, none⟩ = false :=
  ⟨frozen_blk h 0, frozen_blk h 1, frozen_blk h 2, frozen_blk h 3, frozen_blk h 4⟩
section
variable {w0 W : World} {X : Nat → Prop} {N pa pb : Nat} {ta tb : List (Nat × Nat)}
theorem Tw.set5 {B : Nat} {a b c d e : Int} (h : Tw w0 W (fun k => X k ∨ k = B) N pa pb ta tb) (hB : w0.heap.size ≤ B) : Tw w0 (set5 W B a b c d e) (fun k => X k ∨ k = B) N pa pb ta tb := by
  obtain ⟨⟨Fa, Fb, ca, cb, l1, l2, h1, h2, a1, a2⟩, hbel, hx⟩ := h
  have hk : Kept (fun i => i = B) W (Go.Proofs.Ytjckkohmgalabaa.set5 W B a b c d e) := by
    exact ((((((Kept.refl (fun i => i = B) W).setCell (p := ⟨B, 0, none⟩) (.inl rfl) (.int .i64 a)).setCell (p := ⟨B, 1, none⟩) (.inl rfl) (.int .i64 b)).setCell (p := ⟨B, 2, none⟩) (.inl rfl) (.int .i64 c)).setCell (p := ⟨B, 3, none⟩) (.inl rfl) (.int .i64 d)).setCell (p := ⟨B, 4, none⟩) (.inl rfl) (.int .i64 e))
  have hb5 : Below w0.heap.size w0 (Go.Proofs.Ytjckkohmgalabaa.set5 W B a b c d e) := hbel.trans (hk.below hbel.size fun i hi => by rw [hi]; exact hB)
  exact ⟨⟨Fa, Fb, ca, cb, l1, l2, h1, h2, a1.kept hk fun i hi e => (h1 i hi).2.1 (.inr e), a2.kept hk fun i hi e => (h2 i hi).2.1 (.inr e)⟩, hb5, fun k hk2 => by rw [set5_size]; exact hx k hk2⟩
end
/-- What stands behind a region of five calls: the arenas, the call's copy in block B, the five errors in a new block. -/
def FiP (w0 : World) (X : Nat → Prop) (N pa pb : Nat) (ta tb : List (Nat × Nat)) (B m : Nat) (x y k a b c d e : Int) (s : Value) (W : World) : Prop :=
  ∃ G, s = .pointer (some ⟨G, 0, none⟩) ∧ Tw w0 W (fun k => X k ∨ k = G) N pa pb ta tb ∧ W.heap[B]? = some (cqO m x y k) ∧ W.heap[G]? = some (errO a b c d e)
theorem fi_last {w0 W : World} {X : Nat → Prop} {N pa pb : Nat} {ta tb : List (Nat × Nat)} {B m : Nat} {x y k a b c d e : Int} (h : Tw w0 W X N pa pb ta tb) (hB : W.heap[B]? = some (cqO m x y k)) : FiP w0 X N pa pb ta tb B m x y k a b c d e (.pointer (some ⟨W.heap.size, 0, none⟩)) (W.alloc (errO a b c d e)) :=
  ⟨_, rfl, h.fresh _, cq_alloc hB _, heap_alloc_new _ _⟩
theorem fi_set {w0 W : World} {X : Nat → Prop} {N pa pb : Nat} {ta tb : List (Nat × Nat)} {B G m : Nat} {x y k a b c d e : Int} (h : Tw w0 W (fun k => X k ∨ k = G) N pa pb ta tb) (hG : w0.heap.size ≤ G) (hB : W.heap[B]? = some (cqO m x y k)) (hn : B ≠ G) (hz : W.heap[G]? = some (errO 0 0 0 0 0)) : FiP w0 X N pa pb ta tb B m x y k a b c d e (.pointer (some ⟨G, 0, none⟩)) (set5 W G a b c d e) :=
  ⟨_, rfl, h.set5 hG, (set5_other hn).trans hB, set5_same hz⟩
end Go.Proofs.Ytjckkohmgalabaa
