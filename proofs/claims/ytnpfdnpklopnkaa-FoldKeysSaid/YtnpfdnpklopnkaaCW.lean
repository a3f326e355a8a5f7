/- Layer 3: the law's closed calls. -/
import Derived.Test.YtnpfdnpklopnkaaCRl
namespace Go.Proofs.Ytnpfdnpklopnkaa
open Go.RowKit
theorem BR.lit (W : World) (xs : List Nat) (fr : Nat × Nat) (hx : ∀ x ∈ xs, x < 256) : BR (W.alloc (.cells (xs.map u8n).toArray 5 fr)) (.slice (some ⟨W.heap.size, 0, none⟩) xs.length xs.length) xs :=
  ⟨_, _, rfl, Nat.le_refl _, fun i x hi => ⟨hx x (List.mem_of_getElem? hi), _, _, rfl, by
    rw [cell_of_row _ _ _ _ _ _ (heap_alloc_new _ _)]
    simp [hi, u8n]⟩⟩
/-- The last block of a heap, turned. -/
theorem modify_last (a : Array Obj) (x : Obj) (f : Obj → Obj) : (a.push x).modify a.size f = a.push (f x) := by
  apply Array.ext_getElem?
  intro i
  rw [Array.getElem?_modify]
  by_cases h : a.size = i
  · subst h; simp
  · rw [if_neg h]
    rcases Nat.lt_or_ge i a.size with hi | hi
    · rw [Array.getElem?_push_lt hi, Array.getElem?_push_lt hi]
    · rw [Array.getElem?_eq_none (by simp; omega), Array.getElem?_eq_none (by simp; omega)]
/-- '[]byte(..)' of a new slice of bytes: the same slice; a mark behind its bytes. -/
theorem conv_new (w : World) (C : Array Value) (n c : Nat) : (convert 49 49 (.slice (some ⟨w.heap.size, 0, none⟩) n c)).run Try.prog (w.alloc (.cells C 5)) = .ok (.slice (some ⟨w.heap.size, 0, none⟩) n c) (w.alloc (.cells C 5 (C.size, C.size + 1))) := by
  have hsh : (w.alloc (.cells C 5)).shape? w.heap.size = some (5, C.size) := by
    unfold World.shape?
    rw [heap_alloc_new]
  have hfr : (w.alloc (.cells C 5)).freeze ⟨w.heap.size, C.size, none⟩ 1 = w.alloc (.cells C 5 (C.size, C.size + 1)) := by
    unfold World.freeze
    rw [if_neg (by decide)]
    show ({ w.alloc (.cells C 5) with heap := (w.heap.push (.cells C 5)).modify w.heap.size _ } : World) = _
    rw [modify_last]
    rfl
  simp [convert, run_underlying Try.underlying49, run_underlying Try.underlying5, markStringish, hsh]
  exact hfr
end Go.Proofs.Ytnpfdnpklopnkaa
