/- Layer 3: isMark, isPlain, appendByte. -/
import Derived.Test.YtnpfdnpklopnkaaCK
import Derived.Maps.AppendAt
import Derived.Deep.RegionLaw
import Derived.Lib.BufferRead
import Derived.Lib.IndexBytes
import Derived.Laws.IdiomStrings
namespace Go.Proofs.Ytnpfdnpklopnkaa
open Go.RowKit
def u8v (c : UInt8) : Value := .int .u8 c.toNat
theorem u8v_one (l : List UInt8) : ∀ v ∈ l.map u8v, v.oneCell' = true := by
  intro v hv; obtain ⟨c, _, rfl⟩ := List.mem_map.1 hv; rfl
theorem ofNat_lt {c : Nat} (h : c < 256) : (UInt8.ofNat c).toNat = c := by simp; omega
/-- Every block of cells that are no bytes is as it was. -/
def KeepT (W W' : World) : Prop := ∀ (k : Nat) (cs : Array Value) (t : TypeId) (fr : Nat × Nat), t ≠ 5 → W.heap[k]? = some (Obj.cells cs t fr) → W'.heap[k]? = some (Obj.cells cs t fr)
theorem KeepT.refl (W : World) : KeepT W W := fun _ _ _ _ _ h => h
theorem KeepT.trans {A B C : World} (h : KeepT A B) (k : KeepT B C) : KeepT A C := fun i cs t fr ht hi => k i cs t fr ht (h i cs t fr ht hi)
theorem KeepT.below {W W' : World} (h : Below W.heap.size W W') : KeepT W W' := fun k _ _ _ _ hk => (h.block k (Array.getElem?_eq_some_iff.1 hk).1).trans hk
theorem app_keep {B n size : Nat} {v : Value} {xs : List Value} {w w' : World} {o : Obj} (hown : w.ownsRow B 5 size v n xs) (h2 : (w.alloc o).grownBy w' v.ownBlock) : KeepT w w' := by
  intro k cs t fr ht hk
  have hlt := (Array.getElem?_eq_some_iff.1 hk).1
  refine (h2.block k (by simp; omega) ?_).trans ((Below.heap_alloc w o k hlt).trans hk)
  rcases hown.2 with ⟨rfl, _⟩ | ⟨g, cap, cur, rfl, _, hgb, _⟩
  · simp [Value.ownBlock]
  · intro e'
    obtain rfl : k = g := by simpa [Value.ownBlock] using e'
    rw [hk] at hgb; cases hgb; exact ht rfl
end Go.Proofs.Ytnpfdnpklopnkaa
