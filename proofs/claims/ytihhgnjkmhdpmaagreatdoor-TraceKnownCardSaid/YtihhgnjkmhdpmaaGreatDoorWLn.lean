/- Layer 1: the reference's Lines. -/
import Derived.Test.YtihhgnjkmhdpmaaGreatDoorWB
import Derived.Test.YtihhgnjkmhdpmaaGreatDoorWp
import Derived.Test.YtihhgnjkmhdpmaaGreatDoorWy
import Derived.Test.YtihhgnjkmhdpmaaGreatDoorWn
import Derived.Test.YtihhgnjkmhdpmaaGreatDoorShelf
namespace Go.Proofs.YtihhgnjkmhdpmaaGreatDoor.W
open Go.RowKit
/-- The lines that end below place i, and where the next one begins. -/
def cutS (s : ByteArray) : Nat → List ByteArray × Nat
  | 0 => ([], 0)
  | i + 1 => if s.data.toList.getD i 0 = 10 then ((cutS s i).1 ++ [s.extract (cutS s i).2 i], i + 1) else cutS s i
theorem cutS_le (s : ByteArray) : ∀ i, (cutS s i).2 ≤ i
  | 0 => Nat.le_refl _
  | i + 1 => by unfold cutS; split; exact Nat.le_refl _; exact Nat.le_trans (cutS_le s i) (Nat.le_succ i)
theorem cutS_len (s : ByteArray) : ∀ i, (cutS s i).1.length ≤ i
  | 0 => Nat.le_refl _
  | i + 1 => by
    have := cutS_len s i
    unfold cutS; split
    · simp; omega
    · omega
def linE (s : ByteArray) : Int := if 1048576 < s.size then 3 else if s.size = 0 then 0 else if s.data.toList.getD (s.size - 1) 0 ≠ 10 then 6 else if 5000 < (cutS s s.size).1.length then 3 else 0
def linR (s : ByteArray) : List ByteArray := if linE s = 0 then (cutS s s.size).1 else []
/-- A slice of strings in memory. -/
def SSl (W : World) (v : Value) (xs : List ByteArray) : Prop :=
  ∃ p c, v = .slice p xs.length c ∧ ∀ i x, xs[i]? = some x → ∃ b o, p = some ⟨b, o, none⟩ ∧ W.cell? ⟨b, o + i, none⟩ = some (.string x)
theorem SSl.nil (W : World) : SSl W (.slice none 0 0) [] := ⟨none, 0, rfl, fun i x h => by simp at h⟩
def LnPost (w : World) (s : ByteArray) (e : Ending) (w' : World) : Prop := ∃ v, e = .returned (.tuple #[v, .int .i64 (linE s)]) ∧ SSl w' v (linR s) ∧ Below w.heap.size w w'
theorem SSl.of_own {w : World} {base : Nat} {v : Value} {xs : List ByteArray} (h : w.ownsRow base 9 1 v xs.length (xs.map Value.string)) : SSl w v xs := by
  have hc := fun g (hg : v.ownBlock = some g) => h.cells (g := g) hg
  rcases h.2 with ⟨rfl, h0⟩ | ⟨g, cap, cur, rfl, hb, hgg, hcap, _⟩
  · refine ⟨none, 0, by rw [h0], fun i x hx => ?_⟩
    rw [List.eq_nil_of_length_eq_zero h0] at hx; simp at hx
  · refine ⟨_, cap, rfl, fun i x hx => ⟨g, 0, rfl, ?_⟩⟩
    have h1 := hc g rfl i (.string x) (by rw [List.getElem?_map, hx]; rfl)
    have ad : ∀ j, w.cell? ((⟨g, 0, none⟩ : Addr).add j) = w.cell? ⟨g, 0 + j, none⟩ := fun j => by cases j <;> simp [Addr.add]
    rw [ad] at h1
    exact h1
end Go.Proofs.YtihhgnjkmhdpmaaGreatDoor.W
