/- Regions read: fresh, is, end, index. -/
import Derived.Test.YtjckkohmgalabaaH
namespace Go.Proofs.Ytjckkohmgalabaa
open Go.RowKit
def nameEq (r : Rg) (s : ByteArray) : Bool := r.name.toList == s.toList
theorem two_new0 (w : World) (c d : Obj) : ((w.alloc c).alloc d).heap[w.heap.size]? = some c := (fresh_lt (by simp) _).trans (heap_alloc_new _ _)
theorem two_new1 (w : World) (c d : Obj) : ((w.alloc c).alloc d).heap[w.heap.size + 1]? = some d := by
  have := heap_alloc_new (w.alloc c) d
  simpa using this
theorem rflat_get (rs : List Rg) : ∀ i r, rs[i]? = some r → (rs.flatMap rcells)[i * 3]? = some (.string r.name) ∧ (rs.flatMap rcells)[i * 3 + 1]? = some (.int .i64 (r.base : Int)) ∧ (rs.flatMap rcells)[i * 3 + 2]? = some (.int .i64 (r.size : Int)) := by
  induction rs with
  | nil => intro i r h; simp at h
  | cons q rs ih =>
    intro i r h
    cases i with
    | zero => simp at h; subst h; exact ⟨rfl, rfl, rfl⟩
    | succ i =>
      have := ih i r (by simpa using h)
      rw [List.flatMap_cons, show (i + 1) * 3 = (rcells q).length + i * 3 by simp [rcells]; omega, Nat.add_assoc, Nat.add_assoc, List.getElem?_append_right (by omega), List.getElem?_append_right (by omega), List.getElem?_append_right (by omega), Nat.add_sub_cancel_left, Nat.add_sub_cancel_left, Nat.add_sub_cancel_left]
      exact this
theorem own_reg {w : World} {q : Option Addr} {c : Nat} {rs : List Rg} (h : w.ownsRow 0 120 3 (.slice q rs.length c) rs.length (rs.flatMap rcells)) {i : Nat} {r : Rg} (hr : rs[i]? = some r) :
    ∃ g, q = some ⟨g, 0, none⟩ ∧ w.cell? ⟨g, i * 3, none⟩ = some (.string r.name) ∧ w.cell? ⟨g, i * 3 + 1, none⟩ = some (.int .i64 (r.base : Int)) ∧ w.cell? ⟨g, i * 3 + 2, none⟩ = some (.int .i64 (r.size : Int)) ∧ rs.length ≤ c := by
  have hj := (List.getElem?_eq_some_iff.1 hr).1
  obtain ⟨f0, f1, f2⟩ := rflat_get rs i r hr
  rcases h.2 with ⟨h1, h2⟩ | ⟨g, cap, cur, h1, _, _, h3, _⟩
  · omega
  · cases h1
    exact ⟨g, rfl, (World.ownsRow.cellAt h _ (by omega)).trans f0, (World.ownsRow.cellAt h _ (by omega)).trans f1, (World.ownsRow.cellAt h _ (by omega)).trans f2, h3⟩
/-- The index of the region with a name, or -1. -/
def idxI (rs : List Rg) (s : ByteArray) : Int := match rs.findIdx? (fun r => nameEq r s) with | some i => (i : Int) | none => -1
theorem idxI_some {rs : List Rg} {s : ByteArray} {k : Nat} {r : Rg} (hr : rs[k]? = some r) (h1 : nameEq r s = true) (h2 : ∀ (j : Nat) (q : Rg), j < k → rs[j]? = some q → nameEq q s = false) : idxI rs s = (k : Int) := by
  have hk := (List.getElem?_eq_some_iff.1 hr)
  have : rs.findIdx? (fun r => nameEq r s) = some k := by
    rw [List.findIdx?_eq_some_iff_getElem]
    refine ⟨hk.choose, by rw [hk.choose_spec]; exact h1, fun j hj => ?_⟩
    rw [h2 j _ hj (List.getElem?_eq_getElem (by have := hk.choose; omega))]
    decide
  unfold idxI
  rw [this]
theorem idxI_none {rs : List Rg} {s : ByteArray} (h2 : ∀ (j : Nat) (q : Rg), rs[j]? = some q → nameEq q s = false) : idxI rs s = -1 := by
  have : rs.findIdx? (fun r => nameEq r s) = none := by
    rw [List.findIdx?_eq_none_iff]
    intro x hx
    obtain ⟨j, hj⟩ := List.getElem?_of_mem hx
    exact h2 j x hj
  unfold idxI
  rw [this]
theorem idxI_cases (rs : List Rg) (s : ByteArray) : (idxI rs s = -1 ∧ ∀ r ∈ rs, nameEq r s = false) ∨ (∃ (k : Nat) (r : Rg), idxI rs s = (k : Int) ∧ rs[k]? = some r ∧ nameEq r s = true ∧ ∀ (j : Nat) (q : Rg), j < k → rs[j]? = some q → nameEq q s = false) := by
  cases h : rs.findIdx? (fun r => nameEq r s) with
  | none => exact .inl ⟨by unfold idxI; rw [h], List.findIdx?_eq_none_iff.1 h⟩
  | some k =>
    obtain ⟨h1, h2, h3⟩ := List.findIdx?_eq_some_iff_getElem.1 h
    refine .inr ⟨k, rs[k], by unfold idxI; rw [h], List.getElem?_eq_getElem h1, h2, fun j q hj hq => ?_⟩
    have := h3 j hj
    rw [(List.getElem?_eq_some_iff.1 hq).choose_spec] at this
    simpa using this
end Go.Proofs.Ytjckkohmgalabaa
