/- Cut of both; rows of steps that a call made; SameEvents. -/
import Derived.Test.YtihhgnjkmhdpmaaGreatDoorC
import Derived.OwnWalkIn
import Derived.Maps.AppendAt
namespace Go.Proofs.YtihhgnjkmhdpmaaGreatDoor
open Go.RowKit
attribute [local go_sem] guardEv
/-- The cells of steps. -/
def flat (l : List Ev) : List Value := l.flatMap fun x => [.int .i32 x.1, .int .i32 x.2]
theorem flat_len : ∀ l : List Ev, (flat l).length = l.length * 2
  | [] => rfl
  | x :: r => by unfold flat; rw [List.flatMap_cons, List.length_append]; have := flat_len r; unfold flat at this; rw [this]; simp; omega
theorem flat_app (a b : List Ev) : flat (a ++ b) = flat a ++ flat b := by unfold flat; rw [List.flatMap_append]
theorem flat_one : ∀ (l : List Ev), ∀ u ∈ flat l, u.oneCell' = true
  | l, u, h => by
    obtain ⟨x, _, hx⟩ := List.mem_flatMap.1 h
    simp at hx
    rcases hx with rfl | rfl <;> rfl
theorem flat_at : ∀ {l : List Ev} {i : Nat} {x : Ev}, l[i]? = some x → (flat l)[i * 2]? = some (.int .i32 x.1) ∧ (flat l)[i * 2 + 1]? = some (.int .i32 x.2)
  | [], _, _, h => by simp at h
  | y :: r, 0, x, h => by
    simp at h; subst h
    unfold flat; simp
  | y :: r, i + 1, x, h => by
    simp only [List.getElem?_cons_succ] at h
    have ih := flat_at h
    have e : flat (y :: r) = .int .i32 y.1 :: .int .i32 y.2 :: flat r := rfl
    rw [e, show (i + 1) * 2 = i * 2 + 1 + 1 by omega, List.getElem?_cons_succ, List.getElem?_cons_succ, List.getElem?_cons_succ, List.getElem?_cons_succ]
    exact ih
/-- A row of steps that a call made, from block B on. -/
def OwT (W : World) (B : Nat) (v : Value) (l : List Ev) : Prop := W.ownsRow B 39 2 v l.length (flat l)
theorem OwT.tr {W : World} {B : Nat} {v : Value} {l : List Ev} (h : OwT W B v l) (ho : ∀ x ∈ l, okE x) : TR W v l := by
  have hlt := World.ownsRow.lt h
  refine ⟨ho, ?_⟩
  rcases h.2 with ⟨rfl, h0⟩ | ⟨g, cap, cur, rfl, _, hgb, hn, _⟩
  · have : l = [] := List.eq_nil_of_length_eq_zero (by simpa using h0)
    subst this
    exact ⟨none, 0, rfl, Nat.le_refl _, fun i x hx => by simp at hx⟩
  · refine ⟨_, cap, rfl, hn, fun i x hi => ⟨g, 0, rfl, (hlt g rfl).2, ?_⟩⟩
    have hil := (List.getElem?_eq_some_iff.1 hi).1
    have hf := flat_at hi
    have c1 := World.ownsRow.cellAt h (i * 2) (by have := flat_len l; omega)
    have c2 := World.ownsRow.cellAt h (i * 2 + 1) (by have := flat_len l; omega)
    rw [Nat.zero_add]
    exact ⟨c1.trans hf.1, c2.trans hf.2⟩
theorem info_ev : (Tryz.prog.info? 39).map (fun i => (i.zero, i.size, i.bytes)) = some (some (.agg #[.int .i32 0, .int .i32 0]), 2, 8) := by kernel_rfl
/-- What Cut returns. -/
def cutE (l : List Ev) (a b : Int) : Int := if a < 0 ∨ b < a ∨ (l.length : Int) < b then 7 else 0
def cutL (l : List Ev) (a b : Int) : List Ev := if cutE l a b = 0 then (l.drop a.toNat).take (b.toNat - a.toNat) else []
def CuPost (w : World) (r : List Ev) (e : Int) (x : Ending) (w' : World) : Prop := ∃ v, x = .returned (.tuple #[v, .int .i64 e]) ∧ TR w' v r ∧ Below w.heap.size w w'
theorem cutL_ok {l : List Ev} (h : ∀ x ∈ l, okE x) (a b : Int) : ∀ x ∈ cutL l a b, okE x := by
  intro x hx
  unfold cutL at hx
  split at hx
  · exact h x (List.mem_of_mem_drop (List.mem_of_mem_take hx))
  · cases hx
theorem addr_none2 (b o i : Nat) : (⟨b, o, none⟩ : Addr).add i = ⟨b, o + i, none⟩ := by cases i <;> simp [Addr.add]
theorem flat_cells {W : World} {b o : Nat} {l : List Ev} (h : ∀ i x, l[i]? = some x → W.cell? ⟨b, o + i * 2, none⟩ = some (.int .i32 x.1) ∧ W.cell? ⟨b, o + i * 2 + 1, none⟩ = some (.int .i32 x.2)) : ∀ j u, (flat l)[j]? = some u → W.cell? ((⟨b, o, none⟩ : Addr).add j) = some u := by
  intro j u hu
  rw [addr_none2]
  have hj := (List.getElem?_eq_some_iff.1 hu).1
  rw [flat_len] at hj
  have hx : l[j / 2]? = some l[j / 2] := List.getElem?_eq_getElem (by omega)
  obtain ⟨f1, f2⟩ := flat_at hx
  obtain ⟨h1, h2⟩ := h _ _ hx
  rcases Nat.mod_two_eq_zero_or_one j with e | e
  · rw [show j / 2 * 2 = j by omega] at f1 h1
    rw [f1] at hu; cases hu; exact h1
  · rw [show j / 2 * 2 + 1 = j by omega] at f2
    rw [show o + j / 2 * 2 + 1 = o + j by omega] at h2
    rw [f2] at hu; cases hu; exact h2
theorem cut_at {l : List Ev} {i j k : Nat} {x : Ev} (h : ((l.drop i).take (j - i))[k]? = some x) : l[i + k]? = some x := by
  rw [List.getElem?_take] at h
  split at h
  · rwa [List.getElem?_drop] at h
  · cases h
theorem TR.nils (W : World) (p : Option Addr) (c : Nat) : TR W (.slice p 0 c) [] := ⟨by simp, p, c, rfl, Nat.zero_le _, fun i x h => by simp at h⟩
end Go.Proofs.YtihhgnjkmhdpmaaGreatDoor
