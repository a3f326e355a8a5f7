/- Layer 1: the iterator over the fields of a line. -/
import Derived.Test.YtoapfldmkpobmaaGreatDoorN
import Derived.ScopeJumps
import Derived.Shelf.Abstract
import Derived.Shelf.RegionOpen
import Derived.RangeFuncBound
import Derived.RangeFuncCalls
import Derived.OwnWalkIn
import Derived.TacticsInMore
import Derived.LoopNIn
import Derived.LoopIn
namespace Go.Proofs.YtoapfldmkpobmaaGreatDoor
open Go.RowKit Go.Shelf
attribute [local go_sem] Oper.semAt_some
/-- As Q; by a goto to a label: what holds at the jump. -/
def jumpsQ (J : Nat → Act → World → Prop) (Q : Exit → Act → World → Prop) : Exit → Act → World → Prop
  | .goto l, a, w => J l a w
  | e, a, w => Q e a w
/-- A scope of several labels: what holds at every jump to each, and a measure that every pass lowers. -/
theorem wp_scope_labels {P : Program} {a : Act} {w : World} {Q : Exit → Act → World → Prop} {c : Code} (J : Nat → Act → World → Prop) (μ : Nat → Act → World → Nat) (hf : ∀ l a w, J l a w → ∃ rest, findLabel c l = some rest)
    (first : c.wp P (jumpsQ J Q) a w)
    (pass : ∀ l rest a w, findLabel c l = some rest → J l a w → rest.wp P (jumpsQ (fun l' a' w' => J l' a' w' ∧ μ l' a' w' < μ l a w) Q) a w) : (Code.scope c).wp P Q a w := by
  intro b k cs
  have key : ∀ n l rest a w, findLabel c l = some rest → μ l a w = n → J l a w → ∃ e a' w', Q e a' w' ∧ Arrives P (lone (b.at a (.code rest :: .inScope c :: k)) cs w) b k cs e a' w' := by
    intro n
    induction n using Nat.strongRecOn with
    | _ n ih =>
      intro l rest a w hl hn hJ
      obtain ⟨e, a₁, w₁, hq, harr⟩ := pass l rest a w hl hJ b (.inScope c :: k) cs
      cases e with
      | normal => exact ⟨.normal, a₁, w₁, hq, Steps.trans harr (.one step_inScope)⟩
      | exit id => exact ⟨.exit id, a₁, w₁, hq, fun k' hk => harr k' (by simp [exitTo, hk])⟩
      | goto l' =>
        obtain ⟨hJ', hlt⟩ := hq
        obtain ⟨rest', hr'⟩ := hf l' a₁ w₁ hJ'
        obtain ⟨e₂, a₂, w₂, hq₂, harr₂⟩ := ih _ (by omega) l' rest' a₁ w₁ hr' rfl hJ'
        exact ⟨e₂, a₂, w₂, hq₂, .of_steps (harr _ (by simp [gotoIn, hr'])) harr₂⟩
      | ret => exact ⟨_, a₁, w₁, hq, harr⟩
      | panic ch => exact ⟨_, a₁, w₁, hq, harr⟩
      | outgrown => exact ⟨_, a₁, w₁, hq, harr⟩
  obtain ⟨e, a₁, w₁, hq, harr⟩ := first b (.inScope c :: k) cs
  cases e with
  | normal => exact ⟨.normal, a₁, w₁, hq, .head step_scope (Steps.trans harr (.one step_inScope))⟩
  | exit id => exact ⟨.exit id, a₁, w₁, hq, fun k' hk => .head step_scope (harr k' (by simp [exitTo, hk]))⟩
  | goto l' =>
    obtain ⟨rest', hr'⟩ := hf l' a₁ w₁ hq
    obtain ⟨e₂, a₂, w₂, hq₂, harr₂⟩ := key _ l' rest' a₁ w₁ hr' rfl hq
    exact ⟨e₂, a₂, w₂, hq₂, .of_steps (.head step_scope (harr _ (by simp [gotoIn, hr']))) harr₂⟩
  | ret => exact ⟨_, a₁, w₁, hq, .of_steps (.one step_scope) harr⟩
  | panic ch => exact ⟨_, a₁, w₁, hq, .of_steps (.one step_scope) harr⟩
  | outgrown => exact ⟨_, a₁, w₁, hq, .of_steps (.one step_scope) harr⟩

/-! The fields' theory. -/
def fGo (l : List UInt8) : List Item := fSeq (l.length + 1) l
theorem fSeq_more : ∀ (f : Nat) (l : List UInt8), l.length < f → fSeq f l = fGo l := by
  intro f
  induction f using Nat.strongRecOn with
  | _ f ih =>
    intro l hl
    match f, hl with
    | f + 1, hl =>
      unfold fGo
      simp only [fSeq]
      split
      · rfl
      · congr 1
        split
        · rfl
        · have h := fLen_le l
          have hd : (l.drop (fLen l + 1)).length < l.length := by rw [List.length_drop]; omega
          rw [ih f (by omega) _ (by omega), ih l.length (by omega) _ (by omega)]
theorem fGo_eq (l : List UInt8) : fGo l = if fBad l then [⟨[], false, false⟩] else ⟨fStr l, fQuo l, true⟩ :: (if fLen l = l.length then [] else fGo (l.drop (fLen l + 1))) := by
  have : fGo l = fSeq (l.length + 1) l := rfl
  rw [this]
  simp only [fSeq]
  split
  · rfl
  · congr 1
    split
    · rfl
    · have h := fLen_le l
      exact fSeq_more _ _ (by rw [List.length_drop]; omega)
theorem fGo_pos (l : List UInt8) : 1 ≤ (fGo l).length := by
  rw [fGo_eq]; split <;> simp
theorem LW.of_heap {A : Nat} {W W' : World} (h : LW W) (hA : 4 < A ∧ 2 < A ∧ 0 < A ∧ 3 < A) (hs : W.heap.size ≤ W'.heap.size) (hk : ∀ k, k < A → W'.heap[k]? = W.heap[k]?) : LW W' := by
  obtain ⟨a, ⟨tp, p, b⟩, ⟨fr, c⟩, ⟨m, d⟩, e1, e2, e3, e4⟩ := h
  have hb : Below A W { W with heap := W'.heap } := ⟨rfl, rfl, rfl, hs, hk⟩
  have A1 := var?_below hb gP10 hA.1 a
  have A2 := var?_below hb gER hA.2.1 b
  have A4 := (hb.cell (p := ⟨3, 0, none⟩) hA.2.2.2).trans d
  exact ⟨A1, ⟨tp, p, A2⟩, ⟨fr, (hk _ hA.2.2.1).trans c⟩, ⟨m, A4⟩, by omega, by omega, by omega, by omega⟩
theorem grown_of_below {W W' : World} (h : Below W.heap.size W W') : W.grownBy W' none := ⟨h.os, h.tape, h.output, h.size, fun k hk _ => h.block k hk⟩
/-- What the iterator keeps between two steps. -/
structure ItS (A B : Nat) (Own : World → Nat → Prop) (J : List Item → World → Prop) (Bf : Nat) (pre : List Item) (ss : ByteArray) (qq : Bool) (W : World) : Prop where
  j : J pre W
  lw : LW W
  no : ¬ Own W Bf
  blk : W.heap[Bf]? = some (.cells #[.string ss, .bool qq] 39)
  le : B ≤ Bf
  lt : Bf < W.heap.size
section
variable {A B Bf : Nat} {Own : World → Nat → Prop} {J : List Item → World → Prop} {pre : List Item} {ss : ByteArray} {qq : Bool} {W : World}
theorem ItS.below (h : ItS A B Own J Bf pre ss qq W) (hJ : RX.AbX Bf Own J) (hO : RX.OwnB B Own) {W' : World} (hb : Below W.heap.size W W') : ItS A B Own J Bf pre ss qq W' := by
  have h1 := h.lt; have h2 := h.le; have h3 := hb.size
  exact ⟨hJ _ _ _ none h.j (grown_of_below hb) (fun r e => by cases e), h.lw.below hb, fun o => h.no (hO _ _ _ (fun j hj => (hb.block j (by omega)).symm) o), (hb.block _ h.lt).trans h.blk, h.le, by omega⟩
theorem ItS.turn (h : ItS A B Own J Bf pre ss qq W) (hJ : RX.AbX Bf Own J) (hO : RX.OwnB B Own) (hA : A ≤ B) (hL : 4 < A ∧ 2 < A ∧ 0 < A ∧ 3 < A) (ss' : ByteArray) (qq' : Bool) {W' : World}
    (hg : W.grownBy W' (some Bf)) (hc : W'.heap[Bf]? = some (.cells #[.string ss', .bool qq'] 39)) : ItS A B Own J Bf pre ss' qq' W' := by
  have h1 := h.lt; have h2 := h.le; have h3 := hg.size
  have hk : ∀ j, j < Bf → W'.heap[j]? = W.heap[j]? := fun j hj => hg.block j (by omega) (fun e => by cases e; omega)
  exact ⟨hJ _ _ _ (some Bf) h.j hg (fun r e => by cases e; exact ⟨Nat.le_refl _, h.no⟩), h.lw.of_heap hL h3 (fun k hk' => hk k (by omega)), fun o => h.no (hO _ _ _ (fun j hj => (hk j (by omega)).symm) o), hc, h.le, by omega⟩
theorem ItS.round (h : ItS A B Own J Bf pre ss qq W) (hL : 4 < A ∧ 2 < A ∧ 0 < A ∧ 3 < A) {pre' : List Item} {W' : World} (hj : J pre' W') (hk : RX.KpX A B Own W W') : ItS A B Own J Bf pre' ss qq W' := by
  obtain ⟨a, b⟩ := hk.2.2 _ _ _ _ h.le h.blk h.no
  have h1 := h.lt; have h2 := hk.1
  exact ⟨hj, h.lw.of_heap hL hk.1 hk.2.1, b, a, h.le, by omega⟩
theorem ItS.cells (h : ItS A B Own J Bf pre ss qq W) : W.cell? ⟨Bf, 0, none⟩ = some (.string ss) ∧ W.cell? ⟨Bf, 1, none⟩ = some (.bool qq) ∧ W.frozen? ⟨Bf, 0, none⟩ = false ∧ W.frozen? ⟨Bf, 1, none⟩ = false := by
  refine ⟨?_, ?_, ?_, ?_⟩ <;> simp [World.cell?, World.frozen?, h.blk]
end
def actI (y p t2 pf : Value) (n : Int) (rest : ByteArray) (g : Nat → Value) : Act := { tmps := #[y, p, t2, pf, .int .i64 n, .string rest, g 6, g 7, g 8, g 9, g 10, g 11, g 12, g 13, g 14, g 15, g 16, g 17, g 18, g 19, g 20, g 21, g 22, g 23, g 24, g 25, g 26, g 27, g 28, g 29, g 30, g 31, g 32, g 33, g 34, g 35, g 36, g 37, g 38, g 39, g 40, g 41, g 42, g 43, g 44, g 45, g 46, g 47, g 48, g 49, g 50, g 51, g 52, g 53, g 54, g 55, g 56, g 57, g 58, g 59, g 60], defers := [] }
end Go.Proofs.YtoapfldmkpobmaaGreatDoor
