/- Layer 1: fields put behind one another; two lines joined: plain, and the append at an own row. -/
import Derived.Test.YtinffflkplhdiaaDoorLawJ
import Derived.Maps.AppendAt
namespace Go.Proofs.YtinffflkplhdiaaDoor
open Go.RowKit
theorem join_app (l m : List (List UInt8)) (sep : List UInt8) (hl : l ≠ []) (hm : m ≠ []) : Lib.join (l ++ m) sep = Lib.join l sep ++ (sep ++ Lib.join m sep) := by
  obtain ⟨y, r, rfl⟩ := List.exists_cons_of_ne_nil hl
  obtain ⟨z, t, rfl⟩ := List.exists_cons_of_ne_nil hm
  rw [List.cons_append, Lib.join_cons, Lib.join_cons, Lib.join_cons]
  unfold Lib.joinTail
  simp
theorem jT_app {xs ys : List Item} (hx : xs ≠ []) (hy : ys ≠ []) : jT (xs ++ ys) = jT xs ++ (32 :: jT ys) := by
  unfold jT
  rw [List.map_append]
  exact join_app _ _ _ (by simpa using hx) (by simpa using hy)
theorem joinE_zero {xs : List Item} : joinE xs = 0 ↔ xs.length ≤ 64 ∧ longs xs = false ∧ xs.any jBad = false ∧ (jT xs).length ≤ 8192 := by
  unfold joinE
  by_cases h1 : 64 < xs.length
  · rw [if_pos h1]; constructor
    · intro h; exact absurd h (by decide)
    · intro h; omega
  rw [if_neg h1]
  by_cases h2 : longs xs = true
  · rw [if_pos h2]; constructor
    · intro h; exact absurd h (by decide)
    · intro h; rw [h2] at h; cases h.2.1
  rw [if_neg h2]
  by_cases h3 : xs.any jBad = true
  · rw [if_pos h3]; constructor
    · intro h; exact absurd h (by decide)
    · intro h; rw [h3] at h; cases h.2.2.1
  rw [if_neg h3]
  by_cases h4 : 8192 < (jT xs).length
  · rw [if_pos h4]; constructor
    · intro h; exact absurd h (by decide)
    · intro h; omega
  rw [if_neg h4]
  exact ⟨fun _ => ⟨by omega, by simpa using h2, by simpa using h3, by omega⟩, fun _ => rfl⟩
theorem jT_app_len {xs ys : List Item} (hx : xs ≠ []) (hy : ys ≠ []) : (jT (xs ++ ys)).length = (jT xs).length + 1 + (jT ys).length := by
  rw [jT_app hx hy]; simp; omega
theorem joinE_app {xs ys : List Item} (hx : xs ≠ []) (hy : ys ≠ []) (h1 : joinE xs = 0) (h2 : joinE ys = 0) :
    joinE (xs ++ ys) = if 64 < xs.length + ys.length ∨ 8192 < (jT xs).length + 1 + (jT ys).length then 3 else 0 := by
  obtain ⟨a1, a2, a3, a4⟩ := joinE_zero.1 h1
  obtain ⟨b1, b2, b3, b4⟩ := joinE_zero.1 h2
  have e1 : longs (xs ++ ys) = false := by unfold longs at *; rw [List.any_append, a2, b2]; rfl
  have e2 : (xs ++ ys).any jBad = false := by rw [List.any_append, a3, b3]; rfl
  by_cases hP : 64 < xs.length + ys.length ∨ 8192 < (jT xs).length + 1 + (jT ys).length
  · rw [if_pos hP]
    unfold joinE
    rw [e1, e2, List.length_append, jT_app_len hx hy]
    by_cases h : 64 < xs.length + ys.length
    · rw [if_pos h]
    · rw [if_neg h, if_neg (by decide), if_neg (by decide), if_pos (by omega)]
  · rw [if_neg hP, joinE_zero]
    exact ⟨by rw [List.length_append]; omega, e1, e2, by rw [jT_app_len hx hy]; omega⟩
theorem joinE_app_ne {xs ys : List Item} (hx : xs ≠ []) (hy : ys ≠ []) (h : ¬ (joinE xs = 0 ∧ joinE ys = 0)) : joinE (xs ++ ys) ≠ 0 := by
  intro e
  obtain ⟨c1, c2, c3, c4⟩ := joinE_zero.1 e
  rw [List.length_append] at c1
  rw [jT_app_len hx hy] at c4
  unfold longs at c2
  rw [List.any_append, Bool.or_eq_false_iff] at c2 c3
  exact h ⟨joinE_zero.2 ⟨by omega, by unfold longs; exact c2.1, c3.1, by omega⟩, joinE_zero.2 ⟨by omega, by unfold longs; exact c2.2, c3.2, by omega⟩⟩
theorem fm_get : ∀ (xs : List Item) (j : Nat) (u : Value), (xs.flatMap encF)[j]? = some u → ∃ i x, xs[i]? = some x ∧ ((j = i * 2 ∧ u = .string ⟨x.s.toArray⟩) ∨ (j = i * 2 + 1 ∧ u = .bool x.q))
  | [], j, u, h => by simp at h
  | y :: r, 0, u, h => ⟨0, y, rfl, .inl ⟨rfl, by simpa [encF] using h.symm⟩⟩
  | y :: r, 1, u, h => ⟨0, y, rfl, .inr ⟨rfl, by simpa [encF] using h.symm⟩⟩
  | y :: r, j + 2, u, h => by
    obtain ⟨i, x, hi, hx⟩ := fm_get r j u (by simpa [encF] using h)
    exact ⟨i + 1, x, by simpa using hi, by rcases hx with ⟨rfl, e⟩ | ⟨rfl, e⟩; exact .inl ⟨by omega, e⟩; exact .inr ⟨by omega, e⟩⟩
theorem fm_len (xs : List Item) : (xs.flatMap encF).length = xs.length * 2 := by
  induction xs with
  | nil => rfl
  | cons y r ih => rw [List.flatMap_cons, List.length_append, ih]; simp [encF]; omega
theorem fm_one (xs : List Item) : ∀ u ∈ xs.flatMap encF, u.oneCell' = true := by
  intro u hu
  obtain ⟨x, _, h⟩ := List.mem_flatMap.1 hu
  simp [encF] at h
  rcases h with rfl | rfl <;> rfl
theorem FSl.cells {w : World} {b o n c : Nat} {xs : List Item} (h : FSl w (.slice (some ⟨b, o, none⟩) n c) xs) : ∀ j u, (xs.flatMap encF)[j]? = some u → w.cell? ((⟨b, o, none⟩ : Addr).add j) = some u := by
  intro j u hu
  obtain ⟨p, c', e, hv⟩ := h
  cases e
  obtain ⟨i, x, hi, hx⟩ := fm_get xs j u hu
  obtain ⟨b', o', e', h1, h2⟩ := hv i x hi
  cases e'
  have ad : ∀ j, (⟨b, o, none⟩ : Addr).add j = ⟨b, o + j, none⟩ := fun j => by cases j <;> simp [Addr.add]
  rw [ad]
  rcases hx with ⟨rfl, rfl⟩ | ⟨rfl, rfl⟩
  · exact h1
  · rw [← Nat.add_assoc]; exact h2
theorem wpList_appF {ops : Array Oper} {rest : List Oper} {o : Oper} {a : Act} {Q : Exit → Act → World → Prop} {w : World} (hgd : o.guard = none) (s x : Operand)
    (ho : o.op = .call { callee := .builtin .append, args := #[s, x], argTypes := #[32, 32] }) (base : Nat) (v : Value) (zs : List Item) (hs : a.eval s = v)
    (hown : w.ownsRow base 49 2 v zs.length (zs.flatMap encF)) (u : Value) (xs : List Item) (hx : a.eval x = u) (hu : FSl w u xs) (hn : 0 < xs.length) (hl : xs.length ≤ 1000) (hzl : zs.length ≤ 1000) (hbase : base ≤ w.heap.size)
    (h : ∀ v' w1, w1.ownsRow base 49 2 v' (zs ++ xs).length ((zs ++ xs).flatMap encF) → Below base w w1 → wpList Tryd.prog ops Q rest (a.put o.dst v') w1) : wpList Tryd.prog ops Q (o :: rest) a w := by
  obtain ⟨i0, hi, hz0, hz1, hz2⟩ := info_parts info_F
  have hu' := hu
  obtain ⟨p, c, rfl, hv⟩ := hu
  obtain ⟨b, k, rfl, _, _⟩ := hv 0 (xs[0]'hn) (List.getElem?_eq_getElem hn)
  refine wpList_append_own_at _ hgd s x 32 ho base 49 i0 (.agg #[.string ⟨#[]⟩, .bool false]) 2 24 Tryd.underlying32 hi hz0 hz1 hz2 rfl (by decide) v zs.length (zs.flatMap encF) hs hown ⟨b, k, none⟩ xs.length c (xs.flatMap encF) hx (fm_len xs) (FSl.cells hu') (fm_one xs) (by simp only [maxLen]; omega) (by omega) hbase ?_
  intro v' w1 h1 hg _ _
  refine h v' w1 (by rw [List.length_append, List.flatMap_append]; exact h1) ((Below.refl base w).grown hg hbase (fun j e => own_ge hown e))
end Go.Proofs.YtinffflkplhdiaaDoor
