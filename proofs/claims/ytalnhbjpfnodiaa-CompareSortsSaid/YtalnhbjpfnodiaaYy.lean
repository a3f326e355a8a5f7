/- What CompareSorts keeps: its own row, rows of rows, what was met. -/
import Derived.Test.YtalnhbjpfnodiaaYt
import Derived.Test.YtalnhbjpfnodiaaYx
import Derived.Test.YtalnhbjpfnodiaaZv
import Derived.Deep.CutRange
namespace Go.Proofs.Ytalnhbjpfnodiaa
open Go.RowKit
/-- A row of numbers of the law's own. -/
def OwR (W : World) (g cap : Nat) (xs : List Nat) : Prop := ∃ f, W.rowIs g 22 cap f ∧ xs.length ≤ cap ∧ ∀ i, i < xs.length → f i = .int .u64 ((xs.getD i 0 : Nat) : Int)
section
variable {W W' : World} {g cap : Nat} {xs : List Nat}
theorem OwR.of_own {b0 n : Nat} {v : Value} (h : W.ownsRow b0 22 1 v n (xs.map u64v)) (h0 : 0 < n) : ∃ g cap, v = .slice (some ⟨g, 0, none⟩) n cap ∧ b0 ≤ g ∧ OwR W g cap xs ∧ n = xs.length := by
  have hl := h.1
  rw [List.length_map, Nat.mul_one] at hl
  rcases h.2 with ⟨_, h1⟩ | ⟨g, cap, cur, rfl, hb, hg, hc, _, hs, ht⟩
  · omega
  · refine ⟨g, cap, rfl, hb, ⟨fun i => cur[i]?.getD undef, ⟨cur, hg, by omega, fun i hi => ?_⟩, by omega, fun i hi => ?_⟩, hl.symm⟩
    · show cur[i]? = some (cur[i]?.getD undef)
      rw [Array.getElem?_eq_getElem (by omega)]; rfl
    · have h2 : (cur.toList.take (n * 1))[i]? = some (u64v (xs[i]'hi)) := by rw [ht, List.getElem?_map, List.getElem?_eq_getElem hi]; rfl
      rw [List.getElem?_take, if_pos (by omega), Array.getElem?_toList] at h2
      simp only [h2, Option.getD_some]
      rw [List.getD_eq_getElem?_getD, List.getElem?_eq_getElem hi]; rfl
theorem OwR.lt (h : OwR W g cap xs) : g < W.heap.size := by obtain ⟨f, h, _⟩ := h; exact h.lt
theorem OwR.cell (h : OwR W g cap xs) {i : Nat} (hi : i < xs.length) : W.cell? ⟨g, i, none⟩ = some (.int .u64 ((xs.getD i 0 : Nat) : Int)) := by
  obtain ⟨f, h, hl, hf⟩ := h
  rw [h.cell (by omega), hf i hi]
theorem OwR.frozen (h : OwR W g cap xs) (i : Nat) : W.frozen? ⟨g, i, none⟩ = false := by obtain ⟨f, h, _⟩ := h; exact h.frozen i
theorem OwR.of_block (h : OwR W g cap xs) (e : W'.heap[g]? = W.heap[g]?) : OwR W' g cap xs := by obtain ⟨f, h, h2⟩ := h; exact ⟨f, h.of_block e, h2⟩
theorem OwR.set (h : OwR W g cap xs) (i v : Nat) (hi : i < xs.length) : OwR (W.setCell ⟨g, i, none⟩ (.int .u64 (v : Int))) g cap (xs.set i v) := by
  obtain ⟨f, h, hl, hf⟩ := h
  refine ⟨_, h.set i _, by rw [List.length_set]; exact hl, fun j hj => ?_⟩
  rw [List.length_set] at hj
  rw [getD_set]
  by_cases e : j = i
  · rw [if_pos e, if_pos ⟨e, hi⟩]
  · rw [if_neg e, if_neg (fun h => e h.1)]; exact hf j hj
theorem OwR.row (h : OwR W g cap xs) : URow W (.slice (some ⟨g, 0, none⟩) xs.length cap) xs := by
  refine ⟨_, cap, rfl, by obtain ⟨_, _, h, _⟩ := h; exact h, fun i x hi => ⟨g, 0, rfl, ?_⟩⟩
  have hj := (List.getElem?_eq_some_iff.1 hi).1
  rw [Nat.zero_add, h.cell hj, List.getD_eq_getElem?_getD, hi]; rfl
theorem OwR.le (h : OwR W g cap xs) : xs.length ≤ cap := by obtain ⟨_, _, h, _⟩ := h; exact h
end
theorem URow.sub {W : World} {g n c : Nat} {xs : List Nat} (h : URow W (.slice (some ⟨g, 0, none⟩) n c) xs) (i k : Nat) (hik : i + k ≤ n) : URow W (.slice (some ⟨g, i, none⟩) k (c - i)) ((xs.drop i).take k) := by
  obtain ⟨q', c', e, hc, hx⟩ := h
  cases e
  have hl : ((xs.drop i).take k).length = k := by rw [List.length_take, List.length_drop]; omega
  refine ⟨_, c - i, by rw [hl], by rw [hl]; omega, fun j x hj => ⟨g, i, rfl, ?_⟩⟩
  rw [List.getElem?_take] at hj
  split at hj
  · rw [List.getElem?_drop] at hj
    obtain ⟨b, o, e, h⟩ := hx _ _ hj
    cases e
    rw [Nat.zero_add] at h
    exact h
  · cases hj
theorem URow.none {W : World} (q : Option Addr) (c : Nat) : URow W (.slice q 0 c) [] := ⟨q, c, rfl, Nat.zero_le _, fun i x h => by simp at h⟩
theorem soE_good {n t a M j : Nat} (h1 : 1 ≤ M) (h2 : M ≤ 16) (h3 : 1 ≤ j) (h4 : M * j ≤ 64) (h5 : a + M * j ≤ n) (h6 : t + (4 * j + 2) * (netK (M - 1)).length ≤ 8388608) : soE n t (a : Int) (M : Int) (j : Int) = 0 := by
  have e : ((M : Int) * (j : Int)) = ((M * j : Nat) : Int) := by simp
  have e1 : hasE n (a : Int) ((M : Int) * (j : Int)) = 0 := by unfold hasE; rw [e, if_neg (by omega)]
  unfold soE
  rw [if_pos (show isT M j from ⟨by omega, by omega, by omega, by rw [e]; omega⟩), if_pos e1]
  simp only [Int.toNat_natCast]
  unfold roomE
  rw [if_neg (by omega), if_neg (by omega)]
section
variable {own : List Nat} {X N Y : Nat} {C : List Nat} {f : Nat → Nat}
theorem getD_drop_take (xs : List Nat) (i k t : Nat) (ht : t < k) : ((xs.drop i).take k).getD t 0 = xs.getD (i + t) 0 := by
  rw [List.getD_eq_getElem?_getD, List.getD_eq_getElem?_getD, List.getElem?_take, if_pos ht, List.getElem?_drop]
theorem Rel.rows (h : Rel own X N Y C f) (hl : X + Y * N ≤ own.length) {i : Nat} (hi : i < Y) (hf : f i < Y) : (C.drop (X + i * N)).take N = (own.drop (X + f i * N)).take N := by
  have h1 := mul_lt_row (N := N) hi
  have h2 := mul_lt_row (N := N) hf
  have hlen := h.len
  have l1 : ((C.drop (X + i * N)).take N).length = N := by rw [List.length_take, List.length_drop]; omega
  have l2 : ((own.drop (X + f i * N)).take N).length = N := by rw [List.length_take, List.length_drop]; omega
  refine ext_getD (by rw [l1, l2]) fun t ht => ?_
  rw [l1] at ht
  rw [getD_drop_take _ _ _ _ ht, getD_drop_take _ _ _ _ ht]
  exact h.row i t hi ht
theorem Rel.head (h : Rel own X N Y C f) : (C.drop 0).take X = (own.drop 0).take X := by
  have hlen := h.len
  refine ext_getD (by simp [hlen]) fun t ht => ?_
  have ht2 : t < X := by rw [List.length_take] at ht; omega
  rw [getD_drop_take _ _ _ _ ht2, getD_drop_take _ _ _ _ ht2]
  exact h.out _ (.inl (by omega))
theorem Rel.tail (h : Rel own X N Y C f) : (C.drop (X + Y * N)).take (C.length - (X + Y * N)) = (own.drop (X + Y * N)).take (own.length - (X + Y * N)) := by
  have hlen := h.len
  rw [hlen]
  refine ext_getD (by simp [hlen]) fun t ht => ?_
  have ht2 : t < own.length - (X + Y * N) := by rw [List.length_take] at ht; omega
  rw [getD_drop_take _ _ _ _ ht2, getD_drop_take _ _ _ _ ht2]
  exact h.out _ (.inr (by omega))
end
/-- Which numbers were met in the first k rows. -/
def metB (f : Nat → Nat) : Nat → Nat → Bool
  | 0, _ => false
  | k + 1, j => if j = f k then true else metB f k j
theorem metB_new {f : Nat → Nat} {Y : Nat} (hinj : ∀ s t, s < Y → t < Y → f s = f t → s = t) {i : Nat} (hi : i < Y) : ∀ k, k ≤ i → metB f k (f i) = false
  | 0, _ => rfl
  | k + 1, hk => by
    rw [metB, if_neg (fun e => by have := hinj i k hi (by omega) e; omega)]
    exact metB_new hinj hi k (by omega)
/-- The arena, its cells and the law's own row beside the bools. -/
theorem arC_self {xs : List Nat} (h : 1 ≤ xs.length) : arC xs = xs ∧ (arT xs).length = xs.length := by
  refine ⟨?_, by unfold arT; exact padT_len _⟩
  unfold arC padC arN
  rw [show max xs.length 1 = xs.length by omega, Nat.sub_self, List.replicate_zero, List.append_nil, List.take_length]
end Go.Proofs.Ytalnhbjpfnodiaa
