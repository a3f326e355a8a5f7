/- Masks, plain: which value stands where behind the calls. No program. -/
import Derived.Test.YtalnhbjpfnodiaaZg
import Derived.Test.YtalnhbjpfnodiaaZo
import Derived.Deep.CutRange
namespace Go.Proofs.Ytalnhbjpfnodiaa
theorem getD_set (l : List Nat) (i j v : Nat) : (l.set i v).getD j 0 = if j = i ∧ i < l.length then v else l.getD j 0 := by
  rw [List.getD_eq_getElem?_getD, List.getD_eq_getElem?_getD, List.getElem?_set]
  by_cases h : i = j
  · subst h
    by_cases h2 : i < l.length
    · simp [h2]
    · simp [h2]
  · rw [if_neg h, if_neg (fun e => h e.1.symm)]
theorem ext_getD {xs ys : List Nat} (hl : xs.length = ys.length) (h : ∀ i, i < xs.length → xs.getD i 0 = ys.getD i 0) : xs = ys := by
  apply List.ext_getElem hl
  intro i h1 h2
  have := h i h1
  rw [List.getD_eq_getElem?_getD, List.getD_eq_getElem?_getD, List.getElem?_eq_getElem h1, List.getElem?_eq_getElem h2] at this
  exact this
theorem set_self (l : List Nat) (i : Nat) : l.set i (l.getD i 0) = l :=
  ext_getD (by simp) fun j _ => by rw [getD_set]; split; rename_i h; rw [h.1]; rfl
theorem swC_zero (x y : Nat) (cs : List Nat) : swC 0 x y cs = cs := by
  unfold swC
  rw [selM_zero, selM_zero, set_self]
  exact set_self cs y
theorem mvC_zero (x y : Nat) (cs : List Nat) : mvC 0 x y cs = cs := by unfold mvC; rw [selM_zero]; exact set_self cs y
theorem clC_zero (x : Nat) (cs : List Nat) : clC 0 x cs = cs := by unfold clC; rw [selM_zero]; exact set_self cs x
theorem swRC_zero (x y : Nat) (cs : List Nat) : ∀ k, swRC 0 x y cs k = cs
  | 0 => rfl
  | k + 1 => by rw [swRC, swC_zero, swRC_zero x y cs k]
theorem mvRC_zero (x y : Nat) (cs : List Nat) : ∀ k, mvRC 0 x y cs k = cs
  | 0 => rfl
  | k + 1 => by rw [mvRC, mvC_zero, mvRC_zero x y cs k]
theorem swRC_w {m x y : Nat} {cs : List Nat} (h : ∀ v ∈ cs, v < 2 ^ 64) : ∀ k, ∀ v ∈ swRC m x y cs k, v < 2 ^ 64
  | 0 => h
  | k + 1 => swC_w (swRC_w h k)
theorem mvRC_w {m x y : Nat} {cs : List Nat} (h : ∀ v ∈ cs, v < 2 ^ 64) : ∀ k, ∀ v ∈ mvRC m x y cs k, v < 2 ^ 64
  | 0 => h
  | k + 1 => mvC_w (mvRC_w h k)
theorem swRC_at {a b j : Nat} {cs : List Nat} (hd : a + j ≤ b ∨ b + j ≤ a) (ha : a + j ≤ cs.length) (hb : b + j ≤ cs.length) (hw : ∀ v ∈ cs, v < 2 ^ 64) : ∀ k, k ≤ j → ∀ i,
    (swRC onesN a b cs k).getD i 0 = if a ≤ i ∧ i < a + k then cs.getD (i - a + b) 0 else if b ≤ i ∧ i < b + k then cs.getD (i - b + a) 0 else cs.getD i 0
  | 0, _, i => by rw [if_neg (by omega), if_neg (by omega)]; rfl
  | k + 1, hk, i => by
    have ih := swRC_at hd ha hb hw k (by omega)
    have hlen := swRC_len onesN a b cs k
    have hw2 := swRC_w (m := onesN) (x := a) (y := b) hw k
    rw [swRC]
    unfold swC
    rw [selM_ones (wcs_at hw2 _) (wcs_at hw2 _), selM_ones (wcs_at hw2 _) (wcs_at hw2 _), getD_set, getD_set, List.length_set, hlen]
    have e1 : (swRC onesN a b cs k).getD (a + k) 0 = cs.getD (a + k) 0 := by rw [ih, if_neg (by omega), if_neg (by omega)]
    have e2 : (swRC onesN a b cs k).getD (b + k) 0 = cs.getD (b + k) 0 := by rw [ih, if_neg (by omega), if_neg (by omega)]
    rw [e1, e2, ih]
    by_cases h1 : i = b + k
    · subst h1
      rw [if_pos ⟨rfl, by omega⟩, if_neg (by omega), if_pos (by omega), show b + k - b + a = a + k by omega]
    · rw [if_neg (fun e => h1 e.1)]
      by_cases h2 : i = a + k
      · subst h2
        rw [if_pos ⟨rfl, by omega⟩, if_pos (by omega), show a + k - a + b = b + k by omega]
      · rw [if_neg (fun e => h2 e.1)]
        by_cases h3 : a ≤ i ∧ i < a + k
        · rw [if_pos h3, if_pos (by omega)]
        · rw [if_neg h3]
          by_cases h4 : b ≤ i ∧ i < b + k
          · rw [if_pos h4, if_neg (by omega), if_pos (by omega)]
          · rw [if_neg h4, if_neg (by omega), if_neg (by omega)]
theorem mvRC_at {a b j : Nat} {cs : List Nat} (hd : a + j ≤ b ∨ b + j ≤ a) (hb : b + j ≤ cs.length) (hw : ∀ v ∈ cs, v < 2 ^ 64) : ∀ k, k ≤ j → ∀ i,
    (mvRC onesN a b cs k).getD i 0 = if b ≤ i ∧ i < b + k then cs.getD (i - b + a) 0 else cs.getD i 0
  | 0, _, i => by rw [if_neg (by omega)]; rfl
  | k + 1, hk, i => by
    have ih := mvRC_at hd hb hw k (by omega)
    have hlen := mvRC_len onesN a b cs k
    have hw2 := mvRC_w (m := onesN) (x := a) (y := b) hw k
    rw [mvRC]
    unfold mvC
    rw [selM_ones (wcs_at hw2 _) (wcs_at hw2 _), getD_set, hlen]
    have e1 : (mvRC onesN a b cs k).getD (a + k) 0 = cs.getD (a + k) 0 := by rw [ih, if_neg (by omega)]
    rw [e1, ih]
    by_cases h1 : i = b + k
    · subst h1
      rw [if_pos ⟨rfl, by omega⟩, if_pos (by omega), show b + k - b + a = a + k by omega]
    · rw [if_neg (fun e => h1 e.1)]
      by_cases h4 : b ≤ i ∧ i < b + k
      · rw [if_pos h4, if_pos (by omega)]
      · rw [if_neg h4, if_neg (by omega)]
/-- Exchanging two rows twice is nothing. -/
theorem swRC_twice {m a b j : Nat} {cs : List Nat} (hm : isM m) (hd : a + j ≤ b ∨ b + j ≤ a) (ha : a + j ≤ cs.length) (hb : b + j ≤ cs.length) (hw : ∀ v ∈ cs, v < 2 ^ 64) : swRC m a b (swRC m a b cs j) j = cs := by
  rcases hm with rfl | rfl
  · rw [swRC_zero, swRC_zero]
  · refine ext_getD (by rw [swRC_len, swRC_len]) fun i _ => ?_
    have h1 := swRC_at (cs := swRC onesN a b cs j) hd (by rw [swRC_len]; exact ha) (by rw [swRC_len]; exact hb) (swRC_w hw j) j (Nat.le_refl _)
    have h2 := swRC_at hd ha hb hw j (Nat.le_refl _)
    rw [h1, h2, h2, h2]
    by_cases c1 : a ≤ i ∧ i < a + j
    · rw [if_pos c1, if_neg (by omega), if_pos (by omega), show i - a + b - b + a = i by omega]
    · rw [if_neg c1]
      by_cases c2 : b ≤ i ∧ i < b + j
      · rw [if_pos c2, if_pos (by omega), show i - b + a - a + b = i by omega]
      · rw [if_neg c2, if_neg c1, if_neg c2]
/-- From where the value at i comes: SwapRows. -/
def swF (m : Nat) (a b j i : Nat) : Nat := if m = 0 then i else if a ≤ i ∧ i < a + j then i - a + b else if b ≤ i ∧ i < b + j then i - b + a else i
theorem swF_at {m a b j : Nat} {cs : List Nat} (hm : isM m) (hd : a + j ≤ b ∨ b + j ≤ a) (ha : a + j ≤ cs.length) (hb : b + j ≤ cs.length) (hw : ∀ v ∈ cs, v < 2 ^ 64) (i : Nat) (hi : i < cs.length) : (swRC m a b cs j).getD i 0 = cs.getD (swF m a b j i) 0 ∧ swF m a b j i < cs.length := by
  unfold swF
  rcases hm with rfl | rfl
  · rw [swRC_zero, if_pos rfl]; exact ⟨rfl, hi⟩
  · rw [swRC_at hd ha hb hw j (Nat.le_refl _), if_neg (show ¬ onesN = 0 by decide)]
    by_cases c1 : a ≤ i ∧ i < a + j
    · rw [if_pos c1, if_pos c1]; exact ⟨rfl, by omega⟩
    · rw [if_neg c1, if_neg c1]
      by_cases c2 : b ≤ i ∧ i < b + j
      · rw [if_pos c2, if_pos c2]; exact ⟨rfl, by omega⟩
      · rw [if_neg c2, if_neg c2]; exact ⟨rfl, hi⟩
/-- From where the value at i comes: MoveRows. -/
def mvF (m : Nat) (a b j i : Nat) : Nat := if m = 0 then i else if b ≤ i ∧ i < b + j then i - b + a else i
theorem mvF_at {m a b j : Nat} {cs : List Nat} (hm : isM m) (hd : a + j ≤ b ∨ b + j ≤ a) (ha : a + j ≤ cs.length) (hb : b + j ≤ cs.length) (hw : ∀ v ∈ cs, v < 2 ^ 64) (i : Nat) (hi : i < cs.length) : (mvRC m a b cs j).getD i 0 = cs.getD (mvF m a b j i) 0 ∧ mvF m a b j i < cs.length := by
  unfold mvF
  rcases hm with rfl | rfl
  · rw [mvRC_zero, if_pos rfl]; exact ⟨rfl, hi⟩
  · rw [mvRC_at hd hb hw j (Nat.le_refl _), if_neg (show ¬ onesN = 0 by decide)]
    by_cases c2 : b ≤ i ∧ i < b + j
    · rw [if_pos c2, if_pos c2]; exact ⟨rfl, by omega⟩
    · rw [if_neg c2, if_neg c2]; exact ⟨rfl, hi⟩
theorem clC_at {m a : Nat} {cs : List Nat} (hm : isM m) (ha : a < cs.length) (hw : ∀ v ∈ cs, v < 2 ^ 64) (i : Nat) : (clC m a cs).getD i 0 = if m ≠ 0 ∧ i = a then 0 else cs.getD i 0 := by
  rcases hm with rfl | rfl
  · rw [clC_zero, if_neg (fun h => h.1 rfl)]
  · unfold clC
    rw [selM_ones (by decide) (wcs_at hw _), getD_set]
    by_cases e : i = a
    · rw [if_pos ⟨e, ha⟩, if_pos ⟨by decide, e⟩]
    · rw [if_neg (fun h => e h.1), if_neg (fun h => e h.2)]
end Go.Proofs.Ytalnhbjpfnodiaa

/- MasksTwice. -/
namespace Go.Proofs.Ytalnhbjpfnodiaa
open Go.RowKit
theorem URow.keep {w w' : World} {g n c : Nat} {xs : List Nat} (h : URow w (.slice (some ⟨g, 0, none⟩) n c) xs) (e : w'.heap[g]? = w.heap[g]?) : URow w' (.slice (some ⟨g, 0, none⟩) n c) xs := URow.of_block h e
section
variable {w0 W : World} {X : Nat → Prop} {pa pb n : Nat} {ca cb : List Nat} {ra rb : List Rg} {ta tb : List (Nat × Nat)}
/-- The cells as a new row, which stands beside the arena from now on. -/
theorem pa_cells2 (h : Pr w0 W X pa pb ca ra ta cb rb tb) (hn : n = ca.length) : Calls Try.prog 32 #[.pointer (some ⟨pa, 0, none⟩)] W fun e w' => ∃ g c, e = .returned (.slice (some ⟨g, 0, none⟩) n c) ∧ URow w' (.slice (some ⟨g, 0, none⟩) n c) ca ∧ n ≤ c ∧ Pr w0 w' (fun k => X k ∨ k = g) pa pb ca ra ta cb rb tb ∧ ∀ k, X k → w'.heap[k]? = W.heap[k]? := by
  subst hn
  obtain ⟨F, c, pv, rv, pg, hx⟩ := h.arx
  refine (cells_any hx).mono ?_
  rintro e w' ⟨g, c, rfl, hg, ho, hb⟩
  exact ⟨g, c, rfl, ho.row, ho.le, h.beside hb fun k hk => by
    rcases hk with h1 | h1
    · exact ⟨Nat.lt_of_lt_of_le (h.xlt k h1) hb.size, .inl h1⟩
    · subst h1; exact ⟨ho.lt, .inr hg⟩, fun k hk => hb.block k (h.xlt k hk)⟩
end
theorem row_at {W : World} {g n c : Nat} {xs : List Nat} (h : URow W (.slice (some ⟨g, 0, none⟩) n c) xs) (i : Nat) (hi : i < xs.length) : W.cell? ⟨g, i, none⟩ = some (.int .u64 ((xs.getD i 0 : Nat) : Int)) := by
  obtain ⟨q, c2, hq, _, hx⟩ := h
  cases hq
  obtain ⟨b, o, e, h2⟩ := hx i _ (List.getElem?_eq_getElem hi)
  cases e
  rw [Nat.zero_add] at h2
  rw [h2, List.getD_eq_getElem?_getD, List.getElem?_eq_getElem hi]; rfl
theorem row_zero {n t m st a b j : Nat} (hm : isM m) (h1 : 1 ≤ j) (h2 : j ≤ 64) (ha : a + j ≤ n) (hb : b + j ≤ n) (hd : a + j ≤ b ∨ b + j ≤ a) (ht : t + st * j ≤ 8388608) : rowE n t m (st : Int) (a : Int) (b : Int) (j : Int) = 0 := by
  have e1 : hasE n (a : Int) (j : Int) = 0 := by unfold hasE; rw [if_neg (by omega)]
  have e2 : hasE n (b : Int) (j : Int) = 0 := by unfold hasE; rw [if_neg (by omega)]
  unfold rowE ckR
  rw [if_pos hm, if_neg (by omega), if_pos (by unfold hasF; rw [if_pos e1]; unfold hasF; rw [if_pos e2]; rfl), if_neg (by omega)]
  unfold roomE
  rw [show (st : Int) * (j : Int) = ((st * j : Nat) : Int) by simp, if_neg (by omega), if_neg (by omega)]
def TwP (w : World) (e : Ending) (w' : World) : Prop := e = .returned (.bool true) ∧ Below w.heap.size w w'
end Go.Proofs.Ytalnhbjpfnodiaa
