/- Layer 1: ParseList's successor, walked. -/
import Derived.Test.YtoapfldmkpobmaaGreatDoorPa
namespace Go.Proofs.YtoapfldmkpobmaaGreatDoor
open Go.RowKit
def u8R (g : Nat → UInt8) (j : Nat) : Value := .int .u8 ((g j).toNat : Int)
def strG (n : Nat) (g : Nat → UInt8) : ByteArray := ⟨((List.range n).map g).toArray⟩
theorem strG_size (n : Nat) (g : Nat → UInt8) : (strG n g).size = n := by unfold strG; rw [size_mk]; simp
/-- The next number's digits, the last digit first. -/
def sucR : List UInt8 → List UInt8
  | [] => [49]
  | c :: r => if c = 57 then 48 :: sucR r else (c + 1) :: r
def sucL (l : List UInt8) : List UInt8 := (sucR l.reverse).reverse
def sucS (s : ByteArray) : ByteArray := ⟨(sucL s.data.toList).toArray⟩
theorem sucR_len (l : List UInt8) : (sucR l).length ≤ l.length + 1 := by
  induction l with
  | nil => simp [sucR]
  | cons c r ih => simp only [sucR]; split <;> simp <;> omega
theorem sucS_size (s : ByteArray) : (sucS s).size ≤ s.size + 1 := by
  unfold sucS sucL
  rw [size_mk, List.length_reverse]
  have := sucR_len s.data.toList.reverse
  rw [List.length_reverse, length_data] at this
  exact this
/-- The bytes that stand in the row when k of them are still to be looked at. -/
def sucG (l : List UInt8) (k j : Nat) : UInt8 := if j < k then l.getD j 0 else 48
theorem take_snoc {l : List UInt8} {k : Nat} (hk : k < l.length) : l.take (k + 1) = l.take k ++ [l.getD k 0] := by
  rw [List.take_add_one, List.getElem?_eq_getElem hk, List.getD_eq_getElem?_getD, List.getElem?_eq_getElem hk]
  rfl
theorem suc_step {l : List UInt8} {k m : Nat} (hk : k < l.length) (h9 : l.getD k 0 = 57) : (sucR (l.take (k + 1)).reverse).reverse ++ List.replicate m 48 = (sucR (l.take k).reverse).reverse ++ List.replicate (m + 1) 48 := by
  rw [take_snoc hk, h9, List.reverse_append]
  simp [sucR, List.replicate_succ]
theorem suc_hit {l : List UInt8} {k m : Nat} (hk : k < l.length) (hm : k + 1 + m = l.length) (h9 : l.getD k 0 ≠ 57) :
    (List.range l.length).map (fun j => if j = k then l.getD k 0 + 1 else sucG l (k + 1) j) = (sucR (l.take (k + 1)).reverse).reverse ++ List.replicate m 48 := by
  have e0 : (l.take k ++ [l.getD k 0]).reverse = l.getD k 0 :: (l.take k).reverse := by simp
  have e00 : sucR (l.getD k 0 :: (l.take k).reverse) = (l.getD k 0 + 1) :: (l.take k).reverse := by simp only [sucR, if_neg h9]
  rw [take_snoc hk, e0, e00, List.reverse_cons, List.reverse_reverse]
  apply List.ext_getElem?
  intro i
  by_cases e1 : i < k
  · rw [List.append_assoc, List.getElem?_append_left (by simp; omega), List.getElem?_take_of_lt e1, List.getElem?_map, List.getElem?_range (by omega)]
    simp [sucG, show i ≠ k by omega, show i < k + 1 by omega, List.getElem?_eq_getElem (show i < l.length by omega)]
  · by_cases e2 : i = k
    · subst e2
      rw [List.append_assoc, List.getElem?_append_right (by simp; omega), List.getElem?_map, List.getElem?_range (by omega)]
      simp [show min i l.length = i by omega]
    · by_cases e3 : i < l.length
      · rw [List.getElem?_append_right (by simp; omega), List.getElem?_map, List.getElem?_range e3, List.getElem?_replicate_of_lt (by simp; omega)]
        simp [sucG, e2, show ¬ i < k + 1 by omega]
      · rw [List.getElem?_append_right (by simp; omega), List.getElem?_eq_none (by simp; omega), List.getElem?_eq_none (by simp; omega)]
theorem suc_end (l : List UInt8) : (List.range l.length).map (sucG l 0) = List.replicate l.length 48 := by
  apply List.ext_getElem?
  intro i
  by_cases e3 : i < l.length
  · simp [sucG, e3]
  · rw [List.getElem?_eq_none (by simp; omega), List.getElem?_eq_none (by simp; omega)]
/-- Block B holds the n bytes of g (behind them a mark that nobody writes). -/
def BRw (W : World) (B n : Nat) (g : Nat → UInt8) : Prop :=
  ∃ (C : Array Value) (m : Nat), W.heap[B]? = some (.cells C 5 (m, m + 1)) ∧ n ≤ C.size ∧ C.size ≤ m ∧ ∀ j, j < n → C[j]? = some (u8R g j)
theorem BRw.lt {W : World} {B n : Nat} {g : Nat → UInt8} (h : BRw W B n g) : B < W.heap.size := by
  obtain ⟨C, m, h, _⟩ := h; exact (Array.getElem?_eq_some_iff.1 h).1
theorem BRw.cell {W : World} {B n j : Nat} {g : Nat → UInt8} (h : BRw W B n g) (hj : j < n) : W.cell? ⟨B, j, none⟩ = some (.int .u8 ((g j).toNat : Int)) := by
  obtain ⟨C, m, h, _, _, hc⟩ := h
  rw [cell_of_row _ _ _ _ _ _ h]; exact hc j hj
theorem BRw.frozen {W : World} {B n j : Nat} {g : Nat → UInt8} (h : BRw W B n g) (hj : j < n) : W.frozen? ⟨B, j, none⟩ = false := by
  obtain ⟨C, m, h, h1, h2, _⟩ := h
  simp [World.frozen?, h]; omega
theorem BRw.congr {W : World} {B n : Nat} {g g' : Nat → UInt8} (h : BRw W B n g) (e : ∀ j, j < n → g j = g' j) : BRw W B n g' := by
  obtain ⟨C, m, h, h1, h2, hc⟩ := h
  exact ⟨C, m, h, h1, h2, fun j hj => by rw [hc j hj]; unfold u8R; rw [e j hj]⟩
theorem BRw.set {W : World} {B n k : Nat} {g : Nat → UInt8} (h : BRw W B n g) (hk : k < n) (c : UInt8) : BRw (W.setCell ⟨B, k, none⟩ (.int .u8 (c.toNat : Int))) B n (fun j => if j = k then c else g j) := by
  obtain ⟨C, m, h, h1, h2, hc⟩ := h
  have e : (W.setCell ⟨B, k, none⟩ (.int .u8 (c.toNat : Int))).heap[B]? = some (.cells (C.setIfInBounds k (.int .u8 (c.toNat : Int))) 5 (m, m + 1)) := by
    simp only [World.setCell, Array.getElem?_modify, if_true, h]
    rfl
  refine ⟨_, m, e, by simpa using h1, by simpa using h2, fun j hj => ?_⟩
  by_cases ejk : j = k
  · subst ejk
    rw [Array.getElem?_setIfInBounds_self_of_lt (by omega)]
    simp [u8R]
  · rw [Array.getElem?_setIfInBounds_ne (by omega), hc j hj]
    simp [u8R, ejk]
theorem BRw.back {W : World} {B c n : Nat} {g : Nat → UInt8} (h : BRw W B n g) : (convert 66 9 (.slice (some ⟨B, 0, none⟩) n c)).run Tryz.prog W = .ok (.string (strG n g)) W := by
  have ad : ∀ j, (⟨B, 0, none⟩ : Addr).add j = ⟨B, j, none⟩ := fun j => by cases j <;> simp [Addr.add]
  have := run_convert_bytes_back (P := Tryz.prog) W 66 9 5 ⟨B, 0, none⟩ c ((List.range n).map g) Tryz.underlying66 Tryz.underlying5 Tryz.underlying9 (fun j hj => by
    rw [List.length_map, List.length_range] at hj
    rw [ad, h.cell hj]
    simp)
  rw [List.length_map, List.length_range] at this
  exact this
theorem conv_bytes (a : ByteArray) (w : World) : ∃ c W', (convert 9 66 (.string a)).run Tryz.prog w = .ok (.slice (some ⟨w.heap.size, 0, none⟩) a.size c) W' ∧ a.size ≤ c ∧ Below w.heap.size w W' ∧ BRw W' w.heap.size a.size (sucG a.data.toList a.size) := by
  refine ⟨_, _, run_bytes_of_string w _ _ _ a Tryz.underlying9 Tryz.underlying66 Tryz.underlying5, grownCap_ge _ _ _ _, ?_, ?_⟩
  · exact (Below.refl _ w).drew.alloc (Nat.le_refl _) _
  · have hg := grownCap_ge w a.size 0 5
    have hs : (bytesRow a (grownCap w a.size 0 5)).size = grownCap w a.size 0 5 := by
      unfold bytesRow; simp; omega
    refine ⟨_, _, heap_alloc_new w.drew _, by rw [hs]; exact hg, Nat.le_refl _, fun j hj => ?_⟩
    unfold u8R sucG
    rw [if_pos hj, List.getD_eq_getElem?_getD, List.getElem?_eq_getElem (by rw [length_data]; exact hj)]
    unfold bytesRow
    rw [Array.getElem?_append_left (by simpa using hj)]
    simp [hj]
end Go.Proofs.YtoapfldmkpobmaaGreatDoor
