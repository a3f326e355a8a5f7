/- Plain mathematics of layer 2: what Parse asks. No program. -/
import Derived.Test.YtnegnmjjibhldaaDoorTa
namespace Go.Proofs.YtnegnmjjibhldaaDoor
def parseRow (ps : List (List UInt8)) : List Nat := (List.range ps.length).map fun k => hv (ps.getD (ps.length - 1 - k) [])
def rowsT (xs : List Nat) : List (List UInt8) := (List.range xs.length).map fun n => digs (xs.getD (xs.length - 1 - n) 0) 16
theorem rowsT_len (xs : List Nat) : (rowsT xs).length = xs.length := by simp [rowsT]
theorem parseRow_len (ps : List (List UInt8)) : (parseRow ps).length = ps.length := by simp [parseRow]
theorem rowsT_ok (xs : List Nat) : (rowsT xs).all okP = true := by
  rw [List.all_eq_true]
  intro p hp
  obtain ⟨n, _, rfl⟩ := List.mem_map.1 hp
  exact digs_ok _
theorem all_nodot {ps : List (List UInt8)} (h : ps.all okP = true) : ∀ p ∈ ps, (46 : UInt8) ∉ p := fun p hp => okP_nodot (List.all_eq_true.1 h p hp)
theorem okP_len {p : List UInt8} (h : okP p = true) : p.length = 16 := by
  unfold okP at h; rw [Bool.and_eq_true, decide_eq_true_iff] at h; exact h.1
theorem joinD_len : ∀ {ps : List (List UInt8)}, ps ≠ [] → ps.all okP = true → (joinD ps).length + 1 = 17 * ps.length
  | [p], _, h => by
    have := okP_len (List.all_eq_true.1 h p List.mem_cons_self)
    simp [joinD, this]
  | p :: q :: ps, _, h => by
    have h1 := okP_len (List.all_eq_true.1 h p List.mem_cons_self)
    have h2 := joinD_len (ps := q :: ps) (by simp) (by rw [List.all_cons, Bool.and_eq_true] at h; exact h.2)
    show (p ++ 46 :: joinD (q :: ps)).length + 1 = _
    rw [List.length_append, List.length_cons, List.length_cons, h1]
    omega
theorem row_of_text {xs : List Nat} (hw : Wf xs) : parseRow (rowsT xs) = xs := by
  unfold parseRow
  apply List.ext_getElem (by simp [rowsT])
  intro k h1 h2
  have hk : k < xs.length := h2
  simp only [List.getElem_map, List.getElem_range, rowsT_len]
  have e : (rowsT xs).getD (xs.length - 1 - k) [] = digs (xs.getD k 0) 16 := by
    rw [List.getD_eq_getElem?_getD, List.getElem?_eq_getElem (by rw [rowsT_len]; omega)]
    simp only [rowsT, List.getElem_map, List.getElem_range, Option.getD_some]
    rw [show xs.length - 1 - (xs.length - 1 - k) = k by omega]
  rw [e, hv_word _ (hw.get k), List.getD_eq_getElem?_getD, List.getElem?_eq_getElem hk]; rfl
theorem text_of_row {ps : List (List UInt8)} (h : ps.all okP = true) : rowsT (parseRow ps) = ps := by
  unfold rowsT
  apply List.ext_getElem (by simp [parseRow])
  intro j h1 h2
  simp only [List.getElem_map, List.getElem_range, parseRow_len]
  have e : (parseRow ps).getD (ps.length - 1 - j) 0 = hv ps[j] := by
    rw [List.getD_eq_getElem?_getD, List.getElem?_eq_getElem (by rw [parseRow_len]; omega)]
    simp only [parseRow, List.getElem_map, List.getElem_range, Option.getD_some]
    rw [show ps.length - 1 - (ps.length - 1 - j) = j by omega, List.getD_eq_getElem?_getD, List.getElem?_eq_getElem h2]; rfl
  rw [e, digs_hv (List.all_eq_true.1 h _ (List.getElem_mem h2))]
theorem parseRow_wf {ps : List (List UInt8)} (h : ps.all okP = true) : Wf (parseRow ps) := by
  intro x hx
  obtain ⟨k, hk, rfl⟩ := List.mem_map.1 hx
  rw [List.mem_range] at hk
  rw [List.getD_eq_getElem?_getD, List.getElem?_eq_getElem (by omega)]
  exact hv_lt64 (List.all_eq_true.1 h _ (List.getElem_mem _))
def parseE (l : List UInt8) : Int := if 135 < l.length then 3 else if (parts l).all okP then 0 else 6
def parseR (l : List UInt8) : List Nat := if parseE l = 0 then parseRow (parts l) else []
/-- What holds of a text that Parse takes. -/
theorem parse_good {l : List UInt8} (h : parseE l = 0) : l.length ≤ 135 ∧ (parts l).all okP = true ∧ l.length + 1 = 17 * (parts l).length ∧ 0 < (parts l).length ∧ (parts l).length ≤ 8 := by
  unfold parseE at h
  split at h
  · omega
  · rename_i h1
    split at h
    · rename_i h2
      have h3 := joinD_len (parts_ne l) h2
      rw [joinD_parts] at h3
      have h4 := List.length_pos_iff.2 (parts_ne l)
      exact ⟨by omega, h2, h3, h4, by omega⟩
    · omega
/-- Every place up to i is as it must be. -/
def okI (l : List UInt8) (i : Nat) : Prop := ∀ j, j < i → if j % 17 = 16 then l.getD j 0 = 46 else 0 ≤ dig (l.getD j 0)
def seg (l : List UInt8) (j : Nat) : List UInt8 := (l.drop (17 * j)).take 16
theorem seg_ok {l : List UInt8} {j i : Nat} (h : okI l i) (hi : 17 * j + 16 ≤ i) (hl : i ≤ l.length) : okP (seg l j) = true := by
  unfold okP seg
  rw [Bool.and_eq_true, decide_eq_true_iff]
  refine ⟨by rw [List.length_take, List.length_drop]; omega, List.all_eq_true.2 fun c hc => ?_⟩
  obtain ⟨m, hm, rfl⟩ := List.mem_iff_getElem.1 hc
  rw [List.length_take, List.length_drop] at hm
  have := h (17 * j + m) (by omega)
  rw [if_neg (by omega), List.getD_eq_getElem?_getD, List.getElem?_eq_getElem (by omega)] at this
  simpa using this
theorem parts_seg : ∀ (n : Nat) (l : List UInt8), l.length + 1 = 17 * (n + 1) → okI l l.length → parts l = (List.range (n + 1)).map (seg l)
  | 0, l, hl, h => by
    have h16 : l.length = 16 := by omega
    have e : seg l 0 = l := by unfold seg; rw [Nat.mul_zero, List.drop_zero, List.take_of_length_le (by omega)]
    have := okP_nodot (seg_ok (j := 0) h (by omega) (Nat.le_refl _))
    rw [e] at this
    rw [parts_none this, List.range_one, List.map_singleton, e]
  | n + 1, l, hl, h => by
    have hs0 := okP_nodot (seg_ok (j := 0) h (by omega) (Nat.le_refl _))
    have e0 : seg l 0 = l.take 16 := by unfold seg; rw [Nat.mul_zero, List.drop_zero]
    rw [e0] at hs0
    have hd := h 16 (by omega)
    rw [if_pos rfl] at hd
    have hsp : l = l.take 16 ++ 46 :: l.drop 17 := by
      conv => lhs; rw [← List.take_append_drop 16 l]
      congr 1
      rw [List.drop_eq_getElem_cons (by omega)]
      rw [List.getD_eq_getElem?_getD, List.getElem?_eq_getElem (by omega)] at hd
      rw [show l[16] = 46 from hd]
    have hr := parts_seg n (l.drop 17) (by rw [List.length_drop]; omega) (fun j hj => by
      rw [List.length_drop] at hj
      have := h (17 + j) (by omega)
      rw [show (17 + j) % 17 = j % 17 by omega] at this
      rw [List.getD_eq_getElem?_getD, List.getElem?_drop, ← List.getD_eq_getElem?_getD]
      exact this)
    conv => lhs; rw [hsp]
    rw [parts_app hs0, hr]
    conv => rhs; rw [List.range_succ_eq_map, List.map_cons, e0, List.map_map]
    congr 1
    apply List.map_congr_left
    intro j _
    simp only [seg, Function.comp]
    rw [List.drop_drop, show 17 + 17 * j = 17 * (j + 1) by omega]
theorem okI_of_parts : ∀ {ps : List (List UInt8)}, ps ≠ [] → ps.all okP = true → okI (joinD ps) (joinD ps).length
  | [p], _, h => by
    have hp := List.all_eq_true.1 h p List.mem_cons_self
    have hl := okP_len hp
    intro j hj
    show if j % 17 = 16 then p.getD j 0 = 46 else 0 ≤ dig (p.getD j 0)
    have hj' : j < p.length := hj
    rw [if_neg (by omega)]
    unfold okP at hp; rw [Bool.and_eq_true] at hp
    rw [List.getD_eq_getElem?_getD, List.getElem?_eq_getElem hj']
    simpa using List.all_eq_true.1 hp.2 p[j] (List.getElem_mem _)
  | p :: q :: ps, _, h => by
    have hp := List.all_eq_true.1 h p List.mem_cons_self
    have hl := okP_len hp
    have hr := okI_of_parts (ps := q :: ps) (by simp) (by rw [List.all_cons, Bool.and_eq_true] at h; exact h.2)
    intro j hj
    have hj' : j < (p ++ 46 :: joinD (q :: ps)).length := hj
    show if j % 17 = 16 then (p ++ 46 :: joinD (q :: ps)).getD j 0 = 46 else 0 ≤ dig ((p ++ 46 :: joinD (q :: ps)).getD j 0)
    rw [List.length_append, List.length_cons, hl] at hj'
    rw [List.getD_eq_getElem?_getD]
    by_cases h1 : j < 16
    · rw [if_neg (by omega), List.getElem?_append_left (by omega), List.getElem?_eq_getElem (by omega)]
      unfold okP at hp; rw [Bool.and_eq_true] at hp
      simpa using List.all_eq_true.1 hp.2 _ (List.getElem_mem _)
    · rw [List.getElem?_append_right (by omega), hl]
      by_cases h2 : j = 16
      · subst h2; simp
      · obtain ⟨i, rfl⟩ : ∃ i, j = 17 + i := ⟨j - 17, by omega⟩
        have := hr i (by omega)
        rw [show 17 + i - 16 = i + 1 by omega, List.getElem?_cons_succ, show (17 + i) % 17 = i % 17 by omega, ← List.getD_eq_getElem?_getD]
        exact this
theorem parts_iff {l : List UInt8} {n : Nat} (hl : l.length + 1 = 17 * (n + 1)) : (parts l).all okP = true ↔ okI l l.length := by
  constructor
  · intro h
    have := okI_of_parts (parts_ne l) h
    rwa [joinD_parts] at this
  · intro h
    rw [parts_seg n l hl h, List.all_eq_true]
    intro p hp
    obtain ⟨j, hj, rfl⟩ := List.mem_map.1 hp
    rw [List.mem_range] at hj
    exact seg_ok h (by omega) (Nat.le_refl _)
theorem parts_len {l : List UInt8} (h : (parts l).all okP = true) : l.length + 1 = 17 * (parts l).length := by
  have := joinD_len (parts_ne l) h
  rwa [joinD_parts] at this
/-- The words up to the place i. -/
def segTo (l : List UInt8) (i j : Nat) : List UInt8 := ((l.take i).drop (17 * j)).take 16
theorem segTo_zero (l : List UInt8) (j : Nat) : segTo l 0 j = [] := by simp [segTo]
theorem segTo_all (l : List UInt8) (j : Nat) : segTo l l.length j = seg l j := by unfold segTo seg; rw [List.take_length]
theorem segTo_same {l : List UInt8} {i j : Nat} (hi : i < l.length) (h : ¬ (j = i / 17 ∧ i % 17 ≠ 16)) : segTo l (i + 1) j = segTo l i j := by
  unfold segTo
  rw [List.take_succ_eq_append_getElem hi, List.drop_append, List.take_append]
  have e : ((([l[i]] : List UInt8).drop (17 * j - (l.take i).length)).take (16 - ((l.take i).drop (17 * j)).length)) = [] := by
    rw [List.length_take, Nat.min_eq_left (by omega), List.length_drop, List.length_take, Nat.min_eq_left (by omega)]
    by_cases h1 : j = i / 17
    · have h2 : i % 17 = 16 := by
        by_cases h3 : i % 17 = 16
        · exact h3
        · exact absurd ⟨h1, h3⟩ h
      rw [show 16 - (i - 17 * j) = 0 by omega, List.take_zero]
    · by_cases h2 : j < i / 17
      · rw [show 16 - (i - 17 * j) = 0 by omega, List.take_zero]
      · rw [List.drop_eq_nil_of_le (by simp; omega), List.take_nil]
  rw [e, List.append_nil]
theorem segTo_step {l : List UInt8} {i : Nat} (hi : i < l.length) (h : i % 17 ≠ 16) : segTo l (i + 1) (i / 17) = segTo l i (i / 17) ++ [l[i]] := by
  unfold segTo
  rw [List.take_succ_eq_append_getElem hi, List.drop_append, List.take_append]
  have hl : (l.take i).length = i := by rw [List.length_take]; omega
  rw [hl, List.length_drop, hl, show 17 * (i / 17) - i = 0 by omega, List.drop_zero, List.take_of_length_le (l := [l[i]]) (by simp; omega)]
end Go.Proofs.YtnegnmjjibhldaaDoor
