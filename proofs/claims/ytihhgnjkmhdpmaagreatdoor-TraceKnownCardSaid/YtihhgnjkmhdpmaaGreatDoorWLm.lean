/- Layer 1: lines of a text, plain. -/
import Derived.Test.YtihhgnjkmhdpmaaGreatDoorWLn
namespace Go.Proofs.YtihhgnjkmhdpmaaGreatDoor.W
open Go.RowKit
/-- The lines of what follows, the current one begun with 'cur'; what has no line feed is left. -/
def cutF : List UInt8 → List UInt8 → List (List UInt8)
  | _, [] => []
  | cur, c :: r => if c = 10 then cur :: cutF [] r else cutF (cur ++ [c]) r
theorem cutS_cutF (s : ByteArray) : ∀ i, i ≤ s.size → (cutS s i).1.map (fun b => b.data.toList) ++ cutF ((s.data.toList.take i).drop (cutS s i).2) (s.data.toList.drop i) = cutF [] s.data.toList
  | 0, _ => by simp [cutS]
  | i + 1, h => by
    have ih := cutS_cutF s i (by omega)
    have hle := cutS_le s i
    have hlt : i < s.size := by omega
    have hll : i < s.data.toList.length := by rw [length_data]; exact hlt
    rw [data_drop s i hlt] at ih
    have hg : s.data.toList[i] = s[i] := by
      have := data_get s i hlt
      rw [List.getElem?_eq_getElem hll] at this; exact Option.some.inj this
    by_cases hc : s[i] = 10
    · rw [cutF, if_pos hc] at ih
      rw [cutS, getD_at s i hlt, if_pos hc]
      rw [← ih, List.map_append, List.append_assoc]
      congr 1
      have e1 : (s.data.toList.take (i + 1)).drop (i + 1) = [] := List.drop_eq_nil_of_le (by rw [List.length_take]; omega)
      have e2 : (s.extract (cutS s i).2 i).data.toList = (s.data.toList.take i).drop (cutS s i).2 := by
        rw [Lib.extract_data, List.drop_take]
      simp only [List.map_cons, List.map_nil, List.cons_append, List.nil_append]
      rw [e1, e2]
    · rw [cutF, if_neg hc] at ih
      rw [cutS, getD_at s i hlt, if_neg hc]
      rw [← ih]
      congr 2
      rw [List.take_succ_eq_append_getElem hll, List.drop_append_of_le_length (by rw [List.length_take]; omega), hg]
theorem cutS_all (s : ByteArray) : (cutS s s.size).1.map (fun b => b.data.toList) = cutF [] s.data.toList := by
  have h := cutS_cutF s s.size (Nat.le_refl _)
  have e : s.data.toList.drop s.size = [] := List.drop_eq_nil_of_le (by rw [length_data]; exact Nat.le_refl _)
  rw [e] at h
  simpa [cutF] using h
theorem cutF_count : ∀ (l cur : List UInt8), (cutF cur l).length = l.count 10
  | [], _ => rfl
  | c :: r, cur => by
    rw [cutF]
    by_cases h : c = 10
    · rw [if_pos h, List.length_cons, cutF_count r [], h, List.count_cons_self]
    · rw [if_neg h, cutF_count r, List.count_cons_of_ne h]
theorem ib_pos : ∀ (l : List UInt8), 10 ∈ l → ∃ i : Nat, Lib.indexByte l 10 = (i : Int) ∧ i < l.length ∧ ∀ cur, cutF cur l = (cur ++ l.take i) :: cutF [] (l.drop (i + 1))
  | [], h => by simp at h
  | c :: r, h => by
    by_cases e : c = 10
    · subst e
      exact ⟨0, by simp [Lib.indexByte], by simp, fun cur => by rw [cutF, if_pos rfl]; simp⟩
    · obtain ⟨i, h1, h2, h3⟩ := ib_pos r (by rcases List.mem_cons.1 h with h | h; exact absurd h.symm e; exact h)
      have hb : (c == 10) = false := by simpa using e
      refine ⟨i + 1, ?_, by simp; omega, fun cur => ?_⟩
      · rw [Lib.indexByte, hb, h1]
        have : ((i : Int) == -1) = false := by rw [beq_eq_false_iff_ne]; omega
        simp [this]
      · rw [cutF, if_neg e, h3]; simp
theorem cut_pos {l : List UInt8} (h : 10 ∈ l) : ∃ i : Nat, i < l.length ∧ Lib.cut l [10] = (l.take i, l.drop (i + 1), true) ∧ cutF [] l = l.take i :: cutF [] (l.drop (i + 1)) := by
  obtain ⟨i, h1, h2, h3⟩ := ib_pos l h
  refine ⟨i, h2, ?_, by simpa using h3 []⟩
  unfold Lib.cut
  rw [Lib.index_one, h1, if_pos (by omega)]
  simp
theorem mk_toList (s : ByteArray) : (⟨s.data.toList.toArray⟩ : ByteArray) = s := by simp
end Go.Proofs.YtihhgnjkmhdpmaaGreatDoor.W
