/- Plain: at most four parts of a line, against all its parts. No program. -/
import Derived.Test.YtihhgnjkmhdpmaaGreatDoorPc
import Derived.Lib.Split
namespace Go.Proofs.YtihhgnjkmhdpmaaGreatDoor
theorem idx_blank : ∀ l : List UInt8, ((32 : UInt8) ∉ l ∧ Lib.index l [32] = -1) ∨ ∃ x r, l = x ++ 32 :: r ∧ (32 : UInt8) ∉ x ∧ Lib.index l [32] = (x.length : Int)
  | [] => .inl ⟨by simp, rfl⟩
  | b :: l => by
    by_cases hb : b = 32
    · exact .inr ⟨[], l, by rw [hb]; rfl, by simp, by rw [hb]; unfold Lib.index; simp [List.isPrefixOf]⟩
    · have hp : ([32] : List UInt8).isPrefixOf (b :: l) = false := by
        simp [List.isPrefixOf]; exact fun e => hb e.symm
      rcases idx_blank l with ⟨h1, h2⟩ | ⟨x, r, h1, h2, h3⟩
      · refine .inl ⟨?_, by unfold Lib.index; rw [hp, h2]; rfl⟩
        simp only [List.mem_cons, not_or]
        exact ⟨fun e => hb e.symm, h1⟩
      · refine .inr ⟨b :: x, r, by rw [h1]; rfl, ?_, ?_⟩
        · simp only [List.mem_cons, not_or]
          exact ⟨fun e => hb e.symm, h2⟩
        · unfold Lib.index
          rw [hp, h3]
          have : ¬ ((x.length : Int) == -1) = true := by rw [beq_iff_eq]; omega
          rw [if_neg (by simp), if_neg this]
          simp
theorem cutC_len (c : UInt8) : ∀ (l cur : List UInt8), 1 ≤ (cutC c cur l).length ∧ (cutC c cur l).length ≤ l.length + 1
  | [], cur => by simp [cutC]
  | x :: r, cur => by
    rw [cutC]
    split
    · have := cutC_len c r []
      simp; omega
    · have := cutC_len c r (cur ++ [x])
      simp; omega
theorem split_parts : ∀ (k : Nat) (l : List UInt8), ((cutC 32 [] l).length ≤ k + 1 → Lib.splitK [32] 0 k l = cutC 32 [] l) ∧ (k + 1 ≤ (cutC 32 [] l).length → (Lib.splitK [32] 0 k l).length = k + 1)
  | 0, l => by
    unfold Lib.splitK
    refine ⟨fun h => ?_, fun _ => rfl⟩
    rcases idx_blank l with ⟨h1, _⟩ | ⟨x, r, rfl, h2, _⟩
    · rw [cutC_none _ h1]; rfl
    · rw [cutC_app _ _ h2] at h
      have := (cutC_len 32 r []).1
      rw [List.length_cons] at h; omega
  | k + 1, l => by
    rcases idx_blank l with ⟨h1, h2⟩ | ⟨x, r, rfl, h2, h3⟩
    · have e : Lib.splitK [32] 0 (k + 1) l = [l] := by unfold Lib.splitK; rw [h2]; rfl
      rw [e, cutC_none _ h1]
      exact ⟨fun _ => rfl, fun h => by simp at h⟩
    · have e : Lib.splitK [32] 0 (k + 1) (x ++ 32 :: r) = x :: Lib.splitK [32] 0 k r := by
        have hm : ¬ (((x.length : Nat) : Int) == -1) = true := by rw [beq_iff_eq]; omega
        rw [Lib.splitK, h3, if_neg hm]
        simp
      have ih := split_parts k r
      rw [e, cutC_app _ _ h2]
      simp only [List.nil_append, List.length_cons]
      exact ⟨fun h => by rw [ih.1 (by omega)], fun h => by rw [ih.2 (by omega)]⟩
/-- What SplitN(s, " ", 4) gives: the parts, if they are at most three; else four. -/
theorem split4 (s : ByteArray) (N : Nat) (hN : (N : Int) = min 4 ((s.size : Int) + 1)) : ((cutC 32 [] s.data.toList).length = 3 → (Lib.splitB ⟨#[32]⟩ 0 (N - 1) s).map (·.data.toList) = cutC 32 [] s.data.toList) ∧ (¬ (cutC 32 [] s.data.toList).length = 3 → ¬ (Lib.splitB ⟨#[32]⟩ 0 (N - 1) s).length = 3) := by
  have hd := Lib.splitB_data ⟨#[32]⟩ 0 (N - 1) s
  have hl : (Lib.splitB ⟨#[32]⟩ 0 (N - 1) s).length = (Lib.splitK [32] 0 (N - 1) s.data.toList).length := by
    rw [← List.length_map (f := (·.data.toList)), hd]
  have hc := (cutC_len 32 s.data.toList []).2
  rw [W.length_data] at hc
  obtain ⟨h1, h2⟩ := split_parts (N - 1) s.data.toList
  refine ⟨fun h => ?_, fun h => ?_⟩
  · rw [hd]; exact h1 (by omega)
  · rw [hl]
    by_cases hk : (cutC 32 [] s.data.toList).length ≤ N - 1 + 1
    · rw [h1 hk]; exact h
    · rw [h2 (by omega)]; omega
end Go.Proofs.YtihhgnjkmhdpmaaGreatDoor
