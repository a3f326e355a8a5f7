/- Layer 1: the next number's digits; the lesser number's digits are the lower. -/
import Derived.Test.YtoapfldmkpobmaaGreatDoorQi
namespace Go.Proofs.YtoapfldmkpobmaaGreatDoor
theorem sucL_snoc (l : List UInt8) (c : UInt8) : sucL (l ++ [c]) = if c = 57 then sucL l ++ [48] else l ++ [c + 1] := by
  unfold sucL
  rw [List.reverse_append, show [c].reverse ++ l.reverse = c :: l.reverse from rfl]
  by_cases h : c = 57
  · rw [if_pos h, show sucR (c :: l.reverse) = 48 :: sucR l.reverse from if_pos h, List.reverse_cons]
  · rw [if_neg h, show sucR (c :: l.reverse) = (c + 1) :: l.reverse from if_neg h, List.reverse_cons, List.reverse_reverse]
theorem dig_suc (d : Nat) (h : d < 9) : UInt8.ofNat (48 + d) ≠ 57 ∧ UInt8.ofNat (48 + d) + 1 = UInt8.ofNat (48 + (d + 1)) := by
  have : ∀ d : Fin 9, UInt8.ofNat (48 + d.val) ≠ 57 ∧ UInt8.ofNat (48 + d.val) + 1 = UInt8.ofNat (48 + (d.val + 1)) := by decide
  exact this ⟨d, h⟩
/-- The successor of a number's digits is the next number's. -/
theorem suc_dec (n : Nat) : sucL (Lib.decDigits n) = Lib.decDigits (n + 1) := by
  induction n using Nat.strongRecOn with
  | _ n ih =>
    by_cases h : n < 9
    · rw [Lib.decDigits_one (by omega), Lib.decDigits_one (by omega)]
      obtain ⟨e1, e2⟩ := dig_suc n h
      have := sucL_snoc [] (UInt8.ofNat (48 + n))
      rw [if_neg e1, e2] at this
      simpa using this
    · by_cases h9 : n = 9
      · subst h9
        rw [dec_step 10 (by omega), Lib.decDigits_one (by omega), Lib.decDigits_one (by omega)]
        decide
      · have i := ih (n / 10) (by omega)
        rw [dec_step n (by omega), dec_step (n + 1) (by omega), sucL_snoc]
        by_cases hm : n % 10 = 9
        · rw [hm, if_pos (by decide), i, show (n + 1) / 10 = n / 10 + 1 by omega, show (n + 1) % 10 = 0 by omega]
          rfl
        · obtain ⟨e1, e2⟩ := dig_suc (n % 10) (by omega)
          rw [if_neg e1, e2, show (n + 1) / 10 = n / 10 by omega, show (n + 1) % 10 = n % 10 + 1 by omega]
theorem bless_tri : ∀ (a b : List UInt8), a.length = b.length → Op.bytesLess a b = true ∨ Op.bytesLess b a = true ∨ a = b
  | [], [], _ => .inr (.inr rfl)
  | x :: xs, [], h => by simp at h
  | [], y :: ys, h => by simp at h
  | x :: xs, y :: ys, h => by
    have ih := bless_tri xs ys (by simpa using h)
    have e1 : Op.bytesLess (x :: xs) (y :: ys) = (decide (x < y) || (x == y && Op.bytesLess xs ys)) := rfl
    have e2 : Op.bytesLess (y :: ys) (x :: xs) = (decide (y < x) || (y == x && Op.bytesLess ys xs)) := rfl
    rw [e1, e2]
    by_cases h1 : x < y
    · exact .inl (by simp [h1])
    · by_cases h2 : y < x
      · exact .inr (.inl (by simp [h2]))
      · have hxy : x = y := by
          apply UInt8.toNat_inj.mp
          have a1 : ¬ x.toNat < y.toNat := by simpa [UInt8.lt_iff_toNat_lt] using h1
          have a2 : ¬ y.toNat < x.toNat := by simpa [UInt8.lt_iff_toNat_lt] using h2
          omega
        subst hxy
        rcases ih with i | i | i
        · exact .inl (by simp [i])
        · exact .inr (.inl (by simp [i]))
        · exact .inr (.inr (by rw [i]))
/-- The lesser number's digits are the lower. -/
theorem low_of_lt {a b : ByteArray} (ha : natL a.data.toList = true) (hb : natL b.data.toList = true) (h : natFrom 0 a.data.toList < natFrom 0 b.data.toList) : lowB a b = true := by
  by_cases hl : a.size = b.size
  · rcases bless_tri a.data.toList b.data.toList (by rw [length_data, length_data, hl]) with q | q | q
    · unfold lowB; rw [if_pos hl, toList_data, toList_data]; exact q
    · have := nat_lower hb ha (by unfold lowB; rw [if_pos hl.symm, toList_data, toList_data]; exact q)
      omega
    · rw [q] at h; omega
  · by_cases hs : a.size < b.size
    · unfold lowB; rw [if_neg hl]; exact decide_eq_true hs
    · have := nat_lower hb ha (by unfold lowB; rw [if_neg (fun e => hl e.symm)]; exact decide_eq_true (by omega))
      omega
end Go.Proofs.YtoapfldmkpobmaaGreatDoor
