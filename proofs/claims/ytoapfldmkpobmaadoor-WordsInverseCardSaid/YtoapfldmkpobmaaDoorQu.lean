/- Layer 1: Quote and Unquote are inverse, plain. -/
import Derived.Test.YtoapfldmkpobmaaDoorZ
namespace Go.Proofs.YtoapfldmkpobmaaDoor
theorem escAll_cons (c : UInt8) (s : List UInt8) : escAll (c :: s) = escL c ++ escAll s := by unfold escAll; simp
theorem unesc_of (c : UInt8) (r : List UInt8) : unescL (escL c ++ r) = some c := unescL_some (pre_iff.2 ⟨r, rfl⟩)
theorem escL_head (c : UInt8) : ∃ y t, escL c = y :: t ∧ y ≠ 34 := by
  rcases escL_cases c with ⟨hp, e⟩ | ⟨_, k, _, _, e⟩ | ⟨_, _, e⟩
  · refine ⟨c, [], e, fun h => ?_⟩
    rw [h] at hp; revert hp; decide
  · exact ⟨92, _, e, by decide⟩
  · exact ⟨92, _, e, by decide⟩
theorem escAll_len (s : List UInt8) : s.length ≤ (escAll s).length := by
  induction s with
  | nil => simp [escAll]
  | cons c s ih => rw [escAll_cons, List.length_append]; have := escL_pos c; simp only [List.length_cons]; omega
theorem qScan_esc : ∀ (s r acc : List UInt8) (a f : Nat), s.length < f → qScan f (escAll s ++ 34 :: r) acc a = some (acc ++ s, a + (escAll s).length + 1)
  | [], r, acc, a, f + 1, _ => by
    show qScan (f + 1) (34 :: r) acc a = _
    unfold qScan
    rw [if_pos rfl]; simp [escAll]
  | c :: s, r, acc, a, f + 1, h => by
    obtain ⟨y, t, e, hy⟩ := escL_head c
    have hu := unesc_of c (escAll s ++ 34 :: r)
    have ih := qScan_esc s r (acc ++ [c]) (a + (escL c).length) f (by simp only [List.length_cons] at h; omega)
    rw [escAll_cons, List.append_assoc]
    have hd : (escL c ++ (escAll s ++ 34 :: r)).drop (escL c).length = escAll s ++ 34 :: r := List.drop_left
    rw [← hd] at ih
    have e2 : escL c ++ (escAll s ++ 34 :: r) = y :: (t ++ (escAll s ++ 34 :: r)) := by rw [e]; rfl
    rw [e2] at hu ih ⊢
    unfold qScan
    rw [if_neg hy, hu]
    simp only
    rw [ih, List.length_append, List.append_assoc]
    simp; omega
  | [], _, _, _, 0, h => by omega
  | _ :: _, _, _, _, 0, h => by omega
theorem qScan_back : ∀ (f : Nat) (l acc : List UInt8) (a : Nat) (t : List UInt8) (n : Nat), qScan f l acc a = some (t, n) → ∃ s r, t = acc ++ s ∧ l = escAll s ++ 34 :: r ∧ n = a + (escAll s).length + 1
  | 0, _, _, _, _, _, h => by cases h
  | f + 1, [], _, _, _, _, h => by cases h
  | f + 1, c :: r, acc, a, t, n, h => by
    unfold qScan at h
    by_cases hc : c = 34
    · rw [if_pos hc] at h
      cases h
      exact ⟨[], r, by simp, by simp [escAll, hc], by simp [escAll]⟩
    · rw [if_neg hc] at h
      cases hu : unescL (c :: r) with
      | none => rw [hu] at h; cases h
      | some b =>
        rw [hu] at h
        obtain ⟨t', ht⟩ := pre_iff.1 (unescL_inv hu)
        have hd : (c :: r).drop (escL b).length = t' := by rw [← ht]; exact List.drop_left
        simp only [hd] at h
        obtain ⟨s, r', e1, e2, e3⟩ := qScan_back f _ _ _ _ _ h
        refine ⟨b :: s, r', by rw [e1]; simp, by rw [← ht, escAll_cons, e2, List.append_assoc], ?_⟩
        rw [escAll_cons, List.length_append]; omega
/-- A quoted form at the beginning is read whole. -/
theorem qL_quote (s r : List UInt8) : qL (quoteL s ++ r) = some (s, (quoteL s).length) := by
  have e : quoteL s ++ r = 34 :: (escAll s ++ 34 :: r) := by unfold quoteL; simp
  rw [e]
  unfold qL
  simp only [if_true]
  rw [qScan_esc s r [] 1 _ (by have := escAll_len s; simp only [List.length_append, List.length_cons]; omega)]
  unfold quoteL
  simp; omega
/-- What is read is a quoted form. -/
theorem qL_back {l t : List UInt8} {n : Nat} (h : qL l = some (t, n)) : ∃ r, l = quoteL t ++ r ∧ n = (quoteL t).length := by
  unfold qL at h
  cases l with
  | nil => cases h
  | cons c r =>
    by_cases hc : c = 34
    · simp only [if_pos hc] at h
      obtain ⟨s, r', e1, e2, e3⟩ := qScan_back _ _ _ _ _ _ h
      obtain rfl : t = s := by simpa using e1
      refine ⟨r', by rw [hc, e2]; unfold quoteL; simp, by rw [e3]; unfold quoteL; simp; omega⟩
    · simp only [if_neg hc] at h; cases h
theorem unq_quote (s : List UInt8) : unqE (quoteL s) = 0 ∧ unqT (quoteL s) = s := by
  have h := qL_quote s []
  rw [List.append_nil] at h
  have hn : qN (quoteL s) = (quoteL s).length := by unfold qN; rw [h]
  have hp : (quoteL s).length ≠ 0 := by unfold quoteL; simp
  unfold unqE unqT
  rw [hn, if_pos ⟨rfl, hp⟩, if_pos ⟨rfl, hp⟩]
  exact ⟨rfl, by unfold qT; rw [h]⟩
theorem quote_unq {l : List UInt8} (h : unqE l = 0) : quoteL (unqT l) = l := by
  unfold unqE at h
  by_cases hc : qN l = l.length ∧ qN l ≠ 0
  · unfold unqT
    rw [if_pos hc]
    cases hq : qL l with
    | none => have := hc.2; unfold qN at this; rw [hq] at this; exact absurd rfl this
    | some p =>
      obtain ⟨t, n⟩ := p
      obtain ⟨r, e1, e2⟩ := qL_back hq
      have hn : qN l = n := by unfold qN; rw [hq]
      have hlen := congrArg List.length e1
      rw [List.length_append, ← e2, ← hn, hc.1] at hlen
      have hr : r = [] := List.length_eq_zero_iff.1 (by omega)
      have ht : qT l = t := by unfold qT; rw [hq]
      rw [ht, e1, hr, List.append_nil]
  · rw [if_neg hc] at h; cases h
end Go.Proofs.YtoapfldmkpobmaaDoor
