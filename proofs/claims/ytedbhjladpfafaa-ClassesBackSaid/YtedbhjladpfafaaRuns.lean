/- Layer 3: what the runs of a set are: they do not touch each other, and have all its bytes. Plain. -/
import Derived.Test.YtedbhjladpfafaaL
namespace Go.Proofs.Ytedbhjladpfafaa
def runsUp (p : Nat → Bool) (k : Nat) : List (Nat × Nat) := runsOf p ((List.range k).filter p)
theorem runsUp_no {p : Nat → Bool} {k : Nat} (h : p k = false) : runsUp p (k + 1) = runsUp p k := by unfold runsUp; rw [upto_no h]
theorem runsUp_yes {p : Nat → Bool} {k : Nat} (h : p k = true) : runsUp p (k + 1) = stepR p (runsUp p k) k := by unfold runsUp; rw [upto_yes h, runsOf_add]
structure RunsInv (p : Nat → Bool) (k : Nat) (rs : List (Nat × Nat)) : Prop where
  ok : ∀ r ∈ rs, r.1 ≤ r.2 ∧ r.2 < k
  has : ∀ i, i < k → (p i = true ↔ ∃ r ∈ rs, r.1 ≤ i ∧ i ≤ r.2)
  gap : rs.Pairwise fun r s => r.2 + 1 < s.1
  last : ∀ j, k = j + 1 → p j = true → ∃ qs a, rs = qs ++ [(a, j)]
theorem RunsInv.low {p : Nat → Bool} {k : Nat} {rs : List (Nat × Nat)} (h : RunsInv p k rs) {r : Nat × Nat} (hr : r ∈ rs) : p r.2 = true :=
  (h.has r.2 (h.ok r hr).2).2 ⟨r, hr, (h.ok r hr).1, Nat.le_refl _⟩
theorem runs_inv (p : Nat → Bool) : ∀ k, RunsInv p k (runsUp p k)
  | 0 => ⟨by simp [runsUp, runsOf], fun i h => absurd h (by omega), by simp [runsUp, runsOf], fun j h => absurd h (by omega)⟩
  | k + 1 => by
    have ih := runs_inv p k
    cases hk : p k with
    | false =>
      rw [runsUp_no hk]
      refine ⟨fun r hr => ⟨(ih.ok r hr).1, by have := (ih.ok r hr).2; omega⟩, fun i hi => ?_, ih.gap, fun j e hj => ?_⟩
      · by_cases e : i = k
        · subst e
          rw [hk]
          constructor
          · intro h; cases h
          · rintro ⟨r, hr, _, h2⟩
            have := (ih.ok r hr).2; omega
        · exact ih.has i (by omega)
      · obtain rfl : j = k := by omega
        rw [hk] at hj; cases hj
    | true =>
      rw [runsUp_yes hk]
      unfold stepR
      by_cases hA : 0 < k ∧ p (k - 1) = true
      · rw [if_pos (by simp [hA.1, hA.2])]
        obtain ⟨qs, a, hq⟩ := ih.last (k - 1) (by omega) hA.2
        rw [hq] at ih
        rw [hq]
        simp only [List.dropLast_concat, List.getLast?_append, List.getLast?_singleton, Option.some_or, Option.getD_some]
        have hl := ih.ok (a, k - 1) (by simp)
        refine ⟨fun r hr => ?_, fun i hi => ?_, ?_, fun j e _ => ⟨qs, a, by rw [show j = k by omega]⟩⟩
        · rcases List.mem_append.1 hr with h | h
          · have := ih.ok r (by simp [h]); exact ⟨this.1, by omega⟩
          · simp at h; subst h; simp only at hl ⊢; omega
        · by_cases e : i = k
          · subst e
            rw [hk]
            refine ⟨fun _ => ⟨(a, i), by simp, ?_, Nat.le_refl _⟩, fun _ => rfl⟩
            simp only at hl ⊢; omega
          · rw [ih.has i (by omega)]
            constructor
            · rintro ⟨r, hr, h1, h2⟩
              rcases List.mem_append.1 hr with h | h
              · exact ⟨r, by simp [h], h1, h2⟩
              · simp at h; subst h; exact ⟨(a, k), by simp, h1, by simp only at h2 ⊢; omega⟩
            · rintro ⟨r, hr, h1, h2⟩
              rcases List.mem_append.1 hr with h | h
              · exact ⟨r, by simp [h], h1, h2⟩
              · simp at h; subst h; exact ⟨(a, k - 1), by simp, h1, by simp only at h2 ⊢; omega⟩
        · have := ih.gap
          rw [List.pairwise_append] at this ⊢
          refine ⟨this.1, by simp, fun r hr s hs => ?_⟩
          simp at hs; subst hs
          exact this.2.2 r hr (a, k - 1) (by simp)
      · rw [if_neg (by simpa using hA)]
        have far : ∀ r ∈ runsUp p k, r.2 + 1 < k := fun r hr => by
          have h1 := (ih.ok r hr).2
          have h2 := ih.low hr
          by_cases e : r.2 = k - 1
          · exact absurd ⟨by omega, by rw [← e]; exact h2⟩ hA
          · omega
        refine ⟨fun r hr => ?_, fun i hi => ?_, ?_, fun j e _ => ⟨runsUp p k, k, by obtain rfl : j = k := Nat.succ.inj e.symm; rfl⟩⟩
        · rcases List.mem_append.1 hr with h | h
          · have := ih.ok r h; exact ⟨this.1, by omega⟩
          · simp at h; subst h; simp
        · by_cases e : i = k
          · subst e
            rw [hk]
            exact ⟨fun _ => ⟨(i, i), by simp, Nat.le_refl _, Nat.le_refl _⟩, fun _ => rfl⟩
          · rw [ih.has i (by omega)]
            constructor
            · rintro ⟨r, hr, h1, h2⟩; exact ⟨r, by simp [hr], h1, h2⟩
            · rintro ⟨r, hr, h1, h2⟩
              rcases List.mem_append.1 hr with h | h
              · exact ⟨r, h, h1, h2⟩
              · simp at h; subst h; simp only at h1 h2; omega
        · rw [List.pairwise_append]
          refine ⟨ih.gap, by simp, fun r hr s hs => ?_⟩
          simp at hs; subst hs
          exact far r hr
theorem runsB_inv (p : Nat → Bool) : RunsInv p 256 (runsB p) := runs_inv p 256
theorem runsB_ok {p : Nat → Bool} {r : Nat × Nat} (h : r ∈ runsB p) : r.1 ≤ r.2 ∧ r.2 < 256 := (runsB_inv p).ok r h
theorem runsB_len (p : Nat → Bool) : (runsB p).length ≤ 256 := Nat.le_trans (runsOf_len p _) (listB_len p)
end Go.Proofs.Ytedbhjladpfafaa
