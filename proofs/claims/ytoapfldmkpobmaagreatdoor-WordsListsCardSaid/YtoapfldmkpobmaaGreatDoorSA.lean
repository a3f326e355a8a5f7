/- Layer 1: the reference's bare and Split. -/
import Derived.Test.YtoapfldmkpobmaaGreatDoorM
import Derived.Test.YtoapfldmkpobmaaGreatDoorZ
import Derived.Deep.CutRange
namespace Go.Proofs.YtoapfldmkpobmaaGreatDoor
open Go.RowKit
def bareAll (l : List UInt8) : Bool := l.all bareB && decide (0 < l.length)
/-- How far the bytes that are no blank go. -/
def spN (l : List UInt8) : Nat := (l.takeWhile (fun c => decide (c ≠ 32))).length
/-- What stands for a field that was read: how long it is, its string, whether it is quoted. -/
def RF (l : List UInt8) (n : Nat) (t : List UInt8) (q : Bool) : Prop := n = fLen l ∧ n ≠ 0 ∧ t = fStr l ∧ q = fQuo l
theorem qN_head (l : List UInt8) (h : qN l ≠ 0) : l.head? = some 34 := by
  cases l with
  | nil => exact absurd rfl h
  | cons c r =>
    by_cases hc : c = 34
    · rw [hc]; rfl
    · exfalso
      apply h
      unfold qN qL
      simp only [if_neg hc]
theorem bare_ne34 (c : UInt8) (h : bareB c = true) : c ≠ 34 := by
  rintro rfl; revert h; decide
theorem bareN_eq {l : List UInt8} {j : Nat} (hj : j ≤ l.length) (h : (l.take j).all bareB = true) (hn : ∀ c, l[j]? = some c → bareB c = false) : bareN l = j := by
  unfold bareN
  have e := List.take_append_drop j l
  rw [← e, List.takeWhile_append_of_pos (by simpa using h), List.length_append, List.length_take, Nat.min_eq_left hj]
  cases hd : l.drop j with
  | nil => simp
  | cons c r =>
    have : l[j]? = some c := by
      have := List.getElem?_drop (xs := l) (i := j) (j := 0); rw [hd] at this; simpa using this.symm
    rw [List.takeWhile_cons, hn c this]; simp
theorem rf_bare {l : List UInt8} {j : Nat} (hj : j ≤ l.length) (h0 : 0 < j) (hb : (l.take j).all bareB = true) (hn : ∀ c, l[j]? = some c → c = 32) : RF l j (l.take j) false := by
  have hh : ¬ l.head? = some 34 := by
    intro e
    cases l with
    | nil => cases e
    | cons c r =>
      simp at e; subst e
      rw [show j = (j - 1) + 1 by omega, List.take_succ_cons, List.all_cons] at hb
      simp at hb
      exact bare_ne34 34 hb.1 rfl
  obtain ⟨e1, e2, e3⟩ := fBare l hh
  have hN := bareN_eq hj hb (fun c hc => by rw [hn c hc]; decide)
  exact ⟨by rw [e3, hN], by omega, by rw [e1, hN], e2.symm⟩
theorem rf_bad {l : List UInt8} {j : Nat} (hq : qN l = 0) (hj : j ≤ l.length) (hb : ¬ ((l.take j).all bareB = true ∧ 0 < j)) (hlt : ∀ i c, i < j → l[i]? = some c → c ≠ 32) (hn : ∀ c, l[j]? = some c → c = 32) : fBad l = true := by
  by_cases hh : l.head? = some 34
  · obtain ⟨_, _, e3⟩ := fQuoted l hh
    unfold fBad; rw [e3, hq]; rfl
  · obtain ⟨_, _, e3⟩ := fBare l hh
    unfold fBad
    rw [e3]
    rcases Nat.lt_or_ge (bareN l) j with h | h
    · have hl : bareN l < l.length := by omega
      have hc : l[bareN l]? = some l[bareN l] := List.getElem?_eq_getElem hl
      have h3 := hlt _ _ h hc
      rw [List.getD_eq_getElem?_getD, hc]
      simp [hl, h3]
    · have hall : (l.take j).all bareB = true := by
        have hp : l.take j <+: l.takeWhile bareB := by
          have h1 := List.takeWhile_prefix bareB (l := l)
          have h2 := List.take_prefix j l
          exact List.prefix_of_prefix_length_le h2 h1 (by rw [List.length_take]; unfold bareN at h; omega)
        rw [List.all_eq_true]
        intro c hc
        have := hp.subset hc
        exact List.all_eq_true.1 List.all_takeWhile c this
      have hj0 : j = 0 := by
        rcases Nat.eq_zero_or_pos j with h | h
        · exact h
        · exact absurd ⟨hall, h⟩ hb
      subst hj0
      have : bareN l = 0 := by
        unfold bareN
        cases l with
        | nil => rfl
        | cons c r =>
          have := hn c rfl
          subst this
          rw [List.takeWhile_cons, show bareB 32 = false by decide]; rfl
      rw [this]; rfl
theorem rf_end {l : List UInt8} {n : Nat} {t : List UInt8} {q : Bool} (h : RF l n t q) (he : n = l.length) : fGo l = [⟨t, q, true⟩] := by
  obtain ⟨h1, h2, h3, h4⟩ := h
  have hb : fBad l = false := by
    have : l.length ≠ 0 := by omega
    unfold fBad; rw [← h1, he]; simp [this]
  rw [fGo_eq, hb, if_neg (by decide), ← h1, if_pos he, h3, h4]
theorem rf_next {l : List UInt8} {n : Nat} {t : List UInt8} {q : Bool} (h : RF l n t q) (hn : l[n]? = some 32) : fGo l = ⟨t, q, true⟩ :: fGo (l.drop (n + 1)) := by
  obtain ⟨h1, h2, h3, h4⟩ := h
  have hlt := (List.getElem?_eq_some_iff.1 hn).1
  have hb : fBad l = false := by unfold fBad; rw [← h1, List.getD_eq_getElem?_getD, hn]; simp; omega
  rw [fGo_eq, hb, if_neg (by decide), ← h1, if_neg (by omega), h3, h4]
theorem rf_stop {l : List UInt8} {n : Nat} {t : List UInt8} {q : Bool} {c : UInt8} (h : RF l n t q) (hn : l[n]? = some c) (hc : c ≠ 32) : fBad l = true := by
  have hlt := (List.getElem?_eq_some_iff.1 hn).1
  unfold fBad; rw [← h.1, List.getD_eq_getElem?_getD, hn]; simp [hlt, hc]
theorem spPost_err {w w' : World} {l : List UInt8} {c : Int} (h : spE l = c) (hc : c ≠ 0) (hb : Below w.heap.size w w') : SpPost w l (.returned (.tuple #[.slice none 0 0, .int .i64 c])) w' :=
  ⟨hb, _, by rw [h], fun e => absurd (h.symm.trans e) hc, fun _ => rfl⟩
theorem spE_bad {l : List UInt8} {pre : List Item} {L : List UInt8} (h8 : ¬ 8192 < l.length) (h : fAll l = pre ++ fGo L) (hb : fBad L = true) : spE l = 6 := by
  have hg : spGood l = false := by
    unfold spGood
    rw [List.all_eq_false]
    refine ⟨⟨[], false, false⟩, ?_, by simp⟩
    rw [h, fGo_eq, if_pos hb]; simp
  unfold spE; rw [if_neg h8, hg]; rfl
end Go.Proofs.YtoapfldmkpobmaaGreatDoor
