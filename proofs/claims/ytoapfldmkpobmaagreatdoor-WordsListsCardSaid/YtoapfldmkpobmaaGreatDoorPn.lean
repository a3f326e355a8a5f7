/- Layer 1: of two decimal forms the lower one is the lesser number; a run's first number is not above its last. -/
import Derived.Test.YtoapfldmkpobmaaGreatDoorPf
namespace Go.Proofs.YtoapfldmkpobmaaGreatDoor
open Go.RowKit
theorem dig_rng {c : UInt8} (h : digitB c = true) : 48 ≤ c.toNat ∧ c.toNat ≤ 57 := by
  unfold digitB at h
  simp at h
  omega
theorem nat_hi (l : List UInt8) (hd : l.all digitB = true) : ∀ acc, natFrom acc l < (acc + 1) * 10 ^ l.length ∧ acc * 10 ^ l.length ≤ natFrom acc l := by
  induction l with
  | nil => intro acc; simp [natFrom]
  | cons c r ih =>
    intro acc
    rw [List.all_cons, Bool.and_eq_true] at hd
    have hc := dig_rng hd.1
    have h := ih hd.2 (10 * acc + (c.toNat - 48))
    rw [natFrom_cons, List.length_cons, Nat.pow_succ]
    generalize natFrom (10 * acc + (c.toNat - 48)) r = N at *
    generalize 10 ^ r.length = P at *
    have h1 : (10 * acc + (c.toNat - 48) + 1) * P ≤ (10 * acc + 10) * P := Nat.mul_le_mul_right _ (by omega)
    have h2 : (10 * acc) * P ≤ (10 * acc + (c.toNat - 48)) * P := Nat.mul_le_mul_right _ (by omega)
    have e1 : (acc + 1) * (P * 10) = (10 * acc + 10) * P := by
      rw [show 10 * acc + 10 = 10 * (acc + 1) by omega, Nat.mul_comm 10 (acc + 1), Nat.mul_assoc, Nat.mul_comm P 10]
    have e2 : acc * (P * 10) = (10 * acc) * P := by
      rw [Nat.mul_comm 10 acc, Nat.mul_assoc, Nat.mul_comm P 10]
    rw [e1, e2]
    omega
theorem nat_less : ∀ (a b : List UInt8), a.length = b.length → a.all digitB = true → b.all digitB = true → Op.bytesLess a b = true → ∀ acc, natFrom acc a < natFrom acc b
  | [], [], _, _, _, h => by simp [Op.bytesLess] at h
  | x :: xs, [], hl, _, _, _ => by simp at hl
  | [], y :: ys, hl, _, _, _ => by simp at hl
  | x :: xs, y :: ys, hl, ha, hb, h => by
    intro acc
    rw [List.all_cons, Bool.and_eq_true] at ha hb
    have hx := dig_rng ha.1
    have hy := dig_rng hb.1
    have hl' : xs.length = ys.length := by simpa using hl
    rw [show Op.bytesLess (x :: xs) (y :: ys) = (decide (x < y) || (x == y && Op.bytesLess xs ys)) from rfl, Bool.or_eq_true, Bool.and_eq_true] at h
    rw [natFrom_cons, natFrom_cons]
    rcases h with h | h
    · have hxy : x.toNat < y.toNat := by simpa [UInt8.lt_iff_toNat_lt] using h
      have h1 := (nat_hi xs ha.2 (10 * acc + (x.toNat - 48))).1
      have h2 := (nat_hi ys hb.2 (10 * acc + (y.toNat - 48))).2
      rw [← hl'] at h2
      have h3 : (10 * acc + (x.toNat - 48) + 1) * 10 ^ xs.length ≤ (10 * acc + (y.toNat - 48)) * 10 ^ xs.length := Nat.mul_le_mul_right _ (by omega)
      omega
    · obtain rfl : x = y := by simpa using h.1
      exact nat_less xs ys hl' ha.2 hb.2 h.2 _
theorem nat_parts {l : List UInt8} (h : natL l = true) : ∃ c r, l = c :: r ∧ l.all digitB = true ∧ (1 < l.length → c ≠ 48) := by
  unfold natL at h
  simp only [Bool.and_eq_true, decide_eq_true_eq, Bool.not_eq_true', Bool.and_eq_false_iff, decide_eq_false_iff_not] at h
  obtain ⟨⟨h1, h2⟩, h3⟩ := h
  cases l with
  | nil => simp at h1
  | cons c r => exact ⟨c, r, rfl, h3, fun hl => by rcases h2 with h2 | h2; simpa using h2; exact absurd hl h2⟩
theorem nat_lower {a b : ByteArray} (ha : natL a.data.toList = true) (hb : natL b.data.toList = true) (h : lowB a b = true) : natFrom 0 a.data.toList < natFrom 0 b.data.toList := by
  obtain ⟨_, _, _, da, _⟩ := nat_parts ha
  obtain ⟨c, r, e, db, hz⟩ := nat_parts hb
  unfold lowB at h
  by_cases hl : a.size = b.size
  · rw [if_pos hl, toList_data, toList_data] at h
    exact nat_less _ _ (by rw [length_data, length_data, hl]) da db h 0
  · rw [if_neg hl] at h
    have hlt : a.size < b.size := by simpa using h
    rw [← length_data a, ← length_data b] at hlt
    have h1 := (nat_hi _ da 0).1
    have ha1 : 1 ≤ a.data.toList.length := by
      unfold natL at ha
      simp only [Bool.and_eq_true, decide_eq_true_eq] at ha
      exact ha.1.1
    rw [e] at hlt hz db ⊢
    have hc : c ≠ 48 := hz (by omega)
    rw [List.all_cons, Bool.and_eq_true] at db
    have hd := dig_rng db.1
    have hc1 : 49 ≤ c.toNat := by
      have : c.toNat ≠ 48 := fun h => hc (UInt8.toNat_inj.mp (by rw [h]; rfl))
      omega
    have h2 := (nat_hi r db.2 (10 * 0 + (c.toNat - 48))).2
    rw [natFrom_cons]
    have h3 : 10 ^ a.data.toList.length ≤ 10 ^ r.length := Nat.pow_le_pow_right (by decide) (by rw [List.length_cons] at hlt; omega)
    have h4 : 1 * 10 ^ r.length ≤ (10 * 0 + (c.toNat - 48)) * 10 ^ r.length := Nat.mul_le_mul_right _ (by omega)
    omega
theorem nat_form {l : List UInt8} (h : natL l = true) : minusB l = false ∧ dropM l = l ∧ intForm l = true ∧ intVal l = (natFrom 0 l : Int) := by
  obtain ⟨c, r, e, hd, _⟩ := nat_parts h
  have hm : minusB l = false := by
    subst e
    rw [List.all_cons, Bool.and_eq_true] at hd
    have := dig_rng hd.1
    unfold minusB Lib.hasPrefix
    have hc : c ≠ 45 := fun h => by rw [h] at this; revert this; decide
    show ((45 : UInt8) == c && [].isPrefixOf r) = false
    rw [beq_eq_false_iff_ne.2 (Ne.symm hc)]
    rfl
  have hdr : dropM l = l := by
    unfold dropM Lib.trimPrefix
    unfold minusB at hm
    rw [hm]; rfl
  refine ⟨hm, hdr, ?_, ?_⟩
  · unfold intForm; rw [hdr, h, hm]; rfl
  · unfold intVal; rw [hm, hdr]; rfl
/-- Of a run whose last number is in range the first is not above it. -/
theorem num_le {x : ByteArray} (h : spB x = true) (he : errL x = 0) : numF x ≤ numL x := by
  unfold spB at h
  rw [Bool.and_eq_true] at h
  obtain ⟨hF, h2⟩ := h
  by_cases ht : (Lib.cut x.data.toList [45]).2.2 = true
  · rw [ht] at h2
    simp only [Bool.not_true, Bool.false_or, Bool.and_eq_true] at h2
    have hlt := nat_lower hF h2.1 h2.2
    obtain ⟨_, _, f3, f4⟩ := nat_form hF
    obtain ⟨_, _, l3, l4⟩ := nat_form h2.1
    unfold errL intE at he
    rw [l3, if_pos rfl] at he
    by_cases ho : outR (spL x).data.toList 0 1000000000 = true
    · rw [if_pos ho] at he; cases he
    · have ho' : outR (spL x).data.toList 0 1000000000 = false := by simpa using ho
      have hof : outR (spF x).data.toList 0 1000000000 = false := by
        unfold outR at ho' ⊢
        rw [l4] at ho'; rw [f4]
        simp at ho' ⊢; omega
      unfold numF numL intV
      rw [f3, l3, hof, ho', f4, l4]
      simp; omega
  · have : spL x = spF x := by unfold spL; rw [if_neg ht]
    unfold numF numL; rw [this]; exact Int.le_refl _
theorem spans_all : ∀ (L : List ByteArray) (p : Option ByteArray), spansB p L = true → lastE L = 0 → ∀ x ∈ L, spB x = true ∧ errL x = 0
  | [], _, _, _, x, hx => by cases hx
  | y :: r, p, h, he, x, hx => by
    unfold spansB at h
    rw [Bool.and_eq_true, Bool.and_eq_true] at h
    unfold lastE at he
    by_cases h0 : errL y ≠ 0
    · rw [if_pos h0] at he; exact absurd he h0
    · rw [if_neg h0] at he
      rcases List.mem_cons.1 hx with rfl | hx
      · exact ⟨h.1, by simpa using h0⟩
      · exact spans_all r _ h.2.2 he x hx
end Go.Proofs.YtoapfldmkpobmaaGreatDoor
