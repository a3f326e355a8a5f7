/- Layer 1: what the reference's ParseList looks at, plain: the pieces at a hyphen, the last number of ascending runs. -/
import Derived.Test.YtoapfldmkpobmaaGreatDoorRb
import Derived.Test.YtoapfldmkpobmaaGreatDoorQi
namespace Go.Proofs.YtoapfldmkpobmaaGreatDoor
theorem form_nat {l : List UInt8} (h : (45 : UInt8) ∉ l) : intForm l = natL l := by
  have hm : minusB l = false := by
    cases l with
    | nil => rfl
    | cons c r =>
      unfold minusB Lib.hasPrefix
      have hc : c ≠ 45 := fun e => h (by rw [e]; simp)
      show ((45 : UInt8) == c && [].isPrefixOf r) = false
      rw [beq_eq_false_iff_ne.2 (Ne.symm hc)]
      rfl
  have hd : dropM l = l := by
    unfold dropM Lib.trimPrefix
    unfold minusB at hm
    rw [hm]; rfl
  unfold intForm
  rw [hd, hm]
  simp
theorem dash_cases (x : ByteArray) :
    (pF 45 [] x.data.toList = [(spF x).data.toList] ∧ spL x = spF x ∧ spB x = natL (spF x).data.toList ∧ (45 : UInt8) ∉ (spF x).data.toList) ∨
    (pF 45 [] x.data.toList = [(spF x).data.toList, (spL x).data.toList] ∧ spB x = (natL (spF x).data.toList && (natL (spL x).data.toList && lowB (spF x) (spL x))) ∧ (45 : UInt8) ∉ (spF x).data.toList ∧ (45 : UInt8) ∉ (spL x).data.toList) ∨
    (3 ≤ (pF 45 [] x.data.toList).length ∧ spB x = false) := by
  by_cases h : (45 : UInt8) ∈ x.data.toList
  · obtain ⟨a, b, e, ha⟩ := cut_first h
    have hc : Lib.cut x.data.toList [45] = (a, b, true) := by rw [e]; exact cut_at ha
    have hF : (spF x).data.toList = a := by show (Lib.cut x.data.toList [45]).1 = a; rw [hc]
    have hL : (spL x).data.toList = b := by unfold spL; rw [hc]; rfl
    have hB : spB x = (natL (spF x).data.toList && (natL (spL x).data.toList && lowB (spF x) (spL x))) := by unfold spB; rw [hc]; rfl
    have hP : pF 45 [] x.data.toList = a :: pF 45 [] b := by rw [e, pF_at [] b ha]; rfl
    by_cases hb : (45 : UInt8) ∈ b
    · refine .inr (.inr ⟨?_, ?_⟩)
      · obtain ⟨a2, b2, e2, ha2⟩ := cut_first hb
        rw [hP, e2, pF_at [] b2 ha2]
        have := List.length_pos_iff.2 (pF_ne 45 b2 [])
        simp; omega
      · have hn : natL (spL x).data.toList = false := by
          rw [hL]
          by_cases hn : natL b = true
          · exact absurd hb (nat_no hn).1
          · simpa using hn
        rw [hB, hn]; simp
    · refine .inr (.inl ⟨?_, hB, by rw [hF]; exact ha, by rw [hL]; exact hb⟩)
      rw [hP, hF, hL, pF_none [] hb]; rfl
  · have hc := cut_none h
    have hF : (spF x).data.toList = x.data.toList := by show (Lib.cut x.data.toList [45]).1 = _; rw [hc]
    refine .inl ⟨?_, by unfold spL; rw [hc]; rfl, by unfold spB; rw [hc]; simp, by rw [hF]; exact h⟩
    rw [hF, pF_none [] h]; rfl
/-- The number that a decimal form stands for. -/
def nn (x : ByteArray) : Nat := natFrom 0 x.data.toList
theorem sp_nats {x : ByteArray} (h : spB x = true) : natL (spF x).data.toList = true ∧ natL (spL x).data.toList = true ∧ nn (spF x) ≤ nn (spL x) := by
  rcases dash_cases x with ⟨_, h2, h3, _⟩ | ⟨_, h3, _⟩ | ⟨_, h3⟩
  · rw [h3] at h
    rw [h2]
    exact ⟨h, h, Nat.le_refl _⟩
  · rw [h3, Bool.and_eq_true, Bool.and_eq_true] at h
    exact ⟨h.1, h.2.1, Nat.le_of_lt (nat_lower h.1 h.2.1 h.2.2)⟩
  · rw [h3] at h; cases h
theorem errL_eq {x : ByteArray} (h : spB x = true) : errL x = if 1000000000 < nn (spL x) then 7 else 0 := by
  obtain ⟨_, f2, _⟩ := sp_nats h
  obtain ⟨_, _, f3, f4⟩ := nat_form f2
  unfold errL intE outR
  rw [f3, if_pos rfl, f4]
  unfold nn
  by_cases h9 : 1000000000 < natFrom 0 (spL x).data.toList
  · rw [if_pos h9, if_pos (by simp; omega)]
  · rw [if_neg h9, if_neg (by simp; omega)]
theorem suc_nat {p : ByteArray} (h : natL p.data.toList = true) : natL (sucS p).data.toList = true ∧ nn (sucS p) = nn p + 1 := by
  have e := nat_dec _ h
  have e2 : (sucS p).data.toList = Lib.decDigits (nn p + 1) := by
    show sucL p.data.toList = _
    rw [← suc_dec]
    unfold nn
    rw [e]
  unfold nn
  rw [e2]
  exact dec_nat _
theorem last_err : ∀ (L : List ByteArray) (p : Option ByteArray), (∀ y, p = some y → natL y.data.toList = true) → spansB p L = true →
    (lastE L = match L.getLast? with | none => 0 | some z => errL z) ∧ ∀ y, p = some y → ∀ z, L.getLast? = some z → nn y < nn (spL z)
  | [], _, _, _ => ⟨rfl, fun _ _ z hz => by cases hz⟩
  | x :: r, p, hp, h => by
    unfold spansB at h
    rw [Bool.and_eq_true, Bool.and_eq_true] at h
    obtain ⟨hB, hP, hR⟩ := h
    obtain ⟨f1, f2, f3⟩ := sp_nats hB
    have hpx : ∀ y, p = some y → nn y < nn (spF x) := fun y e => by
      subst e
      have hy := hp y rfl
      obtain ⟨s1, s2⟩ := suc_nat hy
      have := nat_lower s1 f1 hP
      unfold nn at s2 ⊢
      omega
    obtain ⟨i1, i2⟩ := last_err r (some (spL x)) (fun y e => by cases e; exact f2) hR
    cases r with
    | nil =>
      refine ⟨?_, fun y e z hz => ?_⟩
      · show (if errL x ≠ 0 then errL x else 0) = errL x
        by_cases h0 : errL x = 0
        · rw [if_neg (by simpa using h0), h0]
        · rw [if_pos h0]
      · obtain rfl : x = z := by simpa using hz
        have := hpx y e
        omega
    | cons x2 r =>
      have hl : (x :: x2 :: r).getLast? = (x2 :: r).getLast? := List.getLast?_cons_cons
      obtain ⟨z, hz⟩ : ∃ z, (x2 :: r).getLast? = some z := ⟨_, List.getLast?_eq_some_getLast (by simp)⟩
      have hlt := i2 (spL x) rfl z hz
      rw [hl]
      refine ⟨?_, fun y e z' hz' => ?_⟩
      · rw [hz] at i1 ⊢
        show (if errL x ≠ 0 then errL x else lastE (x2 :: r)) = errL z
        by_cases h0 : errL x = 0
        · rw [if_neg (by simpa using h0)]; exact i1
        · rw [if_pos h0]
          have hzB : spB z = true := spans_mem _ _ hR z (List.mem_of_getLast? hz)
          rw [errL_eq hB] at h0 ⊢
          rw [errL_eq hzB]
          by_cases h9 : 1000000000 < nn (spL x)
          · rw [if_pos h9, if_pos (by omega)]
          · rw [if_neg h9] at h0; exact absurd rfl h0
      · rw [hz] at hz'
        cases hz'
        have := hpx y e
        omega
where
  spans_mem : ∀ (L : List ByteArray) (p : Option ByteArray), spansB p L = true → ∀ x ∈ L, spB x = true
  | [], _, _, x, hx => by cases hx
  | y :: r, p, h, x, hx => by
    unfold spansB at h
    rw [Bool.and_eq_true, Bool.and_eq_true] at h
    rcases List.mem_cons.1 hx with rfl | hx
    · exact h.1
    · exact spans_mem r _ h.2.2 x hx
end Go.Proofs.YtoapfldmkpobmaaGreatDoor
