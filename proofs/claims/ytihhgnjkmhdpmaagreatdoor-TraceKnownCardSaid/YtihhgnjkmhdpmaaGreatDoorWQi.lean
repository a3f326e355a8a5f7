/- Layer 1: Int and Digits are inverse, plain. -/
import Derived.Test.YtihhgnjkmhdpmaaGreatDoorWPn
namespace Go.Proofs.YtihhgnjkmhdpmaaGreatDoor.W
theorem natL_head {l : List UInt8} (h : natL l = true) (hp : 1 ≤ natFrom 0 l) : l.getD 0 0 ≠ 48 := by
  obtain ⟨c, r, e, hd, hz⟩ := nat_parts h
  subst e
  intro hc
  have hc' : c = 48 := by simpa using hc
  cases r with
  | nil => subst hc'; revert hp; decide
  | cons y t => exact hz (by simp) hc'
theorem natL_snoc {l : List UInt8} {c : UInt8} (h : natL l = true) (hp : 1 ≤ natFrom 0 l) (hc : digitB c = true) : natL (l ++ [c]) = true := by
  have hh := natL_head h hp
  obtain ⟨y, r, e, hd, _⟩ := nat_parts h
  subst e
  unfold natL
  rw [List.all_append, hd]
  have h1 : ((y :: r) ++ [c]).getD 0 0 ≠ 48 := by simpa using hh
  rw [decide_eq_false h1]
  simp [hc]
theorem dig_of (n : Nat) (h : n ≤ 9) : (UInt8.ofNat (48 + n)).toNat = 48 + n ∧ digitB (UInt8.ofNat (48 + n)) = true := by
  have e : (UInt8.ofNat (48 + n)).toNat = 48 + n := by simp; omega
  refine ⟨e, ?_⟩
  unfold digitB
  rw [e]
  simp; omega
theorem dec_step (n : Nat) (h : 10 ≤ n) : Lib.decDigits n = Lib.decDigits (n / 10) ++ [UInt8.ofNat (48 + n % 10)] := by
  rw [Lib.decDigits, dif_neg (by omega)]
theorem dec_nat (n : Nat) : natL (Lib.decDigits n) = true ∧ natFrom 0 (Lib.decDigits n) = n := by
  induction n using Nat.strongRecOn with
  | _ n ih =>
    by_cases h : n < 10
    · rw [Lib.decDigits_one (by omega)]
      obtain ⟨e1, e2⟩ := dig_of n (by omega)
      refine ⟨?_, ?_⟩
      · generalize UInt8.ofNat (48 + n) = c at *
        unfold natL; simp [e2]
      · unfold natFrom; simp only [List.foldl_cons, List.foldl_nil, e1]; omega
    · rw [dec_step n (by omega)]
      obtain ⟨i1, i2⟩ := ih (n / 10) (by omega)
      obtain ⟨e1, e2⟩ := dig_of (n % 10) (by omega)
      refine ⟨natL_snoc i1 (by rw [i2]; omega) e2, ?_⟩
      rw [natFrom_snoc, i2, e1]; omega
theorem nat_dec (l : List UInt8) (h : natL l = true) : Lib.decDigits (natFrom 0 l) = l := by
  have hd := (nat_parts h).choose_spec.choose_spec.2.1
  -- the last digit taken off
  induction hn : l.length using Nat.strongRecOn generalizing l with
  | _ n ih =>
    rcases List.eq_nil_or_concat l with rfl | ⟨r, c, rfl⟩
    · revert h; decide
    · simp only [List.concat_eq_append] at h hd hn ⊢
      rw [List.all_append, Bool.and_eq_true] at hd
      have hc : digitB c = true := by simpa using hd.2
      have hr := dig_rng hc
      rw [natFrom_snoc]
      have hcc : UInt8.ofNat (48 + (c.toNat - 48)) = c := by
        rw [show 48 + (c.toNat - 48) = c.toNat by omega]; simp
      cases r with
      | nil =>
        rw [show natFrom 0 [] = 0 from rfl, Lib.decDigits_one (by omega), Nat.mul_zero, Nat.zero_add, hcc]
        rfl
      | cons y t =>
        obtain ⟨y', t', e, _, hz⟩ := nat_parts h
        have hy : y ≠ 48 := by
          have : y' = y := by have := congrArg (List.getD · 0 0) e; simpa using this.symm
          rw [← this]; exact hz (by simp)
        have hnr : natL (y :: t) = true := by
          unfold natL
          rw [hd.1]
          simp [hy]
        have hlen : (y :: t).length < n := by rw [← hn]; simp
        have i1 := ih _ hlen (y :: t) hnr hd.1 rfl
        have hp : 1 ≤ natFrom 0 (y :: t) := by
          rw [List.all_cons, Bool.and_eq_true] at hd
          have hyr := dig_rng hd.1.1
          have : y.toNat ≠ 48 := fun q => hy (UInt8.toNat_inj.mp (by rw [q]; rfl))
          rw [natFrom_cons]
          have := natFrom_le t (10 * 0 + (y.toNat - 48))
          omega
        rw [dec_step _ (by omega), show (10 * natFrom 0 (y :: t) + (c.toNat - 48)) / 10 = natFrom 0 (y :: t) by omega, show (10 * natFrom 0 (y :: t) + (c.toNat - 48)) % 10 = c.toNat - 48 by omega, i1, hcc]
/-- What Digits writes, Int reads. -/
theorem int_itoa (n : Int) : intForm (Lib.itoa n) = true ∧ intVal (Lib.itoa n) = n := by
  unfold Lib.itoa
  by_cases h : n < 0
  · rw [if_pos h]
    obtain ⟨i1, i2⟩ := dec_nat n.natAbs
    have hm : minusB (45 :: Lib.decDigits n.natAbs) = true := by unfold minusB Lib.hasPrefix; simp [List.isPrefixOf]
    have hdr : dropM (45 :: Lib.decDigits n.natAbs) = Lib.decDigits n.natAbs := by
      unfold dropM Lib.trimPrefix
      unfold minusB at hm
      rw [hm]; rfl
    refine ⟨?_, ?_⟩
    · unfold intForm
      rw [hdr, hm, i1]
      have : Lib.decDigits n.natAbs ≠ [48] := fun e => by
        rw [e] at i2
        have : n.natAbs = 0 := by rw [← i2]; rfl
        omega
      simp [this]
    · unfold intVal
      rw [hm, hdr, i2, if_pos rfl]; omega
  · rw [if_neg h]
    obtain ⟨i1, i2⟩ := dec_nat n.toNat
    obtain ⟨_, _, f3, f4⟩ := nat_form i1
    exact ⟨f3, by rw [f4, i2]; omega⟩
/-- What Int reads, Digits writes. -/
theorem itoa_int {l : List UInt8} (h : intForm l = true) : Lib.itoa (intVal l) = l := by
  unfold intForm at h
  rw [Bool.and_eq_true] at h
  by_cases hm : minusB l = true
  · have hl : l = 45 :: dropM l := by
      unfold dropM Lib.trimPrefix
      unfold minusB at hm
      rw [hm]
      unfold Lib.hasPrefix at hm
      cases l with
      | nil => simp [List.isPrefixOf] at hm
      | cons c r => simp [List.isPrefixOf] at hm; rw [← hm]; rfl
    have hd := nat_dec _ h.1
    have hne : dropM l ≠ [48] := by have := h.2; rw [hm] at this; simpa using this
    have hp : 1 ≤ natFrom 0 (dropM l) := by
      refine Nat.one_le_iff_ne_zero.2 fun e => hne ?_
      rw [e] at hd
      rw [← hd]; exact Lib.decDigits_one (by omega)
    unfold intVal Lib.itoa
    rw [if_pos hm, if_pos (by omega), show (-(natFrom 0 (dropM l) : Int)).natAbs = natFrom 0 (dropM l) by omega, hd]
    exact hl.symm
  · have hm' : minusB l = false := by simpa using hm
    have hdr : dropM l = l := by
      unfold dropM Lib.trimPrefix
      unfold minusB at hm'
      rw [hm']; rfl
    rw [hdr] at h
    unfold intVal Lib.itoa
    rw [if_neg hm, hdr, if_neg (by omega), Int.toNat_natCast]
    exact nat_dec _ h.1
end Go.Proofs.YtihhgnjkmhdpmaaGreatDoor.W
