/- Layer 1: a run that List writes is read as it was, plain. -/
import Derived.Test.YtoapfldmkpobmaaGreatDoorQc
import Derived.Test.YtoapfldmkpobmaaGreatDoorQl
namespace Go.Proofs.YtoapfldmkpobmaaGreatDoor
theorem cut_none {l : List UInt8} (h : (45 : UInt8) ∉ l) : Lib.cut l [45] = (l, [], false) := by
  have hi : ¬ 0 ≤ Lib.index l [45] := fun h0 => by
    rw [Lib.index_one] at h0
    have e : Lib.indexByte l 45 = ((Lib.indexByte l 45).toNat : Int) := by omega
    exact h (List.mem_of_getElem? (Lib.indexByte_some e).1)
  unfold Lib.cut
  rw [if_neg hi]
theorem cut_at {l r : List UInt8} (h : (45 : UInt8) ∉ l) : Lib.cut (l ++ 45 :: r) [45] = (l, r, true) := by
  have hg : (l ++ 45 :: r)[l.length]? = some 45 := by simp
  have hi : Lib.indexByte (l ++ 45 :: r) 45 = (l.length : Int) := by
    have hge := Lib.indexByte_ge (l ++ 45 :: r) 45
    have hne : Lib.indexByte (l ++ 45 :: r) 45 ≠ -1 := fun e => Lib.indexByte_none e _ hg
    have e : Lib.indexByte (l ++ 45 :: r) 45 = ((Lib.indexByte (l ++ 45 :: r) 45).toNat : Int) := by omega
    obtain ⟨e1, e2⟩ := Lib.indexByte_some e
    have a1 : ¬ (Lib.indexByte (l ++ 45 :: r) 45).toNat < l.length := fun hl => by
      rw [List.getElem?_append_left hl] at e1
      exact h (List.mem_of_getElem? e1)
    have a2 : ¬ l.length < (Lib.indexByte (l ++ 45 :: r) 45).toNat := fun hl => e2 _ hl hg
    omega
  unfold Lib.cut
  rw [Lib.index_one, hi, if_pos (by omega)]
  simp
theorem nat_no {l : List UInt8} (h : natL l = true) : (45 : UInt8) ∉ l ∧ (44 : UInt8) ∉ l := by
  obtain ⟨_, _, _, hd, _⟩ := nat_parts h
  rw [List.all_eq_true] at hd
  exact ⟨fun hm => absurd (hd _ hm) (by decide), fun hm => absurd (hd _ hm) (by decide)⟩
/-- The run's expression as a string. -/
def wrB (a b : Int) : ByteArray := ⟨(wrS a b).toArray⟩
theorem itoa_nat {a : Int} (ha : 0 ≤ a) : natL (Lib.itoa a) = true ∧ natFrom 0 (Lib.itoa a) = a.toNat := by
  unfold Lib.itoa
  rw [if_neg (by omega)]
  exact dec_nat _
theorem run_read {a b : Int} (ha : 0 ≤ a) (hab : a ≤ b) (hb : b ≤ 1000000000) :
    spF (wrB a b) = ⟨(Lib.itoa a).toArray⟩ ∧ spL (wrB a b) = ⟨(Lib.itoa b).toArray⟩ ∧ spB (wrB a b) = true ∧ numF (wrB a b) = a ∧ numL (wrB a b) = b ∧ errL (wrB a b) = 0 := by
  obtain ⟨na, va⟩ := itoa_nat ha
  obtain ⟨nb, vb⟩ := itoa_nat (a := b) (by omega)
  have hF : spF (wrB a b) = ⟨(Lib.itoa a).toArray⟩ ∧ spL (wrB a b) = ⟨(Lib.itoa b).toArray⟩ ∧ spB (wrB a b) = true := by
    by_cases e : a = b
    · have hc : Lib.cut (wrB a b).data.toList [45] = (Lib.itoa a, [], false) := by
        show Lib.cut (wrS a b) [45] = _
        unfold wrS
        rw [if_pos e]; exact cut_none (nat_no na).1
      have f1 : spF (wrB a b) = ⟨(Lib.itoa a).toArray⟩ := by unfold spF; rw [hc]
      have f2 : spL (wrB a b) = ⟨(Lib.itoa b).toArray⟩ := by unfold spL; rw [hc, f1, e]; rfl
      refine ⟨f1, f2, ?_⟩
      unfold spB
      rw [f1, hc]
      simp [na]
    · have hc : Lib.cut (wrB a b).data.toList [45] = (Lib.itoa a, Lib.itoa b, true) := by
        show Lib.cut (wrS a b) [45] = _
        unfold wrS
        rw [if_neg e, List.append_assoc]; exact cut_at (nat_no na).1
      have f1 : spF (wrB a b) = ⟨(Lib.itoa a).toArray⟩ := by unfold spF; rw [hc]
      have f2 : spL (wrB a b) = ⟨(Lib.itoa b).toArray⟩ := by unfold spL; rw [hc]; rfl
      refine ⟨f1, f2, ?_⟩
      have hl : lowB ⟨(Lib.itoa a).toArray⟩ ⟨(Lib.itoa b).toArray⟩ = true := low_of_lt (a := ⟨(Lib.itoa a).toArray⟩) (b := ⟨(Lib.itoa b).toArray⟩) na nb (by
        show natFrom 0 (Lib.itoa a) < natFrom 0 (Lib.itoa b)
        rw [va, vb]; omega)
      unfold spB
      rw [f1, f2, hc, hl]
      simp [na, nb]
  obtain ⟨f1, f2, f3⟩ := hF
  obtain ⟨_, _, a3, a4⟩ := nat_form na
  obtain ⟨_, _, b3, b4⟩ := nat_form nb
  have oa : outR (Lib.itoa a) 0 1000000000 = false := by unfold outR; rw [a4, va]; simp; omega
  have ob : outR (Lib.itoa b) 0 1000000000 = false := by unfold outR; rw [b4, vb]; simp; omega
  refine ⟨f1, f2, f3, ?_, ?_, ?_⟩
  · unfold numF; rw [f1]; show intV (Lib.itoa a) 0 1000000000 = a
    unfold intV; rw [a3, oa, a4, va]; simp; omega
  · unfold numL; rw [f2]; show intV (Lib.itoa b) 0 1000000000 = b
    unfold intV; rw [b3, ob, b4, vb]; simp; omega
  · unfold errL; rw [f2]; show intE (Lib.itoa b) 0 1000000000 = 0
    unfold intE; rw [b3, ob]; rfl
end Go.Proofs.YtoapfldmkpobmaaGreatDoor
