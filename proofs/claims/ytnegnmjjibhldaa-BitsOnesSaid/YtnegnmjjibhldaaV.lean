/- Layer 2: lemmas for the law on the bits that are 1. -/
import Derived.Test.YtnegnmjjibhldaaU
namespace Go.Proofs.Ytnegnmjjibhldaa
open Go.RowKit
theorem mem_onesZ (xs : List Nat) (m k : Nat) : (k : Int) ∈ onesZ xs m ↔ k < m ∧ rbit xs k = true := by
  unfold onesZ
  rw [List.mem_map]
  constructor
  · rintro ⟨j, hj, e⟩
    obtain rfl : j = k := by omega
    rw [List.mem_filter, List.mem_range] at hj
    exact hj
  · intro h
    exact ⟨k, by rw [List.mem_filter, List.mem_range]; exact h, rfl⟩
theorem onesZ_ok (xs : List Nat) (n : Nat) : okL n (onesZ xs (64 * n)) = true := by
  unfold okL
  rw [List.all_eq_true]
  intro z hz
  unfold onesZ at hz
  obtain ⟨j, hj, rfl⟩ := List.mem_map.1 hz
  rw [List.mem_filter, List.mem_range] at hj
  unfold hasB; simp; omega
theorem chk_ofE {n : Nat} (hc : chk n = 0) (zs : List Int) : ofE (n : Int) zs = if okL n zs then 0 else 7 := by
  have := chk_zero hc
  unfold ofE; rw [if_neg (by omega), if_neg (by omega), Int.toNat_natCast]
theorem ofR_ones {xs : List Nat} {n : Nat} (hw : Wf xs) (hn : xs.length = n) (hc : chk n = 0) : ofE (n : Int) (onesZ xs (64 * n)) = 0 ∧ ofR (n : Int) (onesZ xs (64 * n)) = xs := by
  have e : ofE (n : Int) (onesZ xs (64 * n)) = 0 := by rw [chk_ofE hc, onesZ_ok]; rfl
  refine ⟨e, ?_⟩
  unfold ofR
  rw [if_pos e, Int.toNat_natCast]
  refine (eq_mkRow hw hn fun i hi => ?_).symm
  unfold inL
  rw [Bool.eq_iff_iff, decide_eq_true_iff, mem_onesZ]
  exact ⟨fun h => ⟨hi, h⟩, fun h => h.2⟩
theorem onesZ_sorted (xs : List Nat) (m k : Nat) (a b : Int) (ha : (onesZ xs m)[k]? = some a) (hb : (onesZ xs m)[k + 1]? = some b) : a < b := by
  have hp : (onesZ xs m).Pairwise (· < ·) := by
    unfold onesZ
    rw [List.pairwise_map]
    exact (List.pairwise_lt_range.filter _).imp (fun h => by omega)
  obtain ⟨h1, rfl⟩ := List.getElem?_eq_some_iff.1 ha
  obtain ⟨h2, rfl⟩ := List.getElem?_eq_some_iff.1 hb
  exact (List.pairwise_iff_getElem.1 hp) k (k + 1) h1 h2 (by omega)
theorem cnt_up (f : Nat → Bool) (i m : Nat) (h : f i = false) : ((List.range m).filter fun j => if j = i then true else f j).length = ((List.range m).filter f).length + if i < m then 1 else 0 := by
  induction m with
  | zero => rfl
  | succ m ih =>
    rw [List.range_succ, List.filter_append, List.filter_append, List.length_append, List.length_append, ih]
    by_cases e : m = i
    · subst e; simp [h]
    · have e2 : (if i < m + 1 then 1 else 0) = if i < m then 1 else 0 := by
        by_cases h1 : i < m
        · rw [if_pos h1, if_pos (show i < m + 1 by omega)]
        · rw [if_neg h1, if_neg (show ¬ i < m + 1 by omega)]
      rw [e2]
      simp only [List.filter_cons, List.filter_nil, if_neg e]
      omega
theorem cnt_down (f : Nat → Bool) (i m : Nat) (h : f i = true) : ((List.range m).filter fun j => if j = i then false else f j).length + (if i < m then 1 else 0) = ((List.range m).filter f).length := by
  induction m with
  | zero => rfl
  | succ m ih =>
    rw [List.range_succ, List.filter_append, List.filter_append, List.length_append, List.length_append, ← ih]
    by_cases e : m = i
    · subst e; simp [h]
    · have e2 : (if i < m + 1 then 1 else 0) = if i < m then 1 else 0 := by
        by_cases h1 : i < m
        · rw [if_pos h1, if_pos (show i < m + 1 by omega)]
        · rw [if_neg h1, if_neg (show ¬ i < m + 1 by omega)]
      rw [e2]
      simp only [List.filter_cons, List.filter_nil, if_neg e]
      omega
theorem set_ok {xs zs : List Nat} (v : Value) (i : Nat) (t : Bool) (w : World) (hv : URow w v xs) (hw : Wf xs) (hc : chk xs.length = 0) (hi : i < 64 * xs.length) (hz : setB xs i t = zs) :
    Calls Try.prog 16 #[v, .int .i64 i, .bool t] w fun e w' => ∃ r, e = .returned (.tuple #[r, .int .i64 0]) ∧ URow w' r zs ∧ Below w.heap.size w w' := by
  have h8 := chk_zero hc
  have E : getE xs.length i = 0 := by unfold getE; rw [if_pos hc, show hasB xs.length i = true by unfold hasB; simp; omega]; rfl
  refine (set_any v xs i t w hv hw (by omega)).mono ?_
  rintro e w' ⟨r, rfl, hr, hb⟩
  refine ⟨r, by rw [E], ?_, hb⟩
  unfold setR at hr
  rwa [if_pos E, Int.toNat_natCast, hz] at hr
theorem setB_back {xs : List Nat} {i : Nat} {s t : Bool} (hw : Wf xs) (hi : i < 64 * xs.length) (ht : rbit xs i = t) : setB (setB xs i s) i t = xs := by
  refine row_ext (setB_wf (setB_wf hw _ _) _ _) hw (by rw [setB_len, setB_len]) fun j hj => ?_
  rw [setB_bit _ _ _ (by rw [setB_len]; exact hi), setB_bit _ _ _ hi]
  by_cases e : j = i
  · rw [if_pos e, e, ht]
  · rw [if_neg e, if_neg e]
theorem irow_get {W : World} {p : Option Addr} {n c : Nat} {xs : List Int} (h : IRow W (.slice p n c) xs) {i : Nat} {z : Int} (hz : xs[i]? = some z) : ∃ b o, p = some ⟨b, o, none⟩ ∧ W.cell? ⟨b, o + i, none⟩ = some (.int .i64 z) := by
  obtain ⟨p', c', e, _, hx⟩ := h
  cases e
  exact hx i z hz
theorem mem_take {zs : List Int} {k : Int} {j : Nat} {z : Int} (hz : zs[j]? = some z) : decide (k ∈ zs.take (j + 1)) = (decide (k ∈ zs.take j) || (z == k)) := by
  rw [List.take_add_one, hz, Bool.eq_iff_iff]
  simp
  constructor <;> (rintro (h | h) <;> first | exact .inl h | exact .inr h.symm)
def memB (zs : List Int) (k : Nat) (j : Nat) : Bool := decide ((k : Int) ∈ zs.take j)
theorem memB_zero (zs : List Int) (k : Nat) : memB zs k 0 = false := by simp [memB]
theorem memB_succ {zs : List Int} {k j : Nat} {z : Int} (hz : zs[j]? = some z) : memB zs k (j + 1) = (memB zs k j || (z == (k : Int))) := mem_take hz
theorem memB_eq {zs : List Int} {n k m l : Nat} (hk : k < 64 * n) (hm : m = zs.length) (hl : l = (onesZ (mkRow n (inL zs)) (64 * n)).length) : memB (onesZ (mkRow n (inL zs)) (64 * n)) k l = memB zs k m := by
  unfold memB
  rw [List.take_of_length_le (by omega), List.take_of_length_le (by omega), Bool.eq_iff_iff, decide_eq_true_iff, decide_eq_true_iff, mem_onesZ, mkRow_bit _ _ _ hk]
  unfold inL
  simp [hk]
end Go.Proofs.Ytnegnmjjibhldaa
