/- Plain mathematics of layer 1: predicates on bytes and lists of bytes. No program. -/
import Derived.Lib.Strings
import Derived.Lib.Hide
import Derived.Lib.ParseIntBCases
import Derived.Lib.ItoaLen
import Derived.Lib.IndexBytes
namespace Go.Proofs.YtihhgnjkmhdpmaaGreatDoor.W
def smallB (c : UInt8) : Bool := decide (97 ≤ (c.toNat : Int)) && decide ((c.toNat : Int) ≤ 122)
def digitB (c : UInt8) : Bool := decide (48 ≤ (c.toNat : Int)) && decide ((c.toNat : Int) ≤ 57)
def nameCh (c : UInt8) : Bool := smallB c || digitB c || c == 45
def nameL (l : List UInt8) : Bool := decide (1 ≤ l.length) && decide (l.length ≤ 16) && smallB (l.getD 0 0) && l.all nameCh
def natL (l : List UInt8) : Bool := decide (1 ≤ l.length) && !(decide (l.getD 0 0 = 48) && decide (1 < l.length)) && l.all digitB

theorem all_take_succ (p : UInt8 → Bool) (s : ByteArray) (k : Nat) (h : k < s.size) :
    (s.data.toList.take (k + 1)).all p = ((s.data.toList.take k).all p && p s[k]) := by
  have : s.data.toList.take (k + 1) = s.data.toList.take k ++ [s[k]] := by
    rw [List.take_succ_eq_append_getElem (by simpa using h)]; rfl
  rw [this]; simp
theorem all_get (p : UInt8 → Bool) (s : ByteArray) (k : Nat) (h : k < s.size) (hp : p s[k] = false) : s.data.toList.all p = false := by
  rw [List.all_eq_false]
  exact ⟨s[k], by simp [List.mem_iff_getElem]; exact ⟨k, by simpa using h, rfl⟩, by simp [hp]⟩
theorem take_size (s : ByteArray) : s.data.toList.take s.size = s.data.toList := List.take_of_length_le (by simp)
theorem getD_zero (s : ByteArray) (h : 0 < s.size) : s.data.toList.getD 0 0 = s[0] := by
  have h' : 0 < s.data.toList.length := by simpa using h
  rw [List.getD_eq_getElem?_getD, List.getElem?_eq_getElem h']; rfl
theorem length_data (s : ByteArray) : s.data.toList.length = s.size := by simp
theorem toList_data (s : ByteArray) : s.toList = s.data.toList := Lib.toList_data s
theorem isEmpty_pos (s : ByteArray) (h : 0 < s.size) : s.toList.isEmpty = false := by
  rw [toList_data]
  cases e : s.data.toList with
  | nil => have : s.data.toList.length = 0 := by rw [e]; rfl
           rw [length_data] at this; omega
  | cons a l => rfl
theorem ne_nil_pos (s : ByteArray) (h : 0 < s.size) : ¬ s.toList = [] := by
  have := isEmpty_pos s h
  intro e; rw [e] at this; cases this
theorem eq_nil_zero (s : ByteArray) (h : s.size = 0) : s.data.toList = [] := by
  apply List.eq_nil_of_length_eq_zero; rw [length_data]; exact h
theorem toList_nil (s : ByteArray) (h : s.size = 0) : s.toList = [] := by rw [toList_data, eq_nil_zero s h]
theorem natL_nil (s : ByteArray) (h : s.size = 0) : natL s.data.toList = false := by rw [eq_nil_zero s h]; rfl
theorem u8_eq_of_int (c : UInt8) (n : Nat) (hn : n < 256) (h : (c.toNat : Int) = n) : c = UInt8.ofNat n := by
  apply UInt8.toNat_inj.1; simp; omega
theorem natL_lead (s : ByteArray) (h : 0 < s.size) (h1 : (s[0].toNat : Int) = 48) (h2 : 1 < (s.size : Int)) : natL s.data.toList = false := by
  have e := u8_eq_of_int s[0] 48 (by decide) h1
  unfold natL
  rw [getD_zero s h, length_data, e]
  have : 1 < s.size := by omega
  simp [this]
theorem natL_all (s : ByteArray) (h : 0 < s.size) (h1 : (s.size : Int) ≤ 1 ∨ ¬ (s[0].toNat : Int) = 48) : natL s.data.toList = s.data.toList.all digitB := by
  unfold natL
  rw [getD_zero s h, length_data]
  have a : decide (1 ≤ s.size) = true := by simp; omega
  rw [a]
  have b : (decide (s[0] = 48) && decide (1 < s.size)) = false := by
    rcases h1 with h1 | h1
    · have : ¬ 1 < s.size := by omega
      simp [this]
    · have : ¬ s[0] = 48 := by intro e; rw [e] at h1; exact h1 rfl
      simp [this]
  rw [b]; rfl
theorem nameL_nil (s : ByteArray) (h : s.size = 0) : nameL s.data.toList = false := by rw [eq_nil_zero s h]; rfl
theorem nameL_long (s : ByteArray) (h : 16 < s.size) : nameL s.data.toList = false := by
  unfold nameL
  rw [length_data]
  have : decide (s.size ≤ 16) = false := by simp; omega
  rw [this]; simp
theorem nameL_first (s : ByteArray) (h : 0 < s.size) (hb : smallB s[0] = false) : nameL s.data.toList = false := by
  unfold nameL
  rw [getD_zero s h, hb]; simp
theorem nameL_all (s : ByteArray) (h : 0 < s.size) (h1 : s.size ≤ 16) (hb : smallB s[0] = true) : nameL s.data.toList = s.data.toList.all nameCh := by
  unfold nameL
  rw [getD_zero s h, hb, length_data]
  have a : decide (1 ≤ s.size) = true := by simp; omega
  have b : decide (s.size ≤ 16) = true := by simp; omega
  rw [a, b]; rfl

/-! Decimal forms. -/
def minusB (l : List UInt8) : Bool := Lib.hasPrefix l [45]
def dropM (l : List UInt8) : List UInt8 := Lib.trimPrefix l [45]
def intForm (l : List UInt8) : Bool := natL (dropM l) && !(minusB l && decide (dropM l = [48]))
def natFrom (acc : Nat) (l : List UInt8) : Nat := l.foldl (fun a c => 10 * a + (c.toNat - 48)) acc
def intVal (l : List UInt8) : Int := if minusB l then -(natFrom 0 (dropM l) : Int) else natFrom 0 (dropM l)
def outR (l : List UInt8) (lo hi : Int) : Bool := decide (intVal l < lo) || decide (hi < intVal l)
def intV (l : List UInt8) (lo hi : Int) : Int := if intForm l && !outR l lo hi then intVal l else 0
def intE (l : List UInt8) (lo hi : Int) : Int := if intForm l then (if outR l lo hi then 7 else 0) else 6

theorem natFrom_cons (acc : Nat) (c : UInt8) (l : List UInt8) : natFrom acc (c :: l) = natFrom (10 * acc + (c.toNat - 48)) l := by
  unfold natFrom; rw [List.foldl_cons]
theorem natFrom_le (l : List UInt8) : ∀ (acc : Nat), acc ≤ natFrom acc l := by
  induction l with
  | nil => intro acc; exact Nat.le_refl _
  | cons c l ih => intro acc; have h := ih (10 * acc + (c.toNat - 48)); rw [natFrom_cons]; omega
theorem natFrom_mono (l : List UInt8) : ∀ (a b : Nat), a ≤ b → natFrom a l ≤ natFrom b l := by
  induction l with
  | nil => intro a b h; exact h
  | cons c l ih => intro a b h; rw [natFrom_cons, natFrom_cons]; exact ih _ _ (by omega)
theorem digitB_iff (c : UInt8) : digitB c = true ↔ 48 ≤ c.toNat ∧ c.toNat ≤ 57 := by unfold digitB; simp; omega
theorem parseUintM_digits (M : Nat) (hM : M < 18446744073709551620) (l : List UInt8) : ∀ (acc : Nat), l.all digitB = true → acc ≤ M →
    Lib.parseUintM M acc l = if natFrom acc l ≤ M then .ok (natFrom acc l) else .range := by
  induction l with
  | nil => intro acc _ h; rw [show natFrom acc [] = acc from rfl, if_pos h]; simp only [Lib.parseUintM]
  | cons c l ih =>
    intro acc hd h
    rw [List.all_cons, Bool.and_eq_true] at hd
    have hc := (digitB_iff c).1 hd.1
    simp only [Lib.parseUintM]
    rw [if_pos hc, natFrom_cons]
    have hle := natFrom_le l (10 * acc + (c.toNat - 48))
    by_cases a : 1844674407370955162 ≤ acc
    · rw [if_pos a, if_neg (by omega)]
    · rw [if_neg a]
      by_cases b : M < acc * 10 + (c.toNat - 48)
      · rw [if_pos b, if_neg (by omega)]
      · rw [if_neg b, Nat.mul_comm acc 10]
        exact ih _ hd.2 (by omega)
theorem natL_ne (l : List UInt8) (h : natL l = true) : l ≠ [] := by rintro rfl; cases h
theorem natL_digits (l : List UInt8) (h : natL l = true) : l.all digitB = true := by
  unfold natL at h; simp only [Bool.and_eq_true] at h; exact h.2
theorem parseUintB_nat (l : List UInt8) (h : natL l = true) : Lib.parseUintB 64 l = if natFrom 0 l ≤ 18446744073709551615 then .ok (natFrom 0 l) else .range := by
  unfold Lib.parseUintB
  rw [if_neg (natL_ne l h), show 2 ^ 64 - 1 = 18446744073709551615 from rfl]
  exact parseUintM_digits _ (by omega) l 0 (natL_digits l h) (by omega)
theorem minusB_cons (c : UInt8) (r : List UInt8) : minusB (c :: r) = decide (c = 45) := by
  unfold minusB Lib.hasPrefix
  rw [Bool.eq_iff_iff]; simp [List.isPrefixOf]; exact eq_comm
theorem dropM_cons (c : UInt8) (r : List UInt8) : dropM (c :: r) = if c = 45 then r else c :: r := by
  unfold dropM Lib.trimPrefix
  have := minusB_cons c r
  unfold minusB at this
  rw [this]
  by_cases h : c = 45 <;> simp [h]
theorem natL_first (c : UInt8) (r : List UInt8) (h : natL (c :: r) = true) : 48 ≤ c.toNat ∧ c.toNat ≤ 57 := by
  have := natL_digits _ h
  rw [List.all_cons, Bool.and_eq_true] at this
  exact (digitB_iff c).1 this.1
theorem parse_form (l : List UInt8) (h : intForm l = true) : Lib.parseIntB 64 l =
    if -9223372036854775808 ≤ intVal l ∧ intVal l ≤ 9223372036854775807 then .ok (intVal l) else .range := by
  unfold intForm at h
  rw [Bool.and_eq_true] at h
  obtain ⟨h, _⟩ := h
  match l, h with
  | [], h => cases h
  | c :: r, h =>
    rw [dropM_cons] at h
    by_cases e : c = 45
    · subst e
      rw [if_pos rfl] at h
      rw [Lib.parseIntB_minus, parseUintB_nat r h]
      have hv : intVal (45 :: r) = -(natFrom 0 r : Int) := by
        unfold intVal; rw [minusB_cons, dropM_cons]; rfl
      rw [hv]
      unfold Lib.signedC
      by_cases a : natFrom 0 r ≤ 18446744073709551615
      · rw [if_pos a]
        by_cases b : natFrom 0 r ≤ 9223372036854775808
        · rw [if_pos (by omega)]
          simp only [Nat.reduceSub, Nat.reducePow]
          rw [if_neg (by omega)]
        · rw [if_neg (by omega)]
          simp only [Nat.reduceSub, Nat.reducePow]
          rw [if_pos (by omega)]
      · rw [if_neg a, if_neg (by omega)]
    · rw [if_neg e] at h
      have hf := natL_first c r h
      rw [Lib.parseIntB_plain 64 c r (by omega) (by omega), parseUintB_nat _ h]
      have hv : intVal (c :: r) = (natFrom 0 (c :: r) : Int) := by
        unfold intVal; rw [minusB_cons, dropM_cons, if_neg e]; simp [e]
      rw [hv]
      unfold Lib.signlessC
      by_cases a : natFrom 0 (c :: r) ≤ 18446744073709551615
      · rw [if_pos a]
        by_cases b : natFrom 0 (c :: r) < 9223372036854775808
        · rw [if_pos (by omega)]
          simp only [Nat.reduceSub, Nat.reducePow]
          rw [if_neg (by omega)]
        · rw [if_neg (by omega)]
          simp only [Nat.reduceSub, Nat.reducePow]
          rw [if_pos (by omega)]
      · rw [if_neg a, if_neg (by omega)]
theorem size_mk (l : List UInt8) : (⟨l.toArray⟩ : ByteArray).size = l.length := by simp [ByteArray.size]
theorem dropM_le (l : List UInt8) : (dropM l).length ≤ l.length := by
  unfold dropM Lib.trimPrefix; split <;> simp
theorem form_cons (c : UInt8) (r : List UInt8) : intForm (c :: r) = if c = 45 then (natL r && !decide (r = [48])) else natL (c :: r) := by
  unfold intForm
  rw [minusB_cons, dropM_cons]
  by_cases h : c = 45 <;> simp [h]
theorem data_one (s : ByteArray) (h : s.size = 1) : s.data.toList = [s[0]] := by
  apply List.ext_getElem?
  intro i
  match i with
  | 0 => rw [List.getElem?_eq_getElem (by simp [h])]; rfl
  | i + 1 => simp; rw [h]; omega
theorem form_one (s : ByteArray) (h : s.size = 1) : intForm s.data.toList = natL s.data.toList := by
  rw [data_one s h, form_cons]
  by_cases e : s[0] = 45
  · rw [if_pos e, e]; rfl
  · rw [if_neg e]
theorem data_get (s : ByteArray) (i : Nat) (h : i < s.size) : s.data.toList[i]? = some s[i] := Lib.data_getElem? s i h
theorem data_drop (s : ByteArray) (k : Nat) (h : k < s.size) : s.data.toList.drop k = s[k] :: s.data.toList.drop (k + 1) := by
  rw [List.drop_eq_getElem_cons (by rw [length_data]; exact h)]; rfl
theorem data_cons (s : ByteArray) (h : 0 < s.size) : s.data.toList = s[0] :: s.data.toList.drop 1 := by
  have := data_drop s 0 h; simpa using this
theorem ext_drop (s : ByteArray) (a : Nat) : (s.extract a s.size).data.toList = s.data.toList.drop a := Lib.extract_to_end s a
theorem form_minus (s : ByteArray) (h : 2 ≤ s.size) (a : (s[0].toNat : Int) = 45) (b : ¬ (s[1].toNat : Int) = 48) : intForm s.data.toList = natL (s.extract 1 s.size).data.toList := by
  have e0 : s[0] = 45 := u8_eq_of_int s[0] 45 (by decide) a
  rw [ext_drop, data_cons s (by omega), form_cons, if_pos e0, List.drop_succ_cons, List.drop_zero, data_drop s 1 (by omega)]
  have : decide (s[1] :: s.data.toList.drop (1 + 1) = [48]) = false := by
    simp only [List.cons.injEq, decide_eq_false_iff_not]
    intro hh; rw [hh.1] at b; exact b rfl
  rw [this]; simp
theorem form_minus0 (s : ByteArray) (h : 2 ≤ s.size) (a : (s[0].toNat : Int) = 45) (b : (s[1].toNat : Int) = 48) : intForm s.data.toList = false := by
  have e0 : s[0] = 45 := u8_eq_of_int s[0] 45 (by decide) a
  have e1 : s[1] = 48 := u8_eq_of_int s[1] 48 (by decide) b
  rw [data_cons s (by omega), form_cons, if_pos e0, data_drop s 1 (by omega), e1]
  cases e : s.data.toList.drop (1 + 1) with
  | nil => simp
  | cons c r =>
    unfold natL; simp
theorem form_plain (s : ByteArray) (h : 2 ≤ s.size) (a : ¬ (s[0].toNat : Int) = 45) : intForm s.data.toList = natL s.data.toList := by
  have e0 : ¬ s[0] = 45 := by intro e; rw [e] at a; exact a rfl
  have := data_cons s (by omega)
  rw [this, form_cons, if_neg e0]
theorem ext_get (s : ByteArray) (a i : Nat) (h : i < (s.extract a s.size).size) (h' : a + i < s.size) : (s.extract a s.size)[i] = s[a + i] := by
  have e1 := data_get (s.extract a s.size) i h
  rw [ext_drop, List.getElem?_drop, data_get s (a + i) h'] at e1
  exact (Option.some.inj e1).symm
theorem ext_size (s : ByteArray) (a : Nat) (_h : a ≤ s.size) : (s.extract a s.size).size = s.size - a := by simp
theorem lt_ext (s : ByteArray) (h : 2 ≤ s.size) : 0 < (s.extract 1 s.size).size := by simp; omega
end Go.Proofs.YtihhgnjkmhdpmaaGreatDoor.W
