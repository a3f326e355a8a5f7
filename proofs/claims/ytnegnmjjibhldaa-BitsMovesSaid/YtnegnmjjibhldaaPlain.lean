/- Plain mathematics of layer 2: rows of bits as lists of words. No program. -/
import Derived.Lib.Hide
import Derived.Laws.BitsAllLaws
namespace Go.Proofs.Ytnegnmjjibhldaa
def rbit (xs : List Nat) (i : Nat) : Bool := (xs.getD (i / 64) 0).testBit (i % 64)
def Wf (xs : List Nat) : Prop := ∀ x ∈ xs, x < 2 ^ 64
theorem Wf.get {xs : List Nat} (h : Wf xs) (j : Nat) : xs.getD j 0 < 2 ^ 64 := by
  rw [List.getD_eq_getElem?_getD]
  cases e : xs[j]? with
  | none => exact Nat.two_pow_pos 64
  | some x => exact h x (List.mem_of_getElem? e)
theorem word_ext {x y : Nat} (hx : x < 2 ^ 64) (hy : y < 2 ^ 64) (h : ∀ k, k < 64 → x.testBit k = y.testBit k) : x = y := by
  apply Nat.eq_of_testBit_eq
  intro k
  by_cases hk : k < 64
  · exact h k hk
  · have e : 2 ^ 64 ≤ 2 ^ k := Nat.pow_le_pow_right (by decide) (by omega)
    rw [Nat.testBit_lt_two_pow (Nat.lt_of_lt_of_le hx e), Nat.testBit_lt_two_pow (Nat.lt_of_lt_of_le hy e)]
theorem rbit_at (xs : List Nat) (j k : Nat) (hk : k < 64) : rbit xs (64 * j + k) = (xs.getD j 0).testBit k := by
  unfold rbit
  rw [show (64 * j + k) / 64 = j by omega, show (64 * j + k) % 64 = k by omega]
theorem row_ext {xs ys : List Nat} (hx : Wf xs) (hy : Wf ys) (hl : xs.length = ys.length) (h : ∀ i, i < 64 * xs.length → rbit xs i = rbit ys i) : xs = ys := by
  apply List.ext_getElem hl
  intro j h1 h2
  refine word_ext (hx _ (List.getElem_mem h1)) (hy _ (List.getElem_mem h2)) fun k hk => ?_
  have := h (64 * j + k) (by omega)
  rw [rbit_at _ _ _ hk, rbit_at _ _ _ hk, List.getD_eq_getElem?_getD, List.getD_eq_getElem?_getD, List.getElem?_eq_getElem h1, List.getElem?_eq_getElem h2] at this
  exact this
def ofB (f : Nat → Bool) : Nat → Nat
  | 0 => 0
  | n + 1 => ofB f n + (if f n then 2 ^ n else 0)
theorem ofB_lt (f : Nat → Bool) (n : Nat) : ofB f n < 2 ^ n := by
  induction n with
  | zero => exact Nat.one_pos
  | succ n ih => unfold ofB; rw [Nat.pow_succ]; split <;> omega
theorem ofB_bit (f : Nat → Bool) : ∀ (n k : Nat), k < n → (ofB f n).testBit k = f k
  | 0, _, h => by omega
  | n + 1, k, h => by
    have hl := ofB_lt f n
    unfold ofB
    by_cases e : k = n
    · subst e
      cases hf : f k
      · simp [Nat.testBit_lt_two_pow hl]
      · simp only [if_true]
        rw [Nat.add_comm, Nat.testBit_two_pow_add_eq, Nat.testBit_lt_two_pow hl]; rfl
    · have hk : k < n := by omega
      cases hf : f n
      · simp [ofB_bit f n k hk]
      · simp only [if_true]
        rw [Nat.add_comm, Nat.testBit_two_pow_add_gt hk, ofB_bit f n k hk]
def mkRow (n : Nat) (f : Nat → Bool) : List Nat := (List.range n).map fun j => ofB (fun k => f (64 * j + k)) 64
theorem mkRow_len (n : Nat) (f : Nat → Bool) : (mkRow n f).length = n := by simp [mkRow]
theorem mkRow_wf (n : Nat) (f : Nat → Bool) : Wf (mkRow n f) := by
  intro x hx
  obtain ⟨j, _, rfl⟩ := List.mem_map.1 hx
  exact ofB_lt _ _
theorem mkRow_get (n : Nat) (f : Nat → Bool) (j : Nat) (h : j < n) : (mkRow n f).getD j 0 = ofB (fun k => f (64 * j + k)) 64 := by
  rw [List.getD_eq_getElem?_getD, List.getElem?_eq_getElem (by rw [mkRow_len]; exact h)]
  simp [mkRow]
theorem mkRow_bit (n : Nat) (f : Nat → Bool) (i : Nat) (h : i < 64 * n) : rbit (mkRow n f) i = f i := by
  unfold rbit
  rw [mkRow_get n f (i / 64) (by omega), ofB_bit _ _ _ (by omega), show 64 * (i / 64) + i % 64 = i by omega]
theorem eq_mkRow {xs : List Nat} {n : Nat} {f : Nat → Bool} (hw : Wf xs) (hl : xs.length = n) (h : ∀ i, i < 64 * n → rbit xs i = f i) : xs = mkRow n f :=
  row_ext hw (mkRow_wf n f) (by rw [mkRow_len, hl]) fun i hi => by rw [hl] at hi; rw [h i hi, mkRow_bit n f i hi]
theorem mkRow_congr {n : Nat} {f g : Nat → Bool} (h : ∀ i, i < 64 * n → f i = g i) : mkRow n f = mkRow n g :=
  eq_mkRow (mkRow_wf n f) (mkRow_len n f) fun i hi => by rw [mkRow_bit n f i hi, h i hi]
theorem mkRow_self {xs : List Nat} (hw : Wf xs) : mkRow xs.length (rbit xs) = xs := (eq_mkRow hw rfl fun _ _ => rfl).symm

/-- One word with another bit. -/
def putB (x k : Nat) (v : Bool) : Nat := if x.testBit k = v then x else x ^^^ 2 ^ k
theorem putB_lt {x k : Nat} {v : Bool} (hx : x < 2 ^ 64) (hk : k < 64) : putB x k v < 2 ^ 64 := by
  unfold putB; split
  · exact hx
  · exact Nat.xor_lt_two_pow hx (Nat.pow_lt_pow_right (by decide) hk)
theorem putB_bit (x k : Nat) (v : Bool) (j : Nat) : (putB x k v).testBit j = if j = k then v else x.testBit j := by
  unfold putB
  by_cases h : x.testBit k = v
  · rw [if_pos h]; split
    · next e => rw [e, h]
    · rfl
  · rw [if_neg h, Nat.testBit_xor, Nat.testBit_two_pow]
    by_cases e : j = k
    · subst e; rw [if_pos rfl]; cases hb : x.testBit j <;> cases v <;> simp_all
    · rw [if_neg e]; simp [show ¬ k = j from fun e' => e e'.symm]
def setB (xs : List Nat) (i : Nat) (v : Bool) : List Nat := xs.set (i / 64) (putB (xs.getD (i / 64) 0) (i % 64) v)
theorem setB_len (xs : List Nat) (i : Nat) (v : Bool) : (setB xs i v).length = xs.length := by simp [setB]
theorem setB_wf {xs : List Nat} (h : Wf xs) (i : Nat) (v : Bool) : Wf (setB xs i v) := by
  intro x hx
  rcases List.mem_or_eq_of_mem_set hx with hx | rfl
  · exact h x hx
  · exact putB_lt (h.get _) (by omega)
theorem setB_bit (xs : List Nat) (i : Nat) (v : Bool) (hi : i < 64 * xs.length) (j : Nat) : rbit (setB xs i v) j = if j = i then v else rbit xs j := by
  unfold rbit setB
  by_cases e : i / 64 = j / 64
  · have hl : i / 64 < xs.length := by omega
    rw [← e, List.getD_eq_getElem?_getD, List.getElem?_set_self hl, Option.getD_some, putB_bit]
    by_cases e2 : j = i
    · rw [if_pos (by rw [e2]), if_pos e2]
    · rw [if_neg (by omega), if_neg e2]
  · rw [List.getD_eq_getElem?_getD, List.getElem?_set_ne e, ← List.getD_eq_getElem?_getD, if_neg (by rintro rfl; exact e rfl)]
theorem setB_row {xs : List Nat} (h : Wf xs) (i : Nat) (v : Bool) (hi : i < 64 * xs.length) : setB xs i v = mkRow xs.length (fun j => if j = i then v else rbit xs j) :=
  eq_mkRow (setB_wf h i v) (setB_len xs i v) fun j _ => setB_bit xs i v hi j
/-- What Check says. -/
def chk (n : Nat) : Int := if n = 0 then 6 else if 8 < n then 3 else 0
/-- The numbers of the bits that are 1. -/
def onesL (xs : List Nat) : List Nat := (List.range (64 * xs.length)).filter (rbit xs)
theorem onesUpto_succ (xs : List Nat) (k : Nat) : (List.range (k + 1)).filter (rbit xs) = (List.range k).filter (rbit xs) ++ if rbit xs k then [k] else [] := by
  rw [List.range_succ, List.filter_append]
  cases h : rbit xs k <;> simp [h]
/-- The words that a test of one bit and a change of one bit come to. -/
theorem bit_and (x k : Nat) : (x &&& 2 ^ k != 0) = x.testBit k := by
  cases h : x.testBit k
  · have : x &&& 2 ^ k = 0 := by
      apply Nat.eq_of_testBit_eq
      intro j
      rw [Nat.testBit_and, Nat.testBit_two_pow, Nat.zero_testBit]
      by_cases e : k = j
      · subst e; rw [h]; rfl
      · simp [e]
    rw [this]; rfl
  · rw [bne_iff_ne]
    intro e
    have := congrArg (fun n => n.testBit k) e
    simp [Nat.testBit_and, h] at this
theorem bit_shr (x k : Nat) : (x / 2 ^ k % 2 == 1) = x.testBit k := by
  rw [Nat.testBit_eq_decide_div_mod_eq]; rw [Bool.eq_iff_iff]; simp
theorem pow_cast (k : Nat) : ((2 ^ k : Nat) : Int) = (2 : Int) ^ k := by simp
theorem pow_lt64 {k : Nat} (h : k < 64) : 2 ^ k < 18446744073709551616 := Nat.lt_of_lt_of_le (Nat.pow_lt_pow_right (by decide) h) (by decide)
theorem wrap_pow {k : Nat} (h : k < 64) : IntKind.u64.wrap ((2 : Int) ^ k) = ((2 ^ k : Nat) : Int) := by
  rw [← pow_cast, IntKind.wrap_u64]
  have := pow_lt64 h
  generalize 2 ^ k = n at *
  omega
theorem u64_test {x k : Nat} (hx : x < 2 ^ 64) (h : k < 64) : (bits .and .u64 (x : Int) ((2 : Int) ^ k) != 0) = x.testBit k := by
  rw [← pow_cast, u64_and_nat x _ hx (pow_lt64 h), ← bit_and]
  rw [Bool.eq_iff_iff]; simp [bne_iff_ne]
theorem putB_false {x k : Nat} (hx : x < 2 ^ 64) (h : k < 64) : bits .andNot .u64 (x : Int) ((2 : Int) ^ k) = ((putB x k false : Nat) : Int) := by
  rw [← pow_cast, u64_andNot_nat x _ hx (pow_lt64 h)]
  congr 1
  refine word_ext (Nat.lt_of_le_of_lt (Nat.and_le_left) hx) (putB_lt hx h) fun j hj => ?_
  rw [putB_bit, Nat.testBit_and, show 18446744073709551615 - 2 ^ k = 2 ^ 64 - (2 ^ k + 1) by omega, Nat.testBit_two_pow_sub_succ (pow_lt64 h), Nat.testBit_two_pow]
  by_cases e : j = k
  · subst e; simp
  · simp [e, hj, show ¬ k = j from fun e' => e e'.symm]
theorem putB_true {x k : Nat} (hx : x < 2 ^ 64) (h : k < 64) : bits .or .u64 ((putB x k false : Nat) : Int) ((2 : Int) ^ k) = ((putB x k true : Nat) : Int) := by
  rw [← pow_cast, u64_or_nat _ _ (putB_lt hx h) (pow_lt64 h)]
  congr 1
  refine word_ext (Nat.or_lt_two_pow (putB_lt hx h) (pow_lt64 h)) (putB_lt hx h) fun j hj => ?_
  rw [Nat.testBit_or, putB_bit, putB_bit, Nat.testBit_two_pow]
  by_cases e : j = k
  · subst e; simp
  · simp [e, show ¬ k = j from fun e' => e e'.symm]
theorem or_true {x k : Nat} (hx : x < 2 ^ 64) (h : k < 64) : bits .or .u64 (x : Int) ((2 : Int) ^ k) = ((putB x k true : Nat) : Int) := by
  rw [← pow_cast, u64_or_nat _ _ hx (pow_lt64 h)]
  congr 1
  refine word_ext (Nat.or_lt_two_pow hx (pow_lt64 h)) (putB_lt hx h) fun j hj => ?_
  rw [Nat.testBit_or, putB_bit, Nat.testBit_two_pow]
  by_cases e : j = k
  · subst e; simp
  · simp [e, show ¬ k = j from fun e' => e e'.symm]
theorem u64_low {x k : Nat} (hx : x < 2 ^ 64) : (bits .and .u64 ((x : Int) / 2 ^ k) 1 == 1) = x.testBit k := by
  have e : (x : Int) / 2 ^ k = ((x / 2 ^ k : Nat) : Int) := by rw [← pow_cast]; rfl
  have hle : x / 2 ^ k ≤ x := Nat.div_le_self _ _
  rw [e, show (1 : Int) = ((1 : Nat) : Int) from rfl, u64_and_nat _ _ (by omega) (by omega), Nat.and_one_is_mod, ← bit_shr]
  rw [Bool.eq_iff_iff]; simp; omega
theorem putB_xor {x k : Nat} (hx : x < 2 ^ 64) (h : k < 64) {t : Bool} (hb : ¬ x.testBit k = t) : bits .xor .u64 (x : Int) ((2 : Int) ^ k) = ((putB x k t : Nat) : Int) := by
  rw [← pow_cast, u64_xor_nat _ _ hx (pow_lt64 h)]
  unfold putB; rw [if_neg hb]
theorem set_self (xs : List Nat) (j : Nat) : xs.set j (xs.getD j 0) = xs := by
  apply List.ext_getElem (by simp)
  intro a h1 h2
  rw [List.getElem_set]
  split
  · next e => subst e; rw [List.getD_eq_getElem?_getD, List.getElem?_eq_getElem h2]; rfl
  · rfl
end Go.Proofs.Ytnegnmjjibhldaa
