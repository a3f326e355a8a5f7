/- Plain mathematics of layer 3: sets of bytes as predicates, four words each. No program. -/
import Derived.Lib.Hide
import Derived.Laws.BitsAllLaws
namespace Go.Proofs.Ytedbhjladpfafaa
theorem word_ext {x y : Nat} (hx : x < 2 ^ 64) (hy : y < 2 ^ 64) (h : ∀ k, k < 64 → x.testBit k = y.testBit k) : x = y := by
  apply Nat.eq_of_testBit_eq
  intro k
  by_cases hk : k < 64
  · exact h k hk
  · have e : 2 ^ 64 ≤ 2 ^ k := Nat.pow_le_pow_right (by decide) (by omega)
    rw [Nat.testBit_lt_two_pow (Nat.lt_of_lt_of_le hx e), Nat.testBit_lt_two_pow (Nat.lt_of_lt_of_le hy e)]
def ofB (f : Nat → Bool) : Nat → Nat
  | 0 => 0
  | n + 1 => ofB f n + (if f n then 2 ^ n else 0)
theorem ofB_lt (f : Nat → Bool) (n : Nat) : ofB f n < 2 ^ n := by
  induction n with
  | zero => exact Nat.one_pos
  | succ n ih => unfold ofB; rw [Nat.pow_succ]; split <;> omega
theorem ofB_bit (f : Nat → Bool) : ∀ (n k : Nat), k < n → (ofB f n).testBit k = f k
  | 0, _, h => by omega
  | n + 1, k, h => by
    have hl := ofB_lt f n
    unfold ofB
    by_cases e : k = n
    · subst e
      cases hf : f k
      · simp [Nat.testBit_lt_two_pow hl]
      · simp only [if_true]
        rw [Nat.add_comm, Nat.testBit_two_pow_add_eq, Nat.testBit_lt_two_pow hl]; rfl
    · have hk : k < n := by omega
      cases hf : f n
      · simp [ofB_bit f n k hk]
      · simp only [if_true]
        rw [Nat.add_comm, Nat.testBit_two_pow_add_gt hk, ofB_bit f n k hk]
/-- Word j of the set of the bytes i with p i. -/
def wd (p : Nat → Bool) (j : Nat) : Nat := ofB (fun k => p (64 * j + k)) 64
theorem wd_lt (p : Nat → Bool) (j : Nat) : wd p j < 2 ^ 64 := ofB_lt _ _
theorem wd_bit (p : Nat → Bool) (j k : Nat) (hk : k < 64) : (wd p j).testBit k = p (64 * j + k) := ofB_bit _ _ _ hk
theorem wd_eq {x : Nat} {p : Nat → Bool} {j : Nat} (hx : x < 2 ^ 64) (h : ∀ k, k < 64 → x.testBit k = p (64 * j + k)) : x = wd p j :=
  word_ext hx (wd_lt p j) fun k hk => by rw [h k hk, wd_bit p j k hk]
theorem wd_congr {p q : Nat → Bool} {j : Nat} (h : ∀ k, k < 64 → p (64 * j + k) = q (64 * j + k)) : wd p j = wd q j :=
  wd_eq (wd_lt p j) fun k hk => by rw [wd_bit p j k hk, h k hk]
theorem wd_inj {p q : Nat → Bool} {j : Nat} (h : wd p j = wd q j) (k : Nat) (hk : k < 64) : p (64 * j + k) = q (64 * j + k) := by
  rw [← wd_bit p j k hk, ← wd_bit q j k hk, h]
def wv (p : Nat → Bool) (j : Nat) : Value := .int .u64 ((wd p j : Nat) : Int)
def sc (p : Nat → Bool) : Array Value := #[wv p 0, wv p 1, wv p 2, wv p 3]
/-- The value of the set of the bytes i with p i. -/
abbrev sv (p : Nat → Bool) : Value := .agg (sc p)
theorem sc_size (p : Nat → Bool) : (sc p).size = 4 := rfl
theorem sc_one (p : Nat → Bool) : (sc p).all (·.oneCell') = true := by simp [sc, wv, Value.oneCell']
theorem sc_congr {p q : Nat → Bool} (h : ∀ i, i < 256 → p i = q i) : sc p = sc q := by
  have e : ∀ j, j < 4 → wd p j = wd q j := fun j hj => wd_congr fun k hk => h _ (by omega)
  unfold sc wv
  rw [e 0 (by omega), e 1 (by omega), e 2 (by omega), e 3 (by omega)]
theorem sc_get (p : Nat → Bool) (j : Nat) (hj : j < 4) : (sc p)[j]? = some (.int .u64 ((wd p j : Nat) : Int)) := by
  match j, hj with
  | 0, _ => rfl
  | 1, _ => rfl
  | 2, _ => rfl
  | 3, _ => rfl
/-- Have both the same bytes? -/
def eqS (p q : Nat → Bool) : Bool := wd p 0 == wd q 0 && wd p 1 == wd q 1 && wd p 2 == wd q 2 && wd p 3 == wd q 3
theorem eqS_iff {p q : Nat → Bool} : eqS p q = true ↔ ∀ i, i < 256 → p i = q i := by
  unfold eqS
  simp only [Bool.and_eq_true, beq_iff_eq]
  constructor
  · rintro ⟨⟨⟨h0, h1⟩, h2⟩, h3⟩ i hi
    have e : i = 64 * (i / 64) + i % 64 := by omega
    have hj : i / 64 < 4 := by omega
    have : wd p (i / 64) = wd q (i / 64) := by
      generalize i / 64 = j at hj
      match j, hj with
      | 0, _ => exact h0
      | 1, _ => exact h1
      | 2, _ => exact h2
      | 3, _ => exact h3
    rw [e]; exact wd_inj this _ (by omega)
  · intro h
    exact ⟨⟨⟨wd_congr fun k hk => h _ (by omega), wd_congr fun k hk => h _ (by omega)⟩, wd_congr fun k hk => h _ (by omega)⟩, wd_congr fun k hk => h _ (by omega)⟩
theorem eqS_true {p q : Nat → Bool} (h : ∀ i, i < 256 → p i = q i) : eqS p q = true := eqS_iff.2 h
theorem eqS_self (p : Nat → Bool) : eqS p p = true := eqS_iff.2 fun _ _ => rfl
/-- Each four words are those of a set. -/
def bitsOf (a b c d : Nat) : Nat → Bool := fun i => (if i / 64 = 0 then a else if i / 64 = 1 then b else if i / 64 = 2 then c else d).testBit (i % 64)
theorem sc_bitsOf {a b c d : Nat} (ha : a < 2 ^ 64) (hb : b < 2 ^ 64) (hc : c < 2 ^ 64) (hd : d < 2 ^ 64) :
    (#[.int .u64 (a : Int), .int .u64 (b : Int), .int .u64 (c : Int), .int .u64 (d : Int)] : Array Value) = sc (bitsOf a b c d) := by
  unfold sc wv
  have e : ∀ j x, x < 2 ^ 64 → (∀ k, k < 64 → bitsOf a b c d (64 * j + k) = x.testBit k) → x = wd (bitsOf a b c d) j := fun j x hx h => wd_eq hx fun k hk => (h k hk).symm
  rw [← e 0 a ha, ← e 1 b hb, ← e 2 c hc, ← e 3 d hd]
  all_goals (intro k hk; unfold bitsOf)
  · rw [if_neg (by omega), if_neg (by omega), if_neg (by omega), show (64 * 3 + k) % 64 = k by omega]
  · rw [if_neg (by omega), if_neg (by omega), if_pos (by omega), show (64 * 2 + k) % 64 = k by omega]
  · rw [if_neg (by omega), if_pos (by omega), show (64 * 1 + k) % 64 = k by omega]
  · rw [if_pos (by omega), show (64 * 0 + k) % 64 = k by omega]
/-- The set with a byte more, with a byte less. -/
def withB (p : Nat → Bool) (c : Nat) : Nat → Bool := fun i => p i || decide (i = c)
def lessB (p : Nat → Bool) (c : Nat) : Nat → Bool := fun i => p i && !decide (i = c)
theorem bit_and (x k : Nat) : (x &&& 2 ^ k != 0) = x.testBit k := by
  cases h : x.testBit k
  · have : x &&& 2 ^ k = 0 := by
      apply Nat.eq_of_testBit_eq
      intro j
      rw [Nat.testBit_and, Nat.testBit_two_pow, Nat.zero_testBit]
      by_cases e : k = j
      · subst e; rw [h]; rfl
      · simp [e]
    rw [this]; rfl
  · rw [bne_iff_ne]
    intro e
    have := congrArg (fun n => n.testBit k) e
    simp [Nat.testBit_and, h] at this
theorem bit_shr (x k : Nat) : (x / 2 ^ k % 2 == 1) = x.testBit k := by
  rw [Nat.testBit_eq_decide_div_mod_eq]; rw [Bool.eq_iff_iff]; simp
theorem pow_cast (k : Nat) : ((2 ^ k : Nat) : Int) = (2 : Int) ^ k := by simp
theorem pow_lt64 {k : Nat} (h : k < 64) : 2 ^ k < 18446744073709551616 := Nat.lt_of_lt_of_le (Nat.pow_lt_pow_right (by decide) h) (by decide)
theorem wrap_pow {k : Nat} (h : k < 64) : IntKind.u64.wrap ((2 : Int) ^ k) = ((2 ^ k : Nat) : Int) := by
  rw [← pow_cast, IntKind.wrap_u64]
  have := pow_lt64 h
  generalize 2 ^ k = n at *
  omega
theorem wd_div {c : Nat} : 64 * (c / 64) + c % 64 = c := by omega
theorem wd_or (p : Nat → Bool) (c : Nat) : bits .or .u64 ((wd p (c / 64) : Nat) : Int) ((2 ^ (c % 64) : Nat) : Int) = ((wd (withB p c) (c / 64) : Nat) : Int) := by
  have hk : c % 64 < 64 := by omega
  rw [u64_or_nat _ _ (wd_lt p _) (pow_lt64 hk)]
  congr 1
  refine wd_eq (Nat.or_lt_two_pow (wd_lt p _) (pow_lt64 hk)) fun j hj => ?_
  rw [Nat.testBit_or, wd_bit _ _ _ hj, Nat.testBit_two_pow]
  unfold withB
  congr 1
  rw [Bool.eq_iff_iff]; simp; omega
theorem wd_withB_ne (p : Nat → Bool) (c j : Nat) (h : j ≠ c / 64) : wd (withB p c) j = wd p j :=
  wd_congr fun k hk => by unfold withB; rw [show decide (64 * j + k = c) = false by simp; omega]; simp
theorem wd_and (p : Nat → Bool) (c : Nat) : (bits .and .u64 ((wd p (c / 64) : Nat) : Int) ((2 ^ (c % 64) : Nat) : Int) != 0) = p c := by
  have hk : c % 64 < 64 := by omega
  rw [u64_and_nat _ _ (wd_lt p _) (pow_lt64 hk)]
  have := bit_and (wd p (c / 64)) (c % 64)
  rw [wd_bit _ _ _ hk, wd_div] at this
  rw [← this, Bool.eq_iff_iff]; simp [bne_iff_ne]
theorem wd_shr (p : Nat → Bool) (c : Nat) : (((wd p (c / 64) : Nat) : Int) / (2 : Int) ^ (c % 64) % 2 == 1) = p c := by
  have hk : c % 64 < 64 := by omega
  have := bit_shr (wd p (c / 64)) (c % 64)
  rw [wd_bit _ _ _ hk, wd_div] at this
  rw [← this, ← pow_cast, Bool.eq_iff_iff]; simp only [beq_iff_eq]
  generalize wd p (c / 64) = x
  generalize 2 ^ (c % 64) = y
  omega
theorem wd_ge {p : Nat → Bool} {c : Nat} (h : p c = true) : 2 ^ (c % 64) ≤ wd p (c / 64) := by
  apply Nat.ge_two_pow_of_testBit
  rw [wd_bit _ _ _ (by omega), wd_div, h]
theorem sub_bit {x k : Nat} (h : x.testBit k = true) (j : Nat) : (x - 2 ^ k).testBit j = (x.testBit j && !decide (j = k)) := by
  have hge := Nat.ge_two_pow_of_testBit h
  obtain ⟨y, rfl⟩ : ∃ y, x = 2 ^ k + y := ⟨x - 2 ^ k, by omega⟩
  rw [Nat.add_sub_cancel_left]
  rw [Nat.testBit_two_pow_add_eq] at h
  have hy : y.testBit k = false := by simpa using h
  rcases Nat.lt_trichotomy j k with hj | rfl | hj
  · rw [Nat.testBit_two_pow_add_gt hj]; simp; omega
  · simp [hy]
  · have e : (2 ^ k + y) / 2 ^ (k + 1) = y / 2 ^ (k + 1) := by
      rw [Nat.pow_succ, ← Nat.div_div_eq_div_mul, ← Nat.div_div_eq_div_mul, Nat.add_div_left _ (Nat.two_pow_pos k)]
      rw [Nat.testBit_eq_decide_div_mod_eq] at hy
      have : y / 2 ^ k % 2 ≠ 1 := by simpa using hy
      omega
    have hs : ∀ z : Nat, z.testBit j = (z / 2 ^ (k + 1)).testBit (j - (k + 1)) := fun z => by
      rw [Nat.testBit_div_two_pow]; congr 1; omega
    rw [hs (2 ^ k + y), e, ← hs, show decide (j = k) = false by simp; omega]; simp
theorem wd_sub {p : Nat → Bool} {c : Nat} (h : p c = true) : wd p (c / 64) - 2 ^ (c % 64) = wd (lessB p c) (c / 64) := by
  have hk : c % 64 < 64 := by omega
  refine wd_eq (Nat.lt_of_le_of_lt (Nat.sub_le _ _) (wd_lt p _)) fun j hj => ?_
  rw [sub_bit (by rw [wd_bit _ _ _ hk, wd_div, h]), wd_bit _ _ _ hj]
  unfold lessB
  congr 2
  rw [Bool.eq_iff_iff]; simp; omega
theorem wd_lessB_ne (p : Nat → Bool) (c j : Nat) (h : j ≠ c / 64) : wd (lessB p c) j = wd p j :=
  wd_congr fun k hk => by unfold lessB; rw [show decide (64 * j + k = c) = false by simp; omega]; simp
/-- Word by word: what each of the four closures makes. -/
theorem wd_orw (p q : Nat → Bool) (j : Nat) : bits .or .u64 ((wd p j : Nat) : Int) ((wd q j : Nat) : Int) = ((wd (fun i => p i || q i) j : Nat) : Int) := by
  rw [u64_or_nat _ _ (wd_lt p _) (wd_lt q _)]
  congr 1
  exact wd_eq (Nat.or_lt_two_pow (wd_lt p _) (wd_lt q _)) fun k hk => by rw [Nat.testBit_or, wd_bit _ _ _ hk, wd_bit _ _ _ hk]
theorem wd_andw (p q : Nat → Bool) (j : Nat) : bits .and .u64 ((wd p j : Nat) : Int) ((wd q j : Nat) : Int) = ((wd (fun i => p i && q i) j : Nat) : Int) := by
  rw [u64_and_nat _ _ (wd_lt p _) (wd_lt q _)]
  congr 1
  exact wd_eq (Nat.and_lt_two_pow _ (wd_lt q _)) fun k hk => by rw [Nat.testBit_and, wd_bit _ _ _ hk, wd_bit _ _ _ hk]
theorem wd_andNotw (p q : Nat → Bool) (j : Nat) : bits .andNot .u64 ((wd p j : Nat) : Int) ((wd q j : Nat) : Int) = ((wd (fun i => p i && !q i) j : Nat) : Int) := by
  rw [u64_andNot_nat _ _ (wd_lt p _) (wd_lt q _)]
  congr 1
  refine wd_eq (Nat.lt_of_le_of_lt Nat.and_le_left (wd_lt p _)) fun k hk => ?_
  rw [Nat.testBit_and, wd_bit _ _ _ hk]
  have hq := wd_lt q j
  rw [show 18446744073709551615 - wd q j = 2 ^ 64 - (wd q j + 1) by omega, Nat.testBit_two_pow_sub_succ hq, wd_bit _ _ _ hk]
  simp [hk]
theorem wd_not (p : Nat → Bool) (j : Nat) : bits .xor .u64 (if IntKind.u64.signed = true then -1 else IntKind.u64.max) ((wd p j : Nat) : Int) = ((wd (fun i => !p i) j : Nat) : Int) := by
  have e : (if IntKind.u64.signed = true then -1 else IntKind.u64.max) = ((18446744073709551615 : Nat) : Int) := by decide
  rw [e, u64_xor_nat _ _ (by decide) (wd_lt p j)]
  congr 1
  refine wd_eq (Nat.xor_lt_two_pow (by decide) (wd_lt p _)) fun k hk => ?_
  rw [Nat.testBit_xor, wd_bit _ _ _ hk, show (18446744073709551615 : Nat) = 2 ^ 64 - (0 + 1) from rfl, Nat.testBit_two_pow_sub_succ (by decide)]
  simp [hk]
end Go.Proofs.Ytedbhjladpfafaa
