/- Comparisons, plain: the bit of an order, masks of it, the order of rows, pairs of a network. No program. -/
import Derived.Test.YtalnhbjpfnodiaaZp
namespace Go.Proofs.Ytalnhbjpfnodiaa
open Go.RowKit
theorem top_bit {x : Nat} (hx : x < 2 ^ 64) : x.testBit 63 = decide (2 ^ 63 ≤ x) := by
  rw [Nat.testBit_eq_decide_div_mod_eq]
  exact decide_eq_decide.2 (by omega)
theorem div_top {x : Nat} (hx : x < 2 ^ 64) : x / 2 ^ 63 = if x.testBit 63 then 1 else 0 := by
  rw [top_bit hx]
  by_cases h : 2 ^ 63 ≤ x
  · rw [if_pos (decide_eq_true h)]; omega
  · rw [if_neg (by rw [decide_eq_false h]; decide)]; omega
def ltN (a b : Nat) : Nat := if a < b then 1 else 0
def eqN (a b : Nat) : Nat := if a = b then 1 else 0
theorem ltN_le (a b : Nat) : ltN a b < 2 ^ 64 := by unfold ltN; split <;> decide
theorem eqN_le (a b : Nat) : eqN a b < 2 ^ 64 := by unfold eqN; split <;> decide
/-- The bit of the order, by a difference. -/
theorem less_top {n o : Nat} (hn : n < 2 ^ 64) (ho : o < 2 ^ 64) : (((onesN - n) &&& o) ||| ((onesN - (n ^^^ o)) &&& ((n + 2 ^ 64 - o) % 2 ^ 64))) / 2 ^ 63 = ltN n o := by
  have hx : n ^^^ o < 2 ^ 64 := Nat.xor_lt_two_pow hn ho
  have hd : (n + 2 ^ 64 - o) % 2 ^ 64 < 2 ^ 64 := Nat.mod_lt _ (by decide)
  rw [div_top (Nat.or_lt_two_pow (Nat.lt_of_le_of_lt Nat.and_le_right ho) (Nat.lt_of_le_of_lt Nat.and_le_right hd)), Nat.testBit_or, Nat.testBit_and, Nat.testBit_and, not_bit n 63 hn (by decide), not_bit (n ^^^ o) 63 hx (by decide), Nat.testBit_xor, top_bit hn, top_bit ho, top_bit hd]
  unfold ltN
  by_cases h1 : 2 ^ 63 ≤ n <;> by_cases h2 : 2 ^ 63 ≤ o <;> simp only [h1, h2, decide_true, decide_false, Bool.not_true, Bool.not_false, Bool.true_and, Bool.false_and, Bool.and_true, Bool.and_false, Bool.xor_true, Bool.xor_false, Bool.or_false, Bool.false_or, decide_eq_true_eq, Bool.false_eq_true, if_true, if_false]
  · by_cases h3 : n < o
    · rw [if_pos h3, if_pos (by omega)]
    · rw [if_neg h3, if_neg (by omega)]
  · rw [if_neg (by omega)]
  · rw [if_pos (by omega)]
  · by_cases h3 : n < o
    · rw [if_pos h3, if_pos (by omega)]
    · rw [if_neg h3, if_neg (by omega)]
theorem less_u64 {n o : Nat} (hn : n < 2 ^ 64) (ho : o < 2 ^ 64) : bits .or .u64 (bits .and .u64 (bits .xor .u64 (if IntKind.u64.signed = true then -1 else IntKind.u64.max) (n : Int)) (o : Int)) (bits .and .u64 (bits .xor .u64 (if IntKind.u64.signed = true then -1 else IntKind.u64.max) (bits .xor .u64 (n : Int) (o : Int))) (IntKind.u64.wrap ((n : Int) - (o : Int)))) / 9223372036854775808 = (ltN n o : Int) := by
  have hx : n ^^^ o < 2 ^ 64 := Nat.xor_lt_two_pow hn ho
  have hd : (n + 2 ^ 64 - o) % 2 ^ 64 < 2 ^ 64 := Nat.mod_lt _ (by decide)
  have e0 : IntKind.u64.wrap ((n : Int) - (o : Int)) = (((n + 2 ^ 64 - o) % 2 ^ 64 : Nat) : Int) := by rw [IntKind.wrap_u64]; omega
  have h1 : onesN - n < 2 ^ 64 := by unfold onesN; omega
  have h2 : onesN - (n ^^^ o) < 2 ^ 64 := by unfold onesN; omega
  rw [not_u64 hn, u64_xor_nat _ _ hn ho, not_u64 hx, e0, u64_and_nat _ _ h1 ho, u64_and_nat _ _ h2 hd, u64_or_nat _ _ (Nat.lt_of_le_of_lt Nat.and_le_right ho) (Nat.lt_of_le_of_lt Nat.and_le_right hd), ← less_top hn ho]
  rfl
theorem same_u64 (n o : Nat) : bits .xor .u64 (bits .or .u64 (ltN n o : Int) (ltN o n : Int)) 1 = (eqN n o : Int) := by
  unfold ltN eqN
  by_cases h1 : n < o
  · rw [if_pos h1, if_neg (by omega : ¬ o < n), if_neg (by omega)]; decide
  · by_cases h2 : o < n
    · rw [if_neg h1, if_pos h2, if_neg (by omega)]; decide
    · rw [if_neg h1, if_neg h2, if_pos (by omega)]; decide
def flip (n : Nat) : Nat := (2 ^ 63 + n) % 2 ^ 64
theorem flip_lt (n : Nat) : flip n < 2 ^ 64 := Nat.mod_lt _ (by decide)
theorem flip_xor {n : Nat} (hn : n < 2 ^ 64) : n ^^^ 2 ^ 63 = flip n :=
  word_ext (Nat.xor_lt_two_pow hn (by decide)) (flip_lt n) fun k hk => by
    unfold flip
    rw [Nat.testBit_xor, Nat.testBit_mod_two_pow, Nat.testBit_two_pow]
    rcases Nat.lt_or_ge k 63 with h | h
    · rw [Nat.testBit_two_pow_add_gt h, decide_eq_false (by omega : ¬ 63 = k), decide_eq_true hk]; cases n.testBit k <;> rfl
    · obtain rfl : k = 63 := by omega
      rw [Nat.testBit_two_pow_add_eq]; cases n.testBit 63 <;> rfl
theorem flip_u64 {n : Nat} (hn : n < 2 ^ 64) : bits .xor .u64 (n : Int) 9223372036854775808 = (flip n : Int) := by
  have e := u64_xor_nat n (2 ^ 63) hn (by decide)
  rw [flip_xor hn] at e
  exact e
/-- A number with a sign. -/
def sg (n : Nat) : Int := if n < 2 ^ 63 then n else (n : Int) - 2 ^ 64
theorem sg_wrap {n : Nat} (hn : n < 2 ^ 64) : IntKind.i64.wrap (n : Int) = sg n := by
  rw [IntKind.wrap_i64]; unfold sg; split <;> omega
theorem flip_less {a b : Nat} (ha : a < 2 ^ 64) (hb : b < 2 ^ 64) : flip a < flip b ↔ sg a < sg b := by
  unfold flip sg
  split <;> split <;> omega
-- masks
def ltM (a b : Nat) : Nat := if a < b then onesN else 0
def eqM (a b : Nat) : Nat := if a = b then onesN else 0
def slM (a b : Nat) : Nat := if sg a < sg b then onesN else 0
def btM (x l h : Nat) : Nat := if l ≤ x ∧ x ≤ h then onesN else 0
theorem ltM_mask (a b : Nat) : isM (ltM a b) := by unfold ltM isM; split <;> simp
theorem eqM_mask (a b : Nat) : isM (eqM a b) := by unfold eqM isM; split <;> simp
theorem ltM_lt (a b : Nat) : ltM a b < 2 ^ 64 := isM_lt (ltM_mask a b)
theorem eqM_lt (a b : Nat) : eqM a b < 2 ^ 64 := isM_lt (eqM_mask a b)
theorem of_ltN (a b : Nat) : ofM (ltN a b) = ltM a b := by unfold ltN ltM; split <;> rfl
theorem of_eqN (a b : Nat) : ofM (eqN a b) = eqM a b := by unfold eqN eqM; split <;> rfl
theorem of_flip {a b : Nat} (ha : a < 2 ^ 64) (hb : b < 2 ^ 64) : ofM (ltN (flip a) (flip b)) = slM a b := by
  rw [of_ltN]; unfold ltM slM
  by_cases h : flip a < flip b
  · rw [if_pos h, if_pos ((flip_less ha hb).1 h)]
  · rw [if_neg h, if_neg fun h2 => h ((flip_less ha hb).2 h2)]
theorem or_M {a b : Nat} (ha : isM a) (hb : isM b) : a ||| b = if a = onesN ∨ b = onesN then onesN else 0 := by
  rcases ha with rfl | rfl <;> rcases hb with rfl | rfl <;> decide
theorem and_M {a b : Nat} (ha : isM a) (hb : isM b) : a &&& b = if a = onesN ∧ b = onesN then onesN else 0 := by
  rcases ha with rfl | rfl <;> rcases hb with rfl | rfl <;> decide
theorem btM_not (x l h : Nat) : onesN - (ltM x l ||| ltM h x) = btM x l h := by
  unfold ltM btM
  by_cases h1 : x < l
  · rw [if_pos h1, if_neg (by omega : ¬ (l ≤ x ∧ x ≤ h))]; split <;> decide
  · rw [if_neg h1]
    by_cases h2 : h < x
    · rw [if_pos h2, if_neg (by omega)]; decide
    · rw [if_neg h2, if_pos (by omega)]; decide
theorem sel_min {a b : Nat} (ha : a < 2 ^ 64) (hb : b < 2 ^ 64) : selM (ltM a b) a b = min a b := by
  unfold ltM
  by_cases h : a < b
  · rw [if_pos h, selM_ones ha hb]; omega
  · rw [if_neg h, selM_zero]; omega
theorem sel_max {a b : Nat} (ha : a < 2 ^ 64) (hb : b < 2 ^ 64) : selM (ltM a b) b a = max a b := by
  unfold ltM
  by_cases h : a < b
  · rw [if_pos h, selM_ones hb ha]; omega
  · rw [if_neg h, selM_zero]; omega
-- rows
/-- How two rows are to one another by their first k cells: 0 as far equal, 1 the first one is less, 2 the second one is. -/
def ordS (u v : Nat → Nat) : Nat → Nat
  | 0 => 0
  | k + 1 => if ordS u v k = 0 then (if u k < v k then 1 else if v k < u k then 2 else 0) else ordS u v k
def eqO (o : Nat) : Nat := if o = 0 then onesN else 0
def ltO (o : Nat) : Nat := if o = 1 then onesN else 0
theorem eqO_mask (o : Nat) : isM (eqO o) := by unfold eqO isM; split <;> simp
theorem ltO_mask (o : Nat) : isM (ltO o) := by unfold ltO isM; split <;> simp
theorem ltO_step (u v : Nat → Nat) (k : Nat) : ltO (ordS u v k) ||| (eqO (ordS u v k) &&& ltM (u k) (v k)) = ltO (ordS u v (k + 1)) := by
  rw [ordS]
  generalize ordS u v k = o
  unfold ltO eqO ltM
  by_cases h0 : o = 0
  · subst h0
    by_cases h1 : u k < v k
    · simp [h1]
    · by_cases h2 : v k < u k
      · simp [h1, h2]
      · simp [h1, h2]
  · simp [h0]
theorem eqO_step (u v : Nat → Nat) (k : Nat) : eqO (ordS u v k) &&& eqM (u k) (v k) = eqO (ordS u v (k + 1)) := by
  rw [ordS]
  generalize ordS u v k = o
  unfold eqO eqM
  by_cases h0 : o = 0
  · subst h0
    by_cases h1 : u k < v k
    · simp [h1, show ¬ u k = v k by omega]
    · by_cases h2 : v k < u k
      · simp [h1, h2, show ¬ u k = v k by omega]
      · simp [show u k = v k by omega]
  · simp [h0]
def cmT (x y : Nat) : Nat → List (Nat × Nat)
  | 0 => []
  | k + 1 => cmT x y k ++ [(1, x + k), (1, y + k)]
theorem cmT_len (x y : Nat) : ∀ k, (cmT x y k).length = 2 * k
  | 0 => rfl
  | k + 1 => by rw [cmT, List.length_append, cmT_len x y k]; simp; omega
/-- The key of the row y is less: both are exchanged. -/
def exC (x y n : Nat) (cs : List Nat) : List Nat := swRC (ltM (cs.getD y 0) (cs.getD x 0)) x y cs n
def exT (x y n : Nat) : List (Nat × Nat) := (1, x) :: (1, y) :: swRT x y n
theorem exC_len (x y n : Nat) (cs : List Nat) : (exC x y n cs).length = cs.length := swRC_len ..
theorem exT_len (x y n : Nat) : (exT x y n).length = 4 * n + 2 := by unfold exT; simp [swRT_len]
-- the network
def netK : Nat → List Nat
  | 0 => []
  | j + 1 => List.range' 0 (j + 1) ++ netK j
theorem netK_len : ∀ j, 2 * (netK j).length = j * (j + 1)
  | 0 => rfl
  | j + 1 => by
    rw [netK, List.length_append, List.length_range', Nat.mul_add, netK_len j]
    have : (j + 1) * (j + 1 + 1) = j * (j + 1) + 2 * (j + 1) := by rw [Nat.add_mul, Nat.mul_add, Nat.mul_add]; omega
    omega
theorem netK_lt : ∀ (j : Nat) (i : Nat), i ∈ netK j → i < j
  | 0, i, h => by cases h
  | j + 1, i, h => by
    rw [netK] at h
    rcases List.mem_append.1 h with h1 | h1
    · have := List.mem_range'_1.1 h1; omega
    · have := netK_lt j i h1; omega
def soC (b n : Nat) (l : List Nat) (cs : List Nat) : List Nat := l.foldl (fun c i => exC (b + i * n) (b + (i + 1) * n) n c) cs
def soT (b n : Nat) (l : List Nat) : List (Nat × Nat) := l.flatMap fun i => exT (b + i * n) (b + (i + 1) * n) n
theorem soC_snoc (b n : Nat) (l : List Nat) (i : Nat) (cs : List Nat) : soC b n (l ++ [i]) cs = exC (b + i * n) (b + (i + 1) * n) n (soC b n l cs) := by unfold soC; rw [List.foldl_append]; rfl
theorem soT_snoc (b n : Nat) (l : List Nat) (i : Nat) : soT b n (l ++ [i]) = soT b n l ++ exT (b + i * n) (b + (i + 1) * n) n := by unfold soT; rw [List.flatMap_append]; simp
theorem soC_len (b n : Nat) : ∀ (l : List Nat) (cs : List Nat), (soC b n l cs).length = cs.length
  | [], cs => rfl
  | i :: l, cs => by
    have := soC_len b n l (exC (b + i * n) (b + (i + 1) * n) n cs)
    rw [exC_len] at this
    exact this
theorem soT_len (b n : Nat) : ∀ (l : List Nat), (soT b n l).length = (4 * n + 2) * l.length
  | [] => rfl
  | i :: l => by
    have := soT_len b n l
    unfold soT at this ⊢
    rw [List.flatMap_cons, List.length_append, exT_len, this, List.length_cons, Nat.mul_add]; omega
end Go.Proofs.Ytalnhbjpfnodiaa
