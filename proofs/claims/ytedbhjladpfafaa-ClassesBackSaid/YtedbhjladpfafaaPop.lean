/- Plain mathematics: the ones of a word, counted by fields of two, four and eight bits. No program. -/
import Derived.Test.YtedbhjladpfafaaPlain
namespace Go.Proofs.Ytedbhjladpfafaa
/-- How many of the first n bits of x are 1. -/
def pc (n x : Nat) : Nat := ((List.range n).filter fun k => x.testBit k).length
theorem split_bit (b v j : Nat) (hb : b < 256) : (b + 256 * v).testBit j = if j < 8 then b.testBit j else v.testBit (j - 8) := by
  have := Nat.testBit_two_pow_mul_add v (b := b) (i := 8) hb j
  rw [show 2 ^ 8 * v + b = b + 256 * v by omega] at this
  exact this
theorem and_split (b v m M : Nat) (hb : b < 256) (hm : m < 256) : (b + 256 * v) &&& (m + 256 * M) = (b &&& m) + 256 * (v &&& M) := by
  apply Nat.eq_of_testBit_eq
  intro j
  rw [Nat.testBit_and, split_bit _ _ _ hb, split_bit _ _ _ hm, split_bit _ _ _ (Nat.lt_of_le_of_lt Nat.and_le_left hb)]
  split <;> rw [Nat.testBit_and]
theorem filter_add (f : Nat → Bool) (a b : Nat) : ((List.range (a + b)).filter f).length = ((List.range a).filter f).length + ((List.range b).filter fun k => f (a + k)).length := by
  rw [List.range_add, List.filter_append, List.length_append, List.filter_map, List.length_map]
  rfl
theorem pc_split (n b v : Nat) (hb : b < 256) : pc (8 + n) (b + 256 * v) = pc 8 b + pc n v := by
  unfold pc
  rw [filter_add]
  congr 1
  · congr 1
    apply List.filter_congr
    intro k hk
    rw [split_bit _ _ _ hb, if_pos (List.mem_range.1 hk)]
  · congr 1
    apply List.filter_congr
    intro k _
    rw [split_bit _ _ _ hb, if_neg (by omega), Nat.add_sub_cancel_left]
def val : List Nat → Nat
  | [] => 0
  | b :: bs => b + 256 * val bs
def msk (c n : Nat) : Nat := val (List.replicate n c)
def s1 (x m : Nat) : Nat := (x / 2 &&& m) + (x &&& m)
def s2 (x m : Nat) : Nat := (x / 4 &&& m) + (x &&& m)
def s3 (x m : Nat) : Nat := (x / 16 + x) &&& m
theorem low1 : ∀ (b : Fin 256) (t : Fin 2), (b.val / 2 + 128 * t.val) &&& 0x55 = b.val / 2 &&& 0x55 := by decide +kernel
theorem low2 : ∀ (b : Fin 256) (t : Fin 4), (b.val / 4 + 64 * t.val) &&& 0x33 = b.val / 4 &&& 0x33 := by decide +kernel
theorem s1_split (b v M : Nat) (hb : b < 256) : s1 (b + 256 * v) (0x55 + 256 * M) = s1 b 0x55 + 256 * s1 v M := by
  unfold s1
  have h := low1 ⟨b, hb⟩ ⟨v % 2, by omega⟩
  simp only at h
  rw [show (b + 256 * v) / 2 = (b / 2 + 128 * (v % 2)) + 256 * (v / 2) by omega, and_split _ _ _ _ (by omega) (by omega), and_split _ _ _ _ hb (by omega), h]
  omega
theorem s2_split (b v M : Nat) (hb : b < 256) : s2 (b + 256 * v) (0x33 + 256 * M) = s2 b 0x33 + 256 * s2 v M := by
  unfold s2
  have h := low2 ⟨b, hb⟩ ⟨v % 4, by omega⟩
  simp only at h
  rw [show (b + 256 * v) / 4 = (b / 4 + 64 * (v % 4)) + 256 * (v / 4) by omega, and_split _ _ _ _ (by omega) (by omega), and_split _ _ _ _ hb (by omega), h]
  omega
/-- A byte after two steps. -/
def t8 (b : Nat) : Nat := s2 (s1 b 0x55) 0x33
theorem t8_ok : ∀ b : Fin 256, s1 b.val 0x55 < 256 ∧ t8 b.val % 16 ≤ 4 ∧ t8 b.val / 16 ≤ 4 ∧ s3 (t8 b.val) 0x0f = pc 8 b.val ∧ pc 8 b.val ≤ 8 := by decide +kernel
theorem low3 : ∀ (q r s : Fin 5), (q.val + 16 * s.val + (r.val + 16 * q.val)) &&& 0x0f = (q.val + (r.val + 16 * q.val)) &&& 0x0f := by decide +kernel
theorem s3_split (b v M : Nat) (h1 : b % 16 ≤ 4) (h2 : b / 16 ≤ 4) (h3 : v % 16 ≤ 4) : s3 (b + 256 * v) (0x0f + 256 * M) = s3 b 0x0f + 256 * s3 v M := by
  unfold s3
  have h := low3 ⟨b / 16, by omega⟩ ⟨b % 16, by omega⟩ ⟨v % 16, by omega⟩
  simp only at h
  rw [show (b + 256 * v) / 16 + (b + 256 * v) = (b / 16 + 16 * (v % 16) + (b % 16 + 16 * (b / 16))) + 256 * (v / 16 + v) by omega, and_split _ _ _ _ (by omega) (by omega), h]
  rw [show b / 16 + (b % 16 + 16 * (b / 16)) = b / 16 + b by omega]
theorem s1_val : ∀ bs : List Nat, (∀ b ∈ bs, b < 256) → s1 (val bs) (msk 0x55 bs.length) = val (bs.map fun b => s1 b 0x55)
  | [], _ => rfl
  | b :: bs, h => by
    have ih := s1_val bs (fun x hx => h x (by simp [hx]))
    show s1 (b + 256 * val bs) (0x55 + 256 * msk 0x55 bs.length) = s1 b 0x55 + 256 * val (bs.map fun b => s1 b 0x55)
    rw [s1_split _ _ _ (h b (by simp)), ih]
theorem s2_val : ∀ bs : List Nat, (∀ b ∈ bs, b < 256) → s2 (val bs) (msk 0x33 bs.length) = val (bs.map fun b => s2 b 0x33)
  | [], _ => rfl
  | b :: bs, h => by
    have ih := s2_val bs (fun x hx => h x (by simp [hx]))
    show s2 (b + 256 * val bs) (0x33 + 256 * msk 0x33 bs.length) = s2 b 0x33 + 256 * val (bs.map fun b => s2 b 0x33)
    rw [s2_split _ _ _ (h b (by simp)), ih]
theorem val_mod : ∀ ts : List Nat, (∀ t ∈ ts, t % 16 ≤ 4) → val ts % 16 ≤ 4
  | [], _ => by decide
  | t :: ts, h => by
    have := h t (by simp)
    show (t + 256 * val ts) % 16 ≤ 4
    omega
theorem s3_val : ∀ ts : List Nat, (∀ t ∈ ts, t % 16 ≤ 4 ∧ t / 16 ≤ 4) → s3 (val ts) (msk 0x0f ts.length) = val (ts.map fun t => s3 t 0x0f)
  | [], _ => rfl
  | t :: ts, h => by
    have ih := s3_val ts (fun x hx => h x (by simp [hx]))
    have ht := h t (by simp)
    show s3 (t + 256 * val ts) (0x0f + 256 * msk 0x0f ts.length) = s3 t 0x0f + 256 * val (ts.map fun t => s3 t 0x0f)
    rw [s3_split _ _ _ ht.1 ht.2 (val_mod ts fun x hx => (h x (by simp [hx])).1), ih]
def bytes : Nat → Nat → List Nat
  | 0, _ => []
  | n + 1, x => (x % 256) :: bytes n (x / 256)
theorem bytes_len : ∀ n x, (bytes n x).length = n
  | 0, _ => rfl
  | n + 1, x => by simp [bytes, bytes_len n]
theorem bytes_lt : ∀ n x, ∀ b ∈ bytes n x, b < 256
  | 0, _ => by simp [bytes]
  | n + 1, x => by
    intro b hb
    simp only [bytes, List.mem_cons] at hb
    rcases hb with rfl | hb
    · omega
    · exact bytes_lt n _ b hb
theorem val_bytes : ∀ n x, x < 256 ^ n → val (bytes n x) = x
  | 0, x, h => by simp at h; subst h; rfl
  | n + 1, x, h => by
    have := val_bytes n (x / 256) (by rw [Nat.pow_succ] at h; omega)
    show x % 256 + 256 * val (bytes n (x / 256)) = x
    rw [this]; omega
theorem pc_bytes : ∀ n x, pc (8 * n) x = ((bytes n x).map (pc 8)).sum
  | 0, _ => rfl
  | n + 1, x => by
    have ih := pc_bytes n (x / 256)
    have h := pc_split (8 * n) (x % 256) (x / 256) (by omega)
    rw [show x % 256 + 256 * (x / 256) = x by omega] at h
    rw [show 8 * (n + 1) = 8 + 8 * n by omega, h, ih]
    simp [bytes]
theorem masks8 : msk 0x55 8 = 6148914691236517205 ∧ msk 0x33 8 = 3689348814741910323 ∧ msk 0x0f 8 = 1085102592571150095 := by decide +kernel
theorem third (x : Nat) (hx : x < 2 ^ 64) : s3 (s2 (s1 x 6148914691236517205) 3689348814741910323) 1085102592571150095 = val ((bytes 8 x).map (pc 8)) := by
  have hv := val_bytes 8 x (by simpa using hx)
  have hl := bytes_len 8 x
  have hb := bytes_lt 8 x
  obtain ⟨m1, m2, m3⟩ := masks8
  generalize bytes 8 x = bs at hv hl hb
  have e1 := s1_val bs hb
  rw [hl, m1, hv] at e1
  have e2 := s2_val (bs.map fun b => s1 b 0x55) (fun t ht => by obtain ⟨b, h, rfl⟩ := List.mem_map.1 ht; exact (t8_ok ⟨b, hb b h⟩).1)
  rw [List.length_map, hl, m2, ← e1, List.map_map] at e2
  have e3 := s3_val (bs.map ((fun b => s2 b 0x33) ∘ fun b => s1 b 0x55)) (fun t ht => by
    obtain ⟨b, h, rfl⟩ := List.mem_map.1 ht
    exact ⟨(t8_ok ⟨b, hb b h⟩).2.1, (t8_ok ⟨b, hb b h⟩).2.2.1⟩)
  rw [List.length_map, hl, m3, ← e2, List.map_map] at e3
  rw [e3]
  congr 1
  apply List.map_congr_left
  intro b h
  exact (t8_ok ⟨b, hb b h⟩).2.2.2.1
/-- The last steps, and that no step is too great. -/
theorem pop_all (x : Nat) (hx : x < 2 ^ 64) : ∃ y : Nat, s3 (s2 (s1 x 6148914691236517205) 3689348814741910323) 1085102592571150095 = y ∧ y < 2 ^ 60 ∧
    (y + y / 256 + (y + y / 256) / 65536 + (y + y / 256 + (y + y / 256) / 65536) / 4294967296) % 128 = pc 64 x ∧ pc 64 x ≤ 64 := by
  refine ⟨_, third x hx, ?_⟩
  rw [show (64 : Nat) = 8 * 8 from rfl, pc_bytes 8 x]
  have hb := bytes_lt 8 x
  have hc : ∀ c ∈ (bytes 8 x).map (pc 8), c ≤ 8 := fun c h => by obtain ⟨b, h', rfl⟩ := List.mem_map.1 h; exact (t8_ok ⟨b, hb b h'⟩).2.2.2.2
  have hl : ((bytes 8 x).map (pc 8)).length = 8 := by rw [List.length_map, bytes_len]
  generalize (bytes 8 x).map (pc 8) = cs at *
  match cs, hl with
  | [c0, c1, c2, c3, c4, c5, c6, c7], _ =>
    simp only [List.mem_cons, List.not_mem_nil, or_false, forall_eq_or_imp, forall_eq] at hc
    obtain ⟨h0, h1, h2, h3, h4, h5, h6, h7⟩ := hc
    simp only [val, List.sum_cons, List.sum_nil]
    obtain ⟨y7, e7⟩ : ∃ y, y = c7 + 256 * 0 := ⟨_, rfl⟩
    rw [← e7]
    obtain ⟨y6, e6⟩ : ∃ y, y = c6 + 256 * y7 := ⟨_, rfl⟩
    rw [← e6]
    obtain ⟨y5, e5⟩ : ∃ y, y = c5 + 256 * y6 := ⟨_, rfl⟩
    rw [← e5]
    obtain ⟨y4, e4⟩ : ∃ y, y = c4 + 256 * y5 := ⟨_, rfl⟩
    rw [← e4]
    obtain ⟨y3, e3⟩ : ∃ y, y = c3 + 256 * y4 := ⟨_, rfl⟩
    rw [← e3]
    obtain ⟨y2, e2⟩ : ∃ y, y = c2 + 256 * y3 := ⟨_, rfl⟩
    rw [← e2]
    obtain ⟨y1, e1⟩ : ∃ y, y = c1 + 256 * y2 := ⟨_, rfl⟩
    rw [← e1]
    obtain ⟨y0, e0⟩ : ∃ y, y = c0 + 256 * y1 := ⟨_, rfl⟩
    rw [← e0]
    have q1 : y0 / 256 = y1 := by omega
    have q2 : (y0 + y1) / 65536 = y2 + y3 := by omega
    have q3 : (y0 + y1 + (y2 + y3)) / 4294967296 = y4 + y5 + y6 + y7 := by omega
    rw [q1, q2, q3]
    clear q1 q2 q3
    have b6 : y6 ≤ 2056 := by omega
    have b4 : y4 ≤ 134744072 := by omega
    have b2 : y2 < 2 ^ 44 := by omega
    refine ⟨by omega, ?_, by omega⟩
    have m0 : y0 % 128 = c0 := by omega
    have m1 : y1 % 128 = c1 := by omega
    have m2 : y2 % 128 = c2 := by omega
    have m3 : y3 % 128 = c3 := by omega
    have m4 : y4 % 128 = c4 := by omega
    have m5 : y5 % 128 = c5 := by omega
    have m6 : y6 % 128 = c6 := by omega
    have m7 : y7 % 128 = c7 := by omega
    clear e0 e1 e2 e3 e4 e5 e6 e7 b6 b4 b2
    omega
end Go.Proofs.Ytedbhjladpfafaa
