/- Sort, plain: keys ascend, rows with equal keys keep their order. No program. -/
import Derived.Test.YtalnhbjpfnodiaaYp
import Derived.Test.YtalnhbjpfnodiaaZr
namespace Go.Proofs.Ytalnhbjpfnodiaa
def swp (f : Nat → Nat) (i : Nat) : Nat → Nat := fun t => if t = i then f (i + 1) else if t = i + 1 then f i else f t
/-- Two neighbours are put in order. -/
def bub (key f : Nat → Nat) (i : Nat) : Nat → Nat := if key (f (i + 1)) < key (f i) then swp f i else f
def bubs (key f : Nat → Nat) (l : List Nat) : Nat → Nat := l.foldl (bub key) f
def ll (key : Nat → Nat) (a b : Nat) : Prop := key a < key b ∨ (key a = key b ∧ a < b)
theorem ll_trans {key : Nat → Nat} {a b c : Nat} (h1 : ll key a b) (h2 : ll key b c) : ll key a c := by
  unfold ll at h1 h2 ⊢; omega
/-- Which row stands at each place: each one once, and rows with equal keys in their order. -/
structure Bi (key : Nat → Nat) (Y : Nat) (f : Nat → Nat) : Prop where
  lt : ∀ t, t < Y → f t < Y
  inj : ∀ s t, s < Y → t < Y → f s = f t → s = t
  stab : ∀ s t, s < t → t < Y → key (f s) = key (f t) → f s < f t
theorem Bi.id (key : Nat → Nat) (Y : Nat) : Bi key Y (fun t => t) := ⟨fun _ h => h, fun _ _ _ _ h => h, fun _ _ h _ _ => h⟩
theorem swp_cases (f : Nat → Nat) (i t : Nat) : (t = i ∧ swp f i t = f (i + 1)) ∨ (t = i + 1 ∧ swp f i t = f i) ∨ (t ≠ i ∧ t ≠ i + 1 ∧ swp f i t = f t) := by
  unfold swp
  by_cases h1 : t = i
  · exact .inl ⟨h1, by rw [if_pos h1]⟩
  · by_cases h2 : t = i + 1
    · exact .inr (.inl ⟨h2, by rw [if_neg h1, if_pos h2]⟩)
    · exact .inr (.inr ⟨h1, h2, by rw [if_neg h1, if_neg h2]⟩)
theorem Bi.swp {key : Nat → Nat} {Y : Nat} {f : Nat → Nat} (h : Bi key Y f) {i : Nat} (hi : i + 1 < Y) (hk : key (f (i + 1)) < key (f i)) : Bi key Y (swp f i) := by
  refine ⟨fun t ht => ?_, fun s t hs ht e => ?_, fun s t hst ht e => ?_⟩
  · rcases swp_cases f i t with ⟨_, e⟩ | ⟨_, e⟩ | ⟨_, _, e⟩ <;> rw [e] <;> apply h.lt <;> omega
  · rcases swp_cases f i s with ⟨a, e1⟩ | ⟨a, e1⟩ | ⟨a, a', e1⟩ <;> rcases swp_cases f i t with ⟨b, e2⟩ | ⟨b, e2⟩ | ⟨b, b', e2⟩ <;> rw [e1, e2] at e <;> have := h.inj _ _ (by omega) (by omega) e <;> omega
  · rcases swp_cases f i s with ⟨a, e1⟩ | ⟨a, e1⟩ | ⟨a, a', e1⟩ <;> rcases swp_cases f i t with ⟨b, e2⟩ | ⟨b, e2⟩ | ⟨b, b', e2⟩ <;> rw [e1, e2] at e ⊢ <;> first | omega | exact h.stab _ _ (by omega) (by omega) e
/-- Whatever stands behind the place m is greater than all before it. -/
def Hi (key : Nat → Nat) (Y m : Nat) (f : Nat → Nat) : Prop := ∀ s t, s < t → m < t → t < Y → ll key (f s) (f t)
/-- The greatest one of the first ones stands at i. -/
def Di (key : Nat → Nat) (i : Nat) (f : Nat → Nat) : Prop := ∀ s, s < i → ll key (f s) (f i)
theorem bub_step {key : Nat → Nat} {Y m i : Nat} {f : Nat → Nat} (h : Bi key Y f) (hh : Hi key Y m f) (hd : Di key i f) (hi : i < m) (hm : m < Y) : Bi key Y (bub key f i) ∧ Hi key Y m (bub key f i) ∧ Di key (i + 1) (bub key f i) := by
  unfold bub
  by_cases hk : key (f (i + 1)) < key (f i)
  · rw [if_pos hk]
    refine ⟨h.swp (by omega) hk, fun s t hst hmt ht => ?_, fun s hs => ?_⟩
    · have e2 : Go.Proofs.Ytalnhbjpfnodiaa.swp f i t = f t := by
        rcases swp_cases f i t with ⟨b, _⟩ | ⟨b, _⟩ | ⟨_, _, e2⟩
        · omega
        · omega
        · exact e2
      rw [e2]
      rcases swp_cases f i s with ⟨a, e1⟩ | ⟨a, e1⟩ | ⟨a, a', e1⟩ <;> rw [e1] <;> exact hh _ _ (by omega) hmt ht
    · have e2 : Go.Proofs.Ytalnhbjpfnodiaa.swp f i (i + 1) = f i := by
        rcases swp_cases f i (i + 1) with ⟨b, _⟩ | ⟨_, e2⟩ | ⟨_, b, _⟩
        · omega
        · exact e2
        · omega
      rw [e2]
      rcases swp_cases f i s with ⟨a, e1⟩ | ⟨a, e1⟩ | ⟨a, a', e1⟩ <;> rw [e1]
      · exact .inl hk
      · omega
      · exact hd s (by omega)
  · rw [if_neg hk]
    refine ⟨h, hh, fun s hs => ?_⟩
    have hii : ll key (f i) (f (i + 1)) := by
      by_cases he : key (f i) = key (f (i + 1))
      · exact .inr ⟨he, h.stab _ _ (by omega) (by omega) he⟩
      · exact .inl (by omega)
    by_cases hs2 : s = i
    · rw [hs2]; exact hii
    · exact ll_trans (hd s (by omega)) hii
theorem bub_pass {key : Nat → Nat} {Y m : Nat} (hm : m < Y) : ∀ (n i : Nat) (f : Nat → Nat), Bi key Y f → Hi key Y m f → Di key i f → i + n ≤ m → Bi key Y (bubs key f (List.range' i n)) ∧ Hi key Y m (bubs key f (List.range' i n)) ∧ Di key (i + n) (bubs key f (List.range' i n))
  | 0, i, f, h, hh, hd, _ => ⟨h, hh, hd⟩
  | n + 1, i, f, h, hh, hd, hn => by
    obtain ⟨h1, h2, h3⟩ := bub_step h hh hd (by omega) hm
    have := bub_pass hm n (i + 1) (bub key f i) h1 h2 h3 (by omega)
    rw [show i + 1 + n = i + (n + 1) by omega] at this
    exact this
theorem bub_all {key : Nat → Nat} {Y : Nat} : ∀ (j : Nat) (f : Nat → Nat), j < Y → Bi key Y f → Hi key Y j f → Bi key Y (bubs key f (netK j)) ∧ Hi key Y 0 (bubs key f (netK j))
  | 0, f, _, h, hh => ⟨h, hh⟩
  | j + 1, f, hj, h, hh => by
    obtain ⟨h1, h2, h3⟩ := bub_pass hj (j + 1) 0 f h hh (fun s hs => by omega) (by omega)
    have hh2 : Hi key Y j (bubs key f (List.range' 0 (j + 1))) := fun s t hst hmt ht => by
      by_cases he : t = j + 1
      · subst he; rw [Nat.zero_add] at h3; exact h3 s hst
      · exact h2 s t hst (by omega) ht
    have := bub_all j _ (by omega) h1 hh2
    unfold bubs at this ⊢
    rw [netK, List.foldl_append]
    exact this
/-- What the place of each row behind Sort is. -/
def soF (key : Nat → Nat) (Y : Nat) : Nat → Nat := bubs key (fun t => t) (netK (Y - 1))
theorem soF_ok (key : Nat → Nat) {Y : Nat} (hY : 1 ≤ Y) : Bi key Y (soF key Y) ∧ ∀ s t, s < t → t < Y → ll key (soF key Y s) (soF key Y t) := by
  obtain ⟨h1, h2⟩ := bub_all (key := key) (Y - 1) (fun t => t) (by omega) (Bi.id key Y) (fun s t hst hmt ht => by omega)
  exact ⟨h1, fun s t hst ht => h2 s t hst (by omega) ht⟩
/-- The rows of the table stand as f says, all other cells as they were. -/
structure Rel (own : List Nat) (X N Y : Nat) (C : List Nat) (f : Nat → Nat) : Prop where
  len : C.length = own.length
  row : ∀ i t, i < Y → t < N → C.getD (X + i * N + t) 0 = own.getD (X + f i * N + t) 0
  out : ∀ q, q < X ∨ X + Y * N ≤ q → C.getD q 0 = own.getD q 0
theorem Rel.id (own : List Nat) (X N Y : Nat) : Rel own X N Y own (fun t => t) := ⟨rfl, fun _ _ _ _ => rfl, fun _ _ => rfl⟩
theorem mul_lt_row {a b N : Nat} (h : a < b) : a * N + N ≤ b * N := by
  have := Nat.mul_le_mul_right N (show a + 1 ≤ b by omega)
  rw [Nat.succ_mul] at this
  exact this
theorem Rel.step {own : List Nat} {X N Y : Nat} {C : List Nat} {f : Nat → Nat} (h : Rel own X N Y C f) (hN : 1 ≤ N) (hl : X + Y * N ≤ own.length) (hw : ∀ v ∈ C, v < 2 ^ 64) {i : Nat} (hi : i + 1 < Y) : Rel own X N Y (exC (X + i * N) (X + (i + 1) * N) N C) (bub (fun a => own.getD (X + a * N) 0) f i) := by
  have k1 := h.row i 0 (by omega) hN
  have k2 := h.row (i + 1) 0 hi hN
  simp only [Nat.add_zero] at k1 k2
  have hs : (i + 1) * N = i * N + N := Nat.succ_mul i N
  have hb2 : (i + 1) * N + N ≤ Y * N := mul_lt_row hi
  have hlen := h.len
  unfold exC bub
  rw [k1, k2]
  by_cases hk : own.getD (X + f (i + 1) * N) 0 < own.getD (X + f i * N) 0
  · rw [show ltM (own.getD (X + f (i + 1) * N) 0) (own.getD (X + f i * N) 0) = onesN from if_pos hk, if_pos hk]
    have at' := fun q => swRC_at (a := X + i * N) (b := X + (i + 1) * N) (j := N) (cs := C) (.inl (by omega)) (by omega) (by omega) hw N (Nat.le_refl _) q
    refine ⟨by rw [swRC_len]; exact hlen, fun a t ha ht => ?_, fun q hq => ?_⟩
    · rw [at']
      rcases swp_cases f i a with ⟨e, e1⟩ | ⟨e, e1⟩ | ⟨e, e', e1⟩
      · subst e
        rw [e1, if_pos ⟨by omega, by omega⟩, show X + a * N + t - (X + a * N) + (X + (a + 1) * N) = X + (a + 1) * N + t by omega]
        exact h.row (a + 1) t hi ht
      · subst e
        rw [e1, if_neg (by omega), if_pos ⟨by omega, by omega⟩, show X + (i + 1) * N + t - (X + (i + 1) * N) + (X + i * N) = X + i * N + t by omega]
        exact h.row i t (by omega) ht
      · rw [e1]
        rcases Nat.lt_or_ge a i with h1 | h1
        · have := mul_lt_row (N := N) h1
          rw [if_neg (by omega), if_neg (by omega)]
          exact h.row a t ha ht
        · have := mul_lt_row (N := N) (show i + 1 < a by omega)
          rw [if_neg (by omega), if_neg (by omega)]
          exact h.row a t ha ht
    · rw [at', if_neg (by omega), if_neg (by omega)]
      exact h.out q hq
  · rw [show ltM (own.getD (X + f (i + 1) * N) 0) (own.getD (X + f i * N) 0) = 0 from if_neg hk, if_neg hk, swRC_zero]
    exact h
theorem Rel.all {own : List Nat} {X N Y : Nat} (hN : 1 ≤ N) (hl : X + Y * N ≤ own.length) (hw : ∀ v ∈ own, v < 2 ^ 64) : ∀ (l : List Nat) (C : List Nat) (f : Nat → Nat), (∀ i ∈ l, i + 1 < Y) → (∀ v ∈ C, v < 2 ^ 64) → Rel own X N Y C f → Rel own X N Y (soC X N l C) (bubs (fun a => own.getD (X + a * N) 0) f l)
  | [], _, _, _, _, h => h
  | i :: l, _, _, hi, hC, h => Rel.all hN hl hw l _ _ (fun j hj => hi j (List.mem_cons_of_mem _ hj)) (swRC_w hC N) (h.step hN hl hC (hi i (List.mem_cons_self ..)))
/-- The values that the law gives the rows: small keys, and their numbers. -/
def owF (cs : List Nat) (X N q : Nat) : Nat → List Nat
  | 0 => cs
  | i + 1 => ((owF cs X N q i).set (X + i * N) ((owF cs X N q i).getD (X + i * N) 0 % q)).set (X + i * N + 1) i
theorem owF_len (cs : List Nat) (X N q : Nat) : ∀ i, (owF cs X N q i).length = cs.length
  | 0 => rfl
  | i + 1 => by rw [owF, List.length_set, List.length_set, owF_len cs X N q i]
theorem owF_w {cs : List Nat} {X N q : Nat} (h : ∀ v ∈ cs, v < 2 ^ 64) (hq : 1 ≤ q ∧ q ≤ 6) : ∀ i, i ≤ 16 → ∀ v ∈ owF cs X N q i, v < 2 ^ 64
  | 0, _ => h
  | i + 1, hi => by
    intro v hv
    rw [owF] at hv
    rcases List.mem_or_eq_of_mem_set hv with h1 | rfl
    · rcases List.mem_or_eq_of_mem_set h1 with h2 | rfl
      · exact owF_w h hq i (by omega) v h2
      · have := Nat.mod_lt ((owF cs X N q i).getD (X + i * N) 0) (show q > 0 by omega); omega
    · omega
theorem owF_two {cs : List Nat} {X N q Y : Nat} (hN : 2 ≤ N) (hl : X + Y * N ≤ cs.length) : ∀ i, i ≤ Y → ∀ a, a < i → (owF cs X N q i).getD (X + a * N + 1) 0 = a
  | 0, _, a, ha => by omega
  | i + 1, hi, a, ha => by
    have h1 := mul_lt_row (N := N) (show i < Y by omega)
    rw [owF, getD_set, List.length_set, owF_len]
    by_cases he : a = i
    · subst he
      rw [if_pos ⟨rfl, by omega⟩]
    · have h2 := mul_lt_row (N := N) (show a < i by omega)
      rw [if_neg (by omega), getD_set, owF_len, if_neg (by omega)]
      exact owF_two hN hl i (by omega) a (by omega)
end Go.Proofs.Ytalnhbjpfnodiaa
