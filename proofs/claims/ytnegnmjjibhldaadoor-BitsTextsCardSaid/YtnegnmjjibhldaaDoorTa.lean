/- Plain mathematics of layer 2: the texts of rows. No program. -/
import Derived.Test.YtnegnmjjibhldaaDoorPlain
import Derived.Lib.IndexBytes
import Derived.Lib.SplitLaws
import Derived.Lib.CountLaws
namespace Go.Proofs.YtnegnmjjibhldaaDoor
def hexL : List UInt8 := [48, 49, 50, 51, 52, 53, 54, 55, 56, 57, 97, 98, 99, 100, 101, 102]
/-- The number of a digit; below 0: none. -/
def dig (c : UInt8) : Int := Lib.indexByte hexL c
theorem dig_range : ∀ c : UInt8, -1 ≤ dig c ∧ dig c < 16 := by
  intro c
  obtain ⟨⟨⟨n, hn⟩⟩⟩ := c
  revert n
  decide +kernel
theorem dig_dot : dig 46 = -1 := by decide
def hexc (d : Nat) : UInt8 := hexL.getD d 0
theorem hexc_dig : ∀ c : UInt8, 0 ≤ dig c → hexc (dig c).toNat = c := by
  intro c
  obtain ⟨⟨⟨n, hn⟩⟩⟩ := c
  revert n
  decide +kernel
theorem dig_hexc (d : Nat) (h : d < 16) : dig (hexc d) = d := by
  rcases d with _ | _ | _ | _ | _ | _ | _ | _ | _ | _ | _ | _ | _ | _ | _ | _ | d
  all_goals first | omega | rfl
def okP (p : List UInt8) : Bool := decide (p.length = 16) && p.all (fun c => decide (0 ≤ dig c))
def hv (p : List UInt8) : Nat := p.foldl (fun a c => 16 * a + (dig c).toNat) 0
theorem hv_snoc (p : List UInt8) (c : UInt8) : hv (p ++ [c]) = 16 * hv p + (dig c).toNat := by simp [hv]
theorem hv_from (q : List UInt8) : ∀ a : Nat, q.foldl (fun a c => 16 * a + (dig c).toNat) a = a * 16 ^ q.length + hv q := by
  induction q with
  | nil => intro a; simp [hv]
  | cons c q ih =>
    intro a
    unfold hv
    rw [List.foldl_cons, List.foldl_cons, ih, ih, List.length_cons, Nat.pow_succ, Nat.add_mul, Nat.mul_zero, Nat.zero_add, Nat.mul_comm 16 a, Nat.mul_assoc, Nat.mul_comm 16 (16 ^ q.length), Nat.add_assoc]
theorem hv_app (p q : List UInt8) : hv (p ++ q) = hv p * 16 ^ q.length + hv q := by
  conv => lhs; unfold hv
  rw [List.foldl_append, hv_from]; rfl
theorem hv_lt (p : List UInt8) : hv p < 16 ^ p.length := by
  induction p with
  | nil => decide
  | cons c p ih =>
    have e : hv (c :: p) = (dig c).toNat * 16 ^ p.length + hv p := by
      have := hv_app [c] p
      rw [List.singleton_append] at this
      rw [this]; simp [hv]
    have h1 : (dig c).toNat < 16 := by have := dig_range c; omega
    have h2 : ((dig c).toNat + 1) * 16 ^ p.length ≤ 16 * 16 ^ p.length := Nat.mul_le_mul_right _ (by omega)
    rw [Nat.add_mul, Nat.one_mul] at h2
    rw [e, List.length_cons, Nat.pow_succ]
    omega
def digs (x k : Nat) : List UInt8 := (List.range k).map fun n => hexc (x / 2 ^ (60 - 4 * n) % 16)
theorem digs_succ (x k : Nat) : digs x (k + 1) = digs x k ++ [hexc (x / 2 ^ (60 - 4 * k) % 16)] := by
  unfold digs; rw [List.range_succ, List.map_append]; rfl
theorem digs_len (x k : Nat) : (digs x k).length = k := by simp [digs]
theorem hv_digs (x : Nat) (hx : x < 2 ^ 64) : ∀ k, k ≤ 16 → hv (digs x k) = x / 2 ^ (64 - 4 * k)
  | 0, _ => by
    rw [show 64 - 4 * 0 = 64 from rfl, Nat.div_eq_of_lt hx]; rfl
  | k + 1, hk => by
    rw [digs_succ, hv_snoc, hv_digs x hx k (by omega), dig_hexc _ (Nat.mod_lt _ (by omega)), Int.toNat_natCast,
      show 64 - 4 * k = (60 - 4 * k) + 4 by omega, show 64 - 4 * (k + 1) = 60 - 4 * k by omega, Nat.pow_add, ← Nat.div_div_eq_div_mul]
    have := Nat.div_add_mod (x / 2 ^ (60 - 4 * k)) (2 ^ 4)
    omega
theorem hv_word (x : Nat) (hx : x < 2 ^ 64) : hv (digs x 16) = x := by
  rw [hv_digs x hx 16 (by omega)]; simp
theorem digs_ok (x : Nat) : okP (digs x 16) = true := by
  unfold okP
  rw [digs_len, Bool.and_eq_true]
  refine ⟨rfl, List.all_eq_true.2 fun c hc => ?_⟩
  obtain ⟨n, _, rfl⟩ := List.mem_map.1 hc
  rw [dig_hexc _ (Nat.mod_lt _ (by omega))]
  simp; omega
theorem hv_lt64 {p : List UInt8} (h : okP p = true) : hv p < 2 ^ 64 := by
  unfold okP at h; rw [Bool.and_eq_true, decide_eq_true_iff] at h
  have := hv_lt p
  rw [h.1] at this
  exact this
theorem digs_hv {p : List UInt8} (h : okP p = true) : digs (hv p) 16 = p := by
  unfold okP at h; rw [Bool.and_eq_true, decide_eq_true_iff] at h
  apply List.ext_getElem (by rw [digs_len, h.1])
  intro n h1 h2
  have hn : n < 16 := by rw [digs_len] at h1; exact h1
  have hsplit : p = (p.take n ++ [p[n]]) ++ p.drop (n + 1) := by
    rw [List.append_assoc, List.singleton_append, List.getElem_cons_drop, List.take_append_drop]
  have hl : (p.drop (n + 1)).length = 15 - n := by rw [List.length_drop, h.1]; omega
  have e : hv p = (16 * hv (p.take n) + (dig p[n]).toNat) * 16 ^ (15 - n) + hv (p.drop (n + 1)) := by
    conv => lhs; rw [hsplit]
    rw [hv_app, hv_snoc, hl]
  have hlt := hv_lt (p.drop (n + 1))
  rw [hl] at hlt
  have hd : 0 ≤ dig p[n] := by simpa using List.all_eq_true.1 h.2 p[n] (List.getElem_mem _)
  have hd2 := (dig_range p[n]).2
  have hq : hv p / 2 ^ (60 - 4 * n) % 16 = (dig p[n]).toNat := by
    rw [show 60 - 4 * n = 4 * (15 - n) by omega, Nat.pow_mul, show 2 ^ 4 = 16 from rfl, e, Nat.add_comm, Nat.add_mul_div_right _ _ (Nat.pow_pos (by omega)), Nat.div_eq_of_lt hlt]
    omega
  simp only [digs, List.getElem_map, List.getElem_range]
  rw [hq]
  exact hexc_dig _ hd
/-- A text split at points. -/
def parts : List UInt8 → List (List UInt8)
  | [] => [[]]
  | c :: r => if c = 46 then [] :: parts r else
    match parts r with
    | [] => [[c]]
    | p :: ps => (c :: p) :: ps
theorem parts_ne (l : List UInt8) : parts l ≠ [] := by
  cases l with
  | nil => simp [parts]
  | cons c r =>
    unfold parts
    split
    · simp
    · split <;> simp
def joinD : List (List UInt8) → List UInt8
  | [] => []
  | [p] => p
  | p :: q :: ps => p ++ 46 :: joinD (q :: ps)
theorem joinD_parts (l : List UInt8) : joinD (parts l) = l := by
  induction l with
  | nil => rfl
  | cons c r ih =>
    unfold parts
    split
    · next h =>
      subst h
      have := parts_ne r
      cases hp : parts r with
      | nil => exact absurd hp this
      | cons q ps => rw [hp] at ih; show [] ++ 46 :: joinD (q :: ps) = _; rw [ih]; rfl
    · have := parts_ne r
      cases hp : parts r with
      | nil => exact absurd hp this
      | cons q ps =>
        rw [hp] at ih
        cases ps with
        | nil => show c :: q = c :: r; rw [show q = r from ih]
        | cons q' ps => show (c :: q) ++ 46 :: joinD (q' :: ps) = _; rw [← ih]; rfl
theorem parts_none {l : List UInt8} (h : (46 : UInt8) ∉ l) : parts l = [l] := by
  induction l with
  | nil => rfl
  | cons c r ih =>
    unfold parts
    rw [if_neg (fun e => h (by rw [e]; exact List.mem_cons_self)), ih (fun e => h (List.mem_cons_of_mem _ e))]
theorem parts_app {a : List UInt8} (h : (46 : UInt8) ∉ a) (r : List UInt8) : parts (a ++ 46 :: r) = a :: parts r := by
  induction a with
  | nil => show parts (46 :: r) = _; conv => lhs; unfold parts
           rw [if_pos rfl]
  | cons c a ih =>
    show parts (c :: (a ++ 46 :: r)) = _
    conv => lhs; unfold parts
    rw [if_neg (fun e => h (by rw [e]; exact List.mem_cons_self)), ih (fun e => h (List.mem_cons_of_mem _ e))]
theorem parts_joinD : ∀ {ps : List (List UInt8)}, ps ≠ [] → (∀ p ∈ ps, (46 : UInt8) ∉ p) → parts (joinD ps) = ps
  | [p], _, h => parts_none (h p List.mem_cons_self)
  | p :: q :: ps, _, h => by
    show parts (p ++ 46 :: joinD (q :: ps)) = _
    rw [parts_app (h p List.mem_cons_self), parts_joinD (by simp) (fun x hx => h x (List.mem_cons_of_mem _ hx))]
theorem okP_nodot {p : List UInt8} (h : okP p = true) : (46 : UInt8) ∉ p := by
  intro hm
  unfold okP at h; rw [Bool.and_eq_true] at h
  have := List.all_eq_true.1 h.2 46 hm
  rw [dig_dot] at this
  cases this
theorem index_dot : ∀ (l : List UInt8), (Lib.indexByte l 46 = -1 ∧ (46 : UInt8) ∉ l) ∨ ∃ i : Nat, Lib.indexByte l 46 = i ∧ (46 : UInt8) ∉ l.take i ∧ l = l.take i ++ 46 :: l.drop (i + 1)
  | [] => .inl ⟨rfl, by simp⟩
  | c :: r => by
    by_cases hc : c = 46
    · subst hc
      exact .inr ⟨0, by simp [Lib.indexByte], by simp, by simp⟩
    · have e : Lib.indexByte (c :: r) 46 = if Lib.indexByte r 46 == -1 then -1 else Lib.indexByte r 46 + 1 := by
        conv => lhs; unfold Lib.indexByte
        rw [if_neg (by simpa using hc)]
      rcases index_dot r with ⟨h1, h2⟩ | ⟨i, h1, h2, h3⟩
      · exact .inl ⟨by rw [e, h1]; rfl, by simp [h2]; exact fun e => hc e.symm⟩
      · refine .inr ⟨i + 1, by rw [e, h1, if_neg (by simp)]; rfl, ?_, ?_⟩
        · rw [List.take_succ_cons]; simp [h2]; exact fun e => hc e.symm
        · rw [List.take_succ_cons, List.drop_succ_cons, List.cons_append, ← h3]
theorem splitK_parts : ∀ (k : Nat) (l : List UInt8), Lib.count l [46] = k → Lib.splitK [46] 0 k l = parts l := by
  intro k
  induction k with
  | zero =>
    intro l h
    rcases index_dot l with ⟨_, h2⟩ | ⟨i, h1, _, _⟩
    · rw [parts_none h2]; rfl
    · rw [Lib.count_hit (by simp) ((Lib.index_one l 46).trans h1)] at h; omega
  | succ k ih =>
    intro l h
    rcases index_dot l with ⟨h1, _⟩ | ⟨i, h1, h2, h3⟩
    · rw [Lib.count_miss ((Lib.index_one l 46).trans h1)] at h; omega
    · have hi := (Lib.index_one l 46).trans h1
      rw [Lib.count_hit (by simp) hi] at h
      have hc : Lib.count (l.drop (i + 1)) [46] = k := by
        have : i + [(46 : UInt8)].length = i + 1 := rfl
        rw [this] at h; omega
      unfold Lib.splitK
      rw [hi, if_neg (by simp), Int.toNat_natCast, Nat.add_zero]
      show l.take i :: Lib.splitK [46] 0 k (l.drop (i + 1)) = _
      rw [ih _ hc]
      conv => rhs; rw [h3]
      rw [parts_app h2]
end Go.Proofs.YtnegnmjjibhldaaDoor
