/- Layer 1: strings cut at the commas, plain. -/
import Derived.Test.YtoapfldmkpobmaaGreatDoorPc
namespace Go.Proofs.YtoapfldmkpobmaaGreatDoor
def c_parts : List UInt8 → List (List UInt8)
  | [] => [[]]
  | c :: r => if c = 44 then [] :: c_parts r else
    match c_parts r with
    | [] => [[c]]
    | p :: ps => (c :: p) :: ps
theorem c_parts_ne (l : List UInt8) : c_parts l ≠ [] := by
  cases l with
  | nil => simp [c_parts]
  | cons c r =>
    unfold c_parts
    split
    · simp
    · split <;> simp
def c_joinD : List (List UInt8) → List UInt8
  | [] => []
  | [p] => p
  | p :: q :: ps => p ++ 44 :: c_joinD (q :: ps)
theorem c_joinD_parts (l : List UInt8) : c_joinD (c_parts l) = l := by
  induction l with
  | nil => rfl
  | cons c r ih =>
    unfold c_parts
    split
    · next h =>
      subst h
      have := c_parts_ne r
      cases hp : c_parts r with
      | nil => exact absurd hp this
      | cons q ps => rw [hp] at ih; show [] ++ 44 :: c_joinD (q :: ps) = _; rw [ih]; rfl
    · have := c_parts_ne r
      cases hp : c_parts r with
      | nil => exact absurd hp this
      | cons q ps =>
        rw [hp] at ih
        cases ps with
        | nil => show c :: q = c :: r; rw [show q = r from ih]
        | cons q' ps => show (c :: q) ++ 44 :: c_joinD (q' :: ps) = _; rw [← ih]; rfl
theorem c_parts_none {l : List UInt8} (h : (44 : UInt8) ∉ l) : c_parts l = [l] := by
  induction l with
  | nil => rfl
  | cons c r ih =>
    unfold c_parts
    rw [if_neg (fun e => h (by rw [e]; exact List.mem_cons_self)), ih (fun e => h (List.mem_cons_of_mem _ e))]
theorem c_parts_app {a : List UInt8} (h : (44 : UInt8) ∉ a) (r : List UInt8) : c_parts (a ++ 44 :: r) = a :: c_parts r := by
  induction a with
  | nil => show c_parts (44 :: r) = _; conv => lhs; unfold c_parts
           rw [if_pos rfl]
  | cons c a ih =>
    show c_parts (c :: (a ++ 44 :: r)) = _
    conv => lhs; unfold c_parts
    rw [if_neg (fun e => h (by rw [e]; exact List.mem_cons_self)), ih (fun e => h (List.mem_cons_of_mem _ e))]
theorem parts_joinD : ∀ {ps : List (List UInt8)}, ps ≠ [] → (∀ p ∈ ps, (44 : UInt8) ∉ p) → c_parts (c_joinD ps) = ps
  | [p], _, h => c_parts_none (h p List.mem_cons_self)
  | p :: q :: ps, _, h => by
    show c_parts (p ++ 44 :: c_joinD (q :: ps)) = _
    rw [c_parts_app (h p List.mem_cons_self), parts_joinD (by simp) (fun x hx => h x (List.mem_cons_of_mem _ hx))]
theorem c_index_dot : ∀ (l : List UInt8), (Lib.indexByte l 44 = -1 ∧ (44 : UInt8) ∉ l) ∨ ∃ i : Nat, Lib.indexByte l 44 = i ∧ (44 : UInt8) ∉ l.take i ∧ l = l.take i ++ 44 :: l.drop (i + 1)
  | [] => .inl ⟨rfl, by simp⟩
  | c :: r => by
    by_cases hc : c = 44
    · subst hc
      exact .inr ⟨0, by simp [Lib.indexByte], by simp, by simp⟩
    · have e : Lib.indexByte (c :: r) 44 = if Lib.indexByte r 44 == -1 then -1 else Lib.indexByte r 44 + 1 := by
        conv => lhs; unfold Lib.indexByte
        rw [if_neg (by simpa using hc)]
      rcases c_index_dot r with ⟨h1, h2⟩ | ⟨i, h1, h2, h3⟩
      · exact .inl ⟨by rw [e, h1]; rfl, by simp [h2]; exact fun e => hc e.symm⟩
      · refine .inr ⟨i + 1, by rw [e, h1, if_neg (by simp)]; rfl, ?_, ?_⟩
        · rw [List.take_succ_cons]; simp [h2]; exact fun e => hc e.symm
        · rw [List.take_succ_cons, List.drop_succ_cons, List.cons_append, ← h3]
theorem c_splitK_parts : ∀ (k : Nat) (l : List UInt8), Lib.count l [44] = k → Lib.splitK [44] 0 k l = c_parts l := by
  intro k
  induction k with
  | zero =>
    intro l h
    rcases c_index_dot l with ⟨_, h2⟩ | ⟨i, h1, _, _⟩
    · rw [c_parts_none h2]; rfl
    · rw [Lib.count_hit (by simp) ((Lib.index_one l 44).trans h1)] at h; omega
  | succ k ih =>
    intro l h
    rcases c_index_dot l with ⟨h1, _⟩ | ⟨i, h1, h2, h3⟩
    · rw [Lib.count_miss ((Lib.index_one l 44).trans h1)] at h; omega
    · have hi := (Lib.index_one l 44).trans h1
      rw [Lib.count_hit (by simp) hi] at h
      have hc : Lib.count (l.drop (i + 1)) [44] = k := by
        have : i + [(44 : UInt8)].length = i + 1 := rfl
        rw [this] at h; omega
      unfold Lib.splitK
      rw [hi, if_neg (by simp), Int.toNat_natCast, Nat.add_zero]
      show l.take i :: Lib.splitK [44] 0 k (l.drop (i + 1)) = _
      rw [ih _ hc]
      conv => rhs; rw [h3]
      rw [c_parts_app h2]
theorem commaP_list (s : ByteArray) : (commaP s).map (·.data.toList) = c_parts s.data.toList := by
  unfold commaP
  rw [Lib.splitB_data]
  exact c_splitK_parts _ _ rfl
theorem c_parts_one {l : List UInt8} (h : ∀ c ∈ l, c ≠ 44) : c_parts l = [l] := by
  induction l with
  | nil => rfl
  | cons c t ih =>
    have i := ih fun d hd => h d (by simp [hd])
    unfold c_parts
    rw [if_neg (h c (by simp)), i]
/-- What is joined by commas is cut into the same pieces. -/
theorem c_join : ∀ (ps : List (List UInt8)), ps ≠ [] → (∀ p ∈ ps, ∀ c ∈ p, c ≠ 44) → c_parts (Lib.join ps [44]) = ps
  | [], h, _ => absurd rfl h
  | [p], _, h => by
    rw [Lib.join_cons]
    unfold Lib.joinTail
    simp only [List.map_nil, List.flatten_nil, List.append_nil]
    exact c_parts_one (h p (by simp))
  | p :: q :: r, _, h => by
    have e : Lib.join (p :: q :: r) [44] = p ++ 44 :: Lib.join (q :: r) [44] := by
      rw [Lib.join_cons, Lib.join_cons]
      unfold Lib.joinTail
      simp
    rw [e, c_parts_app (fun hm => h p (by simp) 44 hm rfl), c_join (q :: r) (by simp) fun x hx => h x (by simp only [List.mem_cons] at hx ⊢; exact .inr hx)]
end Go.Proofs.YtoapfldmkpobmaaGreatDoor
