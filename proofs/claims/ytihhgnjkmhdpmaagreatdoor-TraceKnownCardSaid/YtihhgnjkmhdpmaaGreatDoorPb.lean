/- Traces, plain: runs, and the text of a trace. No program. -/
import Derived.Test.YtihhgnjkmhdpmaaGreatDoorPa
import Derived.Lib.ItoaLen
namespace Go.Proofs.YtihhgnjkmhdpmaaGreatDoor
/-- How many steps go on with kind k from address a. -/
def growN (k a : Int) : List Ev → Nat
  | [] => 0
  | x :: r => if x = (k, a) then growN k (a + 1) r + 1 else 0
theorem growN_le (k : Int) : ∀ (l : List Ev) (a : Int), growN k a l ≤ l.length
  | [], _ => Nat.le_refl _
  | x :: r, a => by have := growN_le k r (a + 1); rw [growN]; split <;> simp <;> omega
structure Run where
  k : Int
  a : Int
  n : Nat
/-- The steps of a run. -/
def stepsF (k : Int) : Int → Nat → List Ev
  | _, 0 => []
  | a, n + 1 => (k, a) :: stepsF k (a + 1) n
def Run.steps (r : Run) : List Ev := stepsF r.k r.a r.n
theorem stepsF_len (k : Int) : ∀ (n : Nat) (a : Int), (stepsF k a n).length = n
  | 0, _ => rfl
  | n + 1, a => by rw [stepsF, List.length_cons, stepsF_len k n]
theorem stepsF_snoc (k : Int) : ∀ (n : Nat) (a : Int), stepsF k a (n + 1) = stepsF k a n ++ [(k, a + n)]
  | 0, a => by simp [stepsF]
  | n + 1, a => by
    rw [stepsF, stepsF_snoc k n (a + 1), stepsF, List.cons_append]
    congr 3
    rw [Prod.mk.injEq]; exact ⟨rfl, by omega⟩
theorem stepsF_mem {k : Int} : ∀ {n : Nat} {a : Int} {x : Ev}, x ∈ stepsF k a n → x.1 = k ∧ a ≤ x.2 ∧ x.2 < a + n
  | 0, _, _, h => by cases h
  | n + 1, a, x, h => by
    rw [stepsF] at h
    rcases List.mem_cons.1 h with rfl | h
    · exact ⟨rfl, Int.le_refl _, by simp; omega⟩
    · have := stepsF_mem h; omega
theorem stepsF_has {k : Int} : ∀ {n : Nat} {a b : Int}, a ≤ b → b < a + n → (k, b) ∈ stepsF k a n
  | 0, _, _, h1, h2 => by omega
  | n + 1, a, b, h1, h2 => by
    rw [stepsF]
    by_cases e : a = b
    · rw [e]; simp
    · exact List.mem_cons_of_mem _ (stepsF_has (by omega) (by omega))
theorem growN_take (k : Int) : ∀ (l : List Ev) (a : Int), l.take (growN k a l) = stepsF k a (growN k a l)
  | [], _ => by simp [growN, stepsF]
  | x :: r, a => by
    rw [growN]
    split
    · rename_i h
      rw [List.take_succ_cons, stepsF, growN_take k r, h]
    · rfl
theorem growN_next (k : Int) : ∀ (l : List Ev) (a : Int) (y : Ev), l[growN k a l]? = some y → y ≠ (k, a + growN k a l)
  | [], _, _, h => by simp at h
  | x :: r, a, y, h => by
    rw [growN] at h ⊢
    by_cases e : x = (k, a)
    · rw [if_pos e, List.getElem?_cons_succ] at h
      rw [if_pos e]
      have := growN_next k r (a + 1) y h
      intro e2
      apply this
      rw [e2, Prod.mk.injEq]; exact ⟨rfl, by omega⟩
    · rw [if_neg e, List.getElem?_cons_zero] at h
      rw [if_neg e]
      cases h
      simpa using e
theorem growN_app (k : Int) (rest : List Ev) : ∀ (n : Nat) (a : Int), growN k a (stepsF k a n ++ rest) = n + growN k (a + n) rest
  | 0, a => by simp [stepsF]
  | n + 1, a => by
    rw [stepsF, List.cons_append, growN, if_pos rfl, growN_app k rest n (a + 1), show a + 1 + (n : Int) = a + ((n + 1 : Nat) : Int) by omega]; omega
def runsF : Nat → List Ev → List Run
  | 0, _ => []
  | _, [] => []
  | f + 1, x :: r => ⟨x.1, x.2, growN x.1 (x.2 + 1) r + 1⟩ :: runsF f (r.drop (growN x.1 (x.2 + 1) r))
theorem runsF_more : ∀ (f g : Nat) (l : List Ev), l.length ≤ f → l.length ≤ g → runsF f l = runsF g l
  | 0, 0, _, _, _ => rfl
  | 0, g + 1, l, h, _ => by
    obtain rfl : l = [] := List.eq_nil_of_length_eq_zero (by omega)
    rfl
  | f + 1, 0, l, _, h => by
    obtain rfl : l = [] := List.eq_nil_of_length_eq_zero (by omega)
    rfl
  | f + 1, g + 1, [], _, _ => rfl
  | f + 1, g + 1, x :: r, h1, h2 => by
    simp only [List.length_cons] at h1 h2
    rw [runsF, runsF, runsF_more f g _ (by rw [List.length_drop]; omega) (by rw [List.length_drop]; omega)]
/-- The runs of a trace. -/
def runsL (l : List Ev) : List Run := runsF l.length l
theorem runsL_nil : runsL [] = [] := rfl
theorem runsL_cons (x : Ev) (r : List Ev) : runsL (x :: r) = ⟨x.1, x.2, growN x.1 (x.2 + 1) r + 1⟩ :: runsL (r.drop (growN x.1 (x.2 + 1) r)) := by
  unfold runsL
  rw [List.length_cons, runsF, runsF_more r.length _ _ (by rw [List.length_drop]; omega) (Nat.le_refl _)]
theorem runsL_steps (l : List Ev) : (runsL l).flatMap Run.steps = l := by
  obtain ⟨n, hn⟩ : ∃ n, l.length ≤ n := ⟨_, Nat.le_refl _⟩
  induction n generalizing l with
  | zero =>
    obtain rfl : l = [] := List.eq_nil_of_length_eq_zero (by omega)
    rfl
  | succ n ih =>
    cases l with
    | nil => rfl
    | cons x r =>
      simp only [List.length_cons] at hn
      rw [runsL_cons, List.flatMap_cons, ih _ (by rw [List.length_drop]; omega)]
      unfold Run.steps
      simp only [stepsF]
      rw [← growN_take, List.cons_append, List.take_append_drop]
theorem runsL_len (l : List Ev) : (runsL l).length ≤ l.length := by
  obtain ⟨n, hn⟩ : ∃ n, l.length ≤ n := ⟨_, Nat.le_refl _⟩
  induction n generalizing l with
  | zero =>
    obtain rfl : l = [] := List.eq_nil_of_length_eq_zero (by omega)
    exact Nat.le_refl _
  | succ n ih =>
    cases l with
    | nil => exact Nat.le_refl _
    | cons x r =>
      simp only [List.length_cons] at hn
      have := ih (r.drop (growN x.1 (x.2 + 1) r)) (by rw [List.length_drop]; omega)
      rw [List.length_drop] at this
      rw [runsL_cons, List.length_cons, List.length_cons]; omega
/-- No run could be joined with the one before it; each has a step. -/
def Apart : List Run → Prop
  | [] => True
  | [r] => 1 ≤ r.n
  | r :: s :: t => 1 ≤ r.n ∧ ¬ (s.k = r.k ∧ s.a = r.a + r.n) ∧ Apart (s :: t)
theorem Apart.tail {r : Run} {t : List Run} (h : Apart (r :: t)) : Apart t := by
  cases t with
  | nil => trivial
  | cons s t => exact h.2.2
theorem Apart.pos {r : Run} {t : List Run} (h : Apart (r :: t)) : 1 ≤ r.n := by
  cases t with
  | nil => exact h
  | cons s t => exact h.1
theorem runsL_apart (l : List Ev) : Apart (runsL l) := by
  obtain ⟨n, hn⟩ : ∃ n, l.length ≤ n := ⟨_, Nat.le_refl _⟩
  induction n generalizing l with
  | zero =>
    obtain rfl : l = [] := List.eq_nil_of_length_eq_zero (by omega)
    trivial
  | succ n ih =>
    cases l with
    | nil => trivial
    | cons x r =>
      simp only [List.length_cons] at hn
      have h1 := ih (r.drop (growN x.1 (x.2 + 1) r)) (by rw [List.length_drop]; omega)
      have h2 := growN_next x.1 r (x.2 + 1)
      rw [runsL_cons]
      cases hd : r.drop (growN x.1 (x.2 + 1) r) with
      | nil => rw [runsL_nil]; show 1 ≤ _ + 1; omega
      | cons y s =>
        rw [hd, runsL_cons] at h1
        rw [runsL_cons]
        refine ⟨by show 1 ≤ _ + 1; omega, ?_, h1⟩
        have hy : r[growN x.1 (x.2 + 1) r]? = some y := by
          have := congrArg (fun z => z[0]?) hd
          simpa using this
        rintro ⟨e1, e2⟩
        apply h2 y hy
        obtain ⟨y1, y2⟩ := y
        simp only at e1 e2
        rw [Prod.mk.injEq]; exact ⟨e1, by rw [e2]; omega⟩
theorem runsL_back : ∀ (rs : List Run), Apart rs → runsL (rs.flatMap Run.steps) = rs
  | [], _ => rfl
  | r :: t, h => by
    have ih := runsL_back t h.tail
    have hp := h.pos
    obtain ⟨k, a, n⟩ := r
    obtain ⟨m, rfl⟩ : ∃ m, n = m + 1 := ⟨n - 1, by simp at hp; omega⟩
    rw [List.flatMap_cons]
    show runsL ((k, a) :: stepsF k (a + 1) m ++ t.flatMap Run.steps) = _
    rw [List.cons_append, runsL_cons]
    simp only
    have hg : growN k (a + 1) (stepsF k (a + 1) m ++ t.flatMap Run.steps) = m := by
      rw [growN_app]
      cases t with
      | nil => simp [growN]
      | cons s t =>
        obtain ⟨k2, a2, n2⟩ := s
        have hp2 := h.tail.pos
        obtain ⟨m2, rfl⟩ : ∃ m, n2 = m + 1 := ⟨n2 - 1, by simp at hp2; omega⟩
        have hj := h.2.1
        rw [List.flatMap_cons]
        show m + growN k _ ((k2, a2) :: stepsF k2 (a2 + 1) m2 ++ _) = m
        rw [List.cons_append, growN, if_neg]
        · rfl
        · intro e
          rw [Prod.mk.injEq] at e
          exact hj ⟨e.1, by simp only; rw [e.2]; omega⟩
    rw [hg, List.drop_append_of_le_length (by rw [stepsF_len]; exact Nat.le_refl _), List.drop_eq_nil_of_le (by rw [stepsF_len]; exact Nat.le_refl _), List.nil_append, ih]
/-- The word of a kind. -/
def wordL (k : Int) : List UInt8 := if k = 2 then [115, 116, 111, 114, 101] else [108, 111, 97, 100]
/-- The line of a run, without its end. -/
def bodyL (r : Run) : List UInt8 := wordL r.k ++ 32 :: (Lib.itoa r.a ++ 32 :: Lib.itoa r.n)
def lineL (r : Run) : List UInt8 := bodyL r ++ [10]
def textL (rs : List Run) : List UInt8 := rs.flatMap lineL
/-- What Print returns. -/
def printE (l : List Ev) : Int := if (checkP l 65536).2 = 0 then (if 5000 < (runsL l).length then 3 else 0) else (checkP l 65536).2
def printT (l : List Ev) : List UInt8 := if printE l = 0 then textL (runsL l) else []
theorem print_ok {l : List Ev} (h : printE l = 0) : (checkP l 65536).2 = 0 ∧ (runsL l).length ≤ 5000 ∧ printT l = textL (runsL l) := by
  have h0 := h
  unfold printE at h
  split at h
  · rename_i h1
    split at h
    · cases h
    · exact ⟨h1, by omega, by unfold printT; rw [if_pos h0]⟩
  · rename_i h1; exact absurd h h1
/-- A run of a good trace. -/
def Run.good (r : Run) : Prop := (r.k = 1 ∨ r.k = 2) ∧ 0 ≤ r.a ∧ 1 ≤ r.n ∧ r.a + r.n ≤ 65536
theorem steps_good {r : Run} (h : r.good) : ∀ x ∈ r.steps, evE 65536 x = 0 := by
  intro x hx
  have := stepsF_mem hx
  obtain ⟨h1, h2, h3, h4⟩ := h
  exact evE_of (by rw [this.1]; exact h1) (by omega)
theorem good_steps {r : Run} (hn : 1 ≤ r.n) (h : ∀ x ∈ r.steps, evE 65536 x = 0) : r.good := by
  have h1 := evE_zero (h _ (stepsF_has (b := r.a) (Int.le_refl _) (by omega)))
  have h2 := evE_zero (h _ (stepsF_has (b := r.a + r.n - 1) (by omega) (by omega)))
  exact ⟨h1.1, h1.2.1, hn, by have := h2.2.2; simp only at this; omega⟩
theorem Apart.all : ∀ {rs : List Run}, Apart rs → ∀ r ∈ rs, 1 ≤ r.n
  | [], _, _, h => by cases h
  | s :: t, h, r, hr => by
    rcases List.mem_cons.1 hr with rfl | hr
    · exact h.pos
    · exact h.tail.all r hr
theorem runs_good {l : List Ev} (h : ∀ x ∈ l, evE 65536 x = 0) : ∀ r ∈ runsL l, r.good := by
  intro r hr
  refine good_steps ((runsL_apart l).all r hr) (fun x hx => h x ?_)
  rw [← runsL_steps l]
  exact List.mem_flatMap.2 ⟨r, hr, hx⟩
end Go.Proofs.YtihhgnjkmhdpmaaGreatDoor
