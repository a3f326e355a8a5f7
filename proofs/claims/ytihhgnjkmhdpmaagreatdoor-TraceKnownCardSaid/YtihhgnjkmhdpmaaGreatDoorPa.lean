/- Traces, plain: Check, Differ, Digest, Count. No program. -/
import Derived.Lib.Strings
import Derived.Lib.Hide
namespace Go.Proofs.YtihhgnjkmhdpmaaGreatDoor
/-- A step: its kind, its address. -/
abbrev Ev := Int × Int
def kindB (k : Int) : Bool := k == 1 || k == 2
/-- The error of a step: 2, 7, or 0. -/
def evE (cells : Int) (x : Ev) : Int := if kindB x.1 = false then 2 else if x.2 < 0 ∨ cells ≤ x.2 then 7 else 0
def chkL (cells : Int) : Nat → List Ev → Int × Int
  | _, [] => (0, 0)
  | i, x :: r => if evE cells x = 0 then chkL cells (i + 1) r else ((i : Int), evE cells x)
def checkP (l : List Ev) (cells : Int) : Int × Int :=
  if cells < 1 ∨ 65536 < cells then (-1, 7) else if 8388608 < l.length then (-1, 3) else chkL cells 0 l
theorem evE_zero {cells : Int} {x : Ev} (h : evE cells x = 0) : (x.1 = 1 ∨ x.1 = 2) ∧ 0 ≤ x.2 ∧ x.2 < cells := by
  unfold evE at h
  split at h
  · cases h
  · rename_i h1
    split at h
    · cases h
    · rename_i h2
      refine ⟨?_, by omega⟩
      unfold kindB at h1
      simp at h1
      by_cases e : x.1 = 1
      · exact .inl e
      · exact .inr (h1 e)
theorem evE_of {cells : Int} {x : Ev} (h1 : x.1 = 1 ∨ x.1 = 2) (h2 : 0 ≤ x.2 ∧ x.2 < cells) : evE cells x = 0 := by
  unfold evE
  rw [if_neg (by unfold kindB; rcases h1 with h | h <;> simp [h]), if_neg (by omega)]
theorem chk_good {cells : Int} : ∀ {l : List Ev} {i : Nat}, (∀ x ∈ l, evE cells x = 0) → chkL cells i l = (0, 0)
  | [], _, _ => rfl
  | x :: r, i, h => by rw [chkL, if_pos (h x (by simp)), chk_good (fun y hy => h y (by simp [hy]))]
theorem chk_all {cells : Int} : ∀ {l : List Ev} {i : Nat}, (chkL cells i l).2 = 0 → ∀ x ∈ l, evE cells x = 0
  | [], _, _, _, h => by cases h
  | x :: r, i, h, y, hy => by
    rw [chkL] at h
    by_cases e : evE cells x = 0
    · rw [if_pos e] at h
      rcases List.mem_cons.1 hy with rfl | hy
      · exact e
      · exact chk_all h y hy
    · rw [if_neg e] at h; exact absurd h e
theorem check_ok {l : List Ev} {cells : Int} (h : (checkP l cells).2 = 0) : (1 ≤ cells ∧ cells ≤ 65536) ∧ l.length ≤ 8388608 ∧ (∀ x ∈ l, evE cells x = 0) ∧ checkP l cells = (0, 0) := by
  unfold checkP at h ⊢
  split at h
  · cases h
  · rename_i h1
    split at h
    · cases h
    · rename_i h2
      have h3 := chk_all h
      exact ⟨by omega, by omega, h3, by rw [if_neg h1, if_neg h2]; exact chk_good h3⟩
theorem check_good {l : List Ev} {cells : Int} (h1 : 1 ≤ cells) (h2 : cells ≤ 65536) (h3 : l.length ≤ 8388608) (h4 : ∀ x ∈ l, evE cells x = 0) : checkP l cells = (0, 0) := by
  unfold checkP
  rw [if_neg (by omega), if_neg (by omega), chk_good h4]
theorem drop_at {α : Type} {l : List α} {k : Nat} {x : α} (h : l[k]? = some x) : l.drop k = x :: l.drop (k + 1) := by
  obtain ⟨h1, h2⟩ := List.getElem?_eq_some_iff.1 h
  rw [List.drop_eq_getElem_cons h1, h2]
theorem drop_end {α : Type} {l : List α} {k : Nat} (h : l.length ≤ k) : l.drop k = [] := List.drop_eq_nil_of_le h
theorem chk_step {cells : Int} {l : List Ev} {k : Nat} {x : Ev} (h : l[k]? = some x) (h0 : evE cells x = 0) : chkL cells k (l.drop k) = chkL cells (k + 1) (l.drop (k + 1)) := by
  rw [drop_at h, chkL, if_pos h0]
theorem chk_bad {cells : Int} {l : List Ev} {k : Nat} {x : Ev} (h : l[k]? = some x) (h0 : evE cells x ≠ 0) : chkL cells k (l.drop k) = ((k : Int), evE cells x) := by
  rw [drop_at h, chkL, if_neg h0]
theorem chk_end {cells : Int} {l : List Ev} {k : Nat} (h : l.length ≤ k) : chkL cells k (l.drop k) = (0, 0) := by rw [drop_end h]; rfl
/-- How many steps two traces have in common at their beginnings. -/
def lcp : List Ev → List Ev → Nat
  | x :: r, y :: s => if x = y then lcp r s + 1 else 0
  | _, _ => 0
theorem lcp_le : ∀ (a b : List Ev), lcp a b ≤ a.length ∧ lcp a b ≤ b.length
  | [], _ => by simp [lcp]
  | _ :: _, [] => by simp [lcp]
  | x :: r, y :: s => by
    have := lcp_le r s
    rw [lcp]; split <;> simp <;> omega
theorem lcp_comm : ∀ (a b : List Ev), lcp a b = lcp b a
  | [], [] => rfl
  | [], _ :: _ => rfl
  | _ :: _, [] => rfl
  | x :: r, y :: s => by
    rw [lcp, lcp, lcp_comm r s]
    by_cases e : x = y
    · rw [if_pos e, if_pos e.symm]
    · rw [if_neg e, if_neg (fun h => e h.symm)]
theorem lcp_self : ∀ (a : List Ev), lcp a a = a.length
  | [] => rfl
  | x :: r => by rw [lcp, if_pos rfl, lcp_self r]; rfl
theorem lcp_take : ∀ (a b : List Ev), a.take (lcp a b) = b.take (lcp a b)
  | [], _ => by simp [lcp]
  | _ :: _, [] => by simp [lcp]
  | x :: r, y :: s => by
    rw [lcp]
    by_cases e : x = y
    · rw [if_pos e, List.take_succ_cons, List.take_succ_cons, e, lcp_take r s]
    · rw [if_neg e]; rfl
theorem lcp_ne : ∀ {a b : List Ev} {x y : Ev}, a[lcp a b]? = some x → b[lcp a b]? = some y → x ≠ y
  | [], _, _, _, h, _ => by simp at h
  | _ :: _, [], _, _, _, h => by simp at h
  | u :: r, v :: s, x, y, h1, h2 => by
    rw [lcp] at h1 h2
    by_cases e : u = v
    · rw [if_pos e, List.getElem?_cons_succ] at h1 h2
      exact lcp_ne h1 h2
    · rw [if_neg e, List.getElem?_cons_zero] at h1 h2
      cases h1; cases h2; exact e
/-- What Differ returns. -/
def diffP (a b : List Ev) : Int := if lcp a b = a.length ∧ lcp a b = b.length then -1 else (lcp a b : Int)
theorem diff_comm (a b : List Ev) : diffP a b = diffP b a := by
  unfold diffP
  rw [lcp_comm a b]
  by_cases h : lcp b a = a.length ∧ lcp b a = b.length
  · rw [if_pos h, if_pos ⟨h.2, h.1⟩]
  · rw [if_neg h, if_neg (fun k => h ⟨k.2, k.1⟩)]
theorem diff_self (a : List Ev) : diffP a a = -1 := by unfold diffP; rw [if_pos ⟨lcp_self a, lcp_self a⟩]
theorem diff_eq {a b : List Ev} : diffP a b = -1 ↔ a = b := by
  constructor
  · intro h
    unfold diffP at h
    split at h
    · rename_i hc
      have := lcp_take a b
      rwa [List.take_of_length_le (by omega), List.take_of_length_le (by omega)] at this
    · omega
  · rintro rfl; exact diff_self a
theorem lcp_step {a b : List Ev} {k : Nat} {x : Ev} (h1 : a[k]? = some x) (h2 : b[k]? = some x) (h : lcp a b = k + lcp (a.drop k) (b.drop k)) : lcp a b = k + 1 + lcp (a.drop (k + 1)) (b.drop (k + 1)) := by
  rw [h, drop_at h1, drop_at h2, lcp, if_pos rfl]; omega
theorem lcp_at {a b : List Ev} {k : Nat} {x y : Ev} (h1 : a[k]? = some x) (h2 : b[k]? = some y) (hne : x ≠ y) (h : lcp a b = k + lcp (a.drop k) (b.drop k)) : diffP a b = k := by
  have e : lcp a b = k := by rw [h, drop_at h1, drop_at h2, lcp, if_neg hne]; rfl
  have := (List.getElem?_eq_some_iff.1 h1).1
  unfold diffP; rw [e, if_neg (by omega)]
theorem lcp_end {a b : List Ev} {k : Nat} (hk : a.length ≤ k ∨ b.length ≤ k) (h : lcp a b = k + lcp (a.drop k) (b.drop k)) : lcp a b = k := by
  rw [h]
  rcases hk with hk | hk
  · rw [drop_end hk]; simp [lcp]
  · rw [drop_end hk]
    cases a.drop k <;> simp [lcp]
/-- How many steps have a kind. -/
def cntK (kind : Int) : List Ev → Nat
  | [] => 0
  | x :: r => cntK kind r + (if x.1 = kind then 1 else 0)
theorem cntK_app (kind : Int) : ∀ a b : List Ev, cntK kind (a ++ b) = cntK kind a + cntK kind b
  | [], b => by simp [cntK]
  | x :: r, b => by rw [List.cons_append, cntK, cntK, cntK_app kind r b]; omega
theorem cntK_le (kind : Int) : ∀ l : List Ev, cntK kind l ≤ l.length
  | [] => Nat.le_refl _
  | x :: r => by have := cntK_le kind r; rw [cntK]; split <;> simp <;> omega
theorem cntK_both {l : List Ev} {cells : Int} (h : ∀ x ∈ l, evE cells x = 0) : cntK 1 l + cntK 2 l = l.length := by
  induction l with
  | nil => rfl
  | cons x r ih =>
    have h1 := ih (fun y hy => h y (by simp [hy]))
    have h2 := (evE_zero (h x (by simp))).1
    rw [cntK, cntK, List.length_cons]
    rcases h2 with e | e <;> rw [e] <;> simp <;> omega
end Go.Proofs.YtihhgnjkmhdpmaaGreatDoor
