/- Sums of counts and parts, plain; contracts that the law on sums needs. -/
import Derived.Test.YtehjncebddoinaaDoorTb
import Derived.Test.YtehjncebddoinaaDoorH
import Derived.Test.YtehjncebddoinaaDoorE
namespace Go.Proofs.YtehjncebddoinaaDoor
open Go.RowKit
theorem cut_left (a b : List Ev) : cutE (a ++ b) 0 (a.length : Int) = 0 ∧ cutL (a ++ b) 0 (a.length : Int) = a := by
  have e : cutE (a ++ b) 0 (a.length : Int) = 0 := by unfold cutE; rw [if_neg (by rw [List.length_append]; omega)]
  refine ⟨e, ?_⟩
  unfold cutL
  rw [if_pos e]
  simp
theorem cut_right (a b : List Ev) : cutE (a ++ b) (a.length : Int) ((a ++ b).length : Int) = 0 ∧ cutL (a ++ b) (a.length : Int) ((a ++ b).length : Int) = b := by
  have e : cutE (a ++ b) (a.length : Int) ((a ++ b).length : Int) = 0 := by unfold cutE; rw [if_neg (by rw [List.length_append]; omega)]
  refine ⟨e, ?_⟩
  unfold cutL
  rw [if_pos e, Int.toNat_natCast, Int.toNat_natCast, List.drop_left, List.length_append, Nat.add_sub_cancel_left, List.take_length]
/-- How many steps are in the regions before the i-th (or in none, where i is more than their number). -/
def cumG (rs : List Rg) (i : Nat) : List Ev → Nat
  | [] => 0
  | x :: r => cumG rs i r + (if fndR rs x.2 < i then 1 else 0)
theorem cumG_zero (rs : List Rg) : ∀ l, cumG rs 0 l = 0
  | [] => rfl
  | x :: r => by rw [cumG, cumG_zero rs r, if_neg (Nat.not_lt_zero _)]
theorem cumG_succ (rs : List Rg) (i : Nat) : ∀ l, cumG rs (i + 1) l = cumG rs i l + cntG (gR rs i) l
  | [] => rfl
  | x :: r => by
    rw [cumG, cumG, cntG, cumG_succ rs i r]
    unfold gR
    by_cases h : fndR rs x.2 = i
    · rw [if_pos (by omega), if_neg (by omega), if_pos (by simp [h])]; omega
    · rw [if_neg (show ¬ ((fndR rs x.2 == i) = true) by simpa using h)]
      by_cases h2 : fndR rs x.2 < i
      · rw [if_pos (by omega), if_pos h2]; omega
      · rw [if_neg (by omega), if_neg h2]; omega
theorem cumG_all (rs : List Rg) : ∀ l, cumG rs (rs.length + 1) l = l.length
  | [] => rfl
  | x :: r => by
    have := fndR_le rs x.2
    rw [cumG, cumG_all rs r, if_pos (by omega), List.length_cons]
theorem cumG_le (rs : List Rg) (i : Nat) : ∀ l, cumG rs i l ≤ l.length
  | [] => Nat.le_refl _
  | x :: r => by have := cumG_le rs i r; rw [cumG, List.length_cons]; split <;> omega
theorem cnt_any (v : Value) (l : List Ev) (k : Int) (hk : k = 1 ∨ k = 2) (w : World) (hv : TR w v l) (hl : l.length ≤ 100000000) :
    Calls Tryd.prog 12 #[v, .int .i64 k] w fun e w' => e = .returned (.tuple #[.int .i64 ((cntK k l : Nat) : Int), .int .i64 0]) ∧ Below w.heap.size w w' := by
  have h := count_any v l k w hv hl
  unfold CtPost countN countE at h
  have hb : kindB k = true := by unfold kindB; rcases hk with rfl | rfl <;> rfl
  rw [if_pos hb, if_pos hb] at h
  exact h
theorem parts_ok (va vr : Value) (l : List Ev) (rs : List Rg) (hE : partE rs = 0) (w : World) (hv : TR w va l) (hr : RG w vr rs) (hl : l.length ≤ 100000000) (hn0 : rs.length ≤ 1000000) :
    Calls Tryd.prog 21 #[va, vr] w fun e w' => ∃ q c, e = .returned (.tuple #[.slice q (rs.length + 1) c, .int .i64 0]) ∧ IRow w' (.slice q (rs.length + 1) c) (partsL rs l) ∧ Below w.heap.size w w' := by
  have h := parts_any va vr l rs w hv hr hl hn0
  unfold PaPost partsR at h
  rw [hE, if_pos rfl] at h
  refine h.mono ?_
  rintro e w' ⟨v, rfl, hi, hb⟩
  have hi2 := hi
  obtain ⟨q, c, rfl⟩ := hi.form
  rw [partsL_len] at hi2 ⊢
  exact ⟨q, c, rfl, hi2, hb⟩
theorem parts_bad (va vr : Value) (l : List Ev) (rs : List Rg) (w : World) (hv : TR w va l) (hr : RG w vr rs) (hl : l.length ≤ 100000000) (hn0 : rs.length ≤ 1000000) :
    Calls Tryd.prog 21 #[va, vr] w fun e w' => ∃ v, e = .returned (.tuple #[v, .int .i64 (partE rs)]) ∧ Below w.heap.size w w' := by
  refine (parts_any va vr l rs w hv hr hl hn0).mono ?_
  rintro e w' ⟨v, rfl, _, hb⟩
  exact ⟨v, rfl, hb⟩
theorem row_at {W : World} {q : Option Addr} {n c : Nat} {L : List Int} (h : IRow W (.slice q n c) L) {i : Nat} {x : Int} (hi : L[i]? = some x) : ∃ b o, q = some ⟨b, o, none⟩ ∧ W.cell? ⟨b, o + i, none⟩ = some (.int .i64 x) := by
  obtain ⟨p, c', e, _, hx⟩ := h
  cases e
  exact hx i x hi
end Go.Proofs.YtehjncebddoinaaDoor
