/- Cut of both; rows of steps that a call made; SameEvents. -/
import Derived.Test.YtehjncebddoinaaDoorC
import Derived.OwnWalkIn
import Derived.Maps.AppendAt
namespace Go.Proofs.YtehjncebddoinaaDoor
open Go.RowKit
attribute [local go_sem] guardEv
/-- The cells of steps. -/
def flat (l : List Ev) : List Value := l.flatMap fun x => [.int .i32 x.1, .int .i32 x.2]
theorem flat_len : ∀ l : List Ev, (flat l).length = l.length * 2
  | [] => rfl
  | x :: r => by unfold flat; rw [List.flatMap_cons, List.length_append]; have := flat_len r; unfold flat at this; rw [this]; simp; omega
theorem flat_app (a b : List Ev) : flat (a ++ b) = flat a ++ flat b := by unfold flat; rw [List.flatMap_append]
theorem flat_one : ∀ (l : List Ev), ∀ u ∈ flat l, u.oneCell' = true
  | l, u, h => by
    obtain ⟨x, _, hx⟩ := List.mem_flatMap.1 h
    simp at hx
    rcases hx with rfl | rfl <;> rfl
theorem flat_at : ∀ {l : List Ev} {i : Nat} {x : Ev}, l[i]? = some x → (flat l)[i * 2]? = some (.int .i32 x.1) ∧ (flat l)[i * 2 + 1]? = some (.int .i32 x.2)
  | [], _, _, h => by simp at h
  | y :: r, 0, x, h => by
    simp at h; subst h
    unfold flat; simp
  | y :: r, i + 1, x, h => by
    simp only [List.getElem?_cons_succ] at h
    have ih := flat_at h
    have e : flat (y :: r) = .int .i32 y.1 :: .int .i32 y.2 :: flat r := rfl
    rw [e, show (i + 1) * 2 = i * 2 + 1 + 1 by omega, List.getElem?_cons_succ, List.getElem?_cons_succ, List.getElem?_cons_succ, List.getElem?_cons_succ]
    exact ih
/-- A row of steps that a call made, from block B on. -/
def OwT (W : World) (B : Nat) (v : Value) (l : List Ev) : Prop := W.ownsRow B 43 2 v l.length (flat l)
theorem OwT.tr {W : World} {B : Nat} {v : Value} {l : List Ev} (h : OwT W B v l) (ho : ∀ x ∈ l, okE x) : TR W v l := by
  have hlt := World.ownsRow.lt h
  refine ⟨ho, ?_⟩
  rcases h.2 with ⟨rfl, h0⟩ | ⟨g, cap, cur, rfl, _, hgb, hn, _⟩
  · have : l = [] := List.eq_nil_of_length_eq_zero (by simpa using h0)
    subst this
    exact ⟨none, 0, rfl, Nat.le_refl _, fun i x hx => by simp at hx⟩
  · refine ⟨_, cap, rfl, hn, fun i x hi => ⟨g, 0, rfl, (hlt g rfl).2, ?_⟩⟩
    have hil := (List.getElem?_eq_some_iff.1 hi).1
    have hf := flat_at hi
    have c1 := World.ownsRow.cellAt h (i * 2) (by have := flat_len l; omega)
    have c2 := World.ownsRow.cellAt h (i * 2 + 1) (by have := flat_len l; omega)
    rw [Nat.zero_add]
    exact ⟨c1.trans hf.1, c2.trans hf.2⟩
theorem info_ev : (Tryd.prog.info? 43).map (fun i => (i.zero, i.size, i.bytes)) = some (some (.agg #[.int .i32 0, .int .i32 0]), 2, 8) := by kernel_rfl
/-- What Cut returns. -/
def cutE (l : List Ev) (a b : Int) : Int := if a < 0 ∨ b < a ∨ (l.length : Int) < b then 7 else 0
def cutL (l : List Ev) (a b : Int) : List Ev := if cutE l a b = 0 then (l.drop a.toNat).take (b.toNat - a.toNat) else []
def CuPost (w : World) (r : List Ev) (e : Int) (x : Ending) (w' : World) : Prop := ∃ v, x = .returned (.tuple #[v, .int .i64 e]) ∧ TR w' v r ∧ Below w.heap.size w w'
theorem cutL_ok {l : List Ev} (h : ∀ x ∈ l, okE x) (a b : Int) : ∀ x ∈ cutL l a b, okE x := by
  intro x hx
  unfold cutL at hx
  split at hx
  · exact h x (List.mem_of_mem_drop (List.mem_of_mem_take hx))
  · cases hx
theorem addr_none2 (b o i : Nat) : (⟨b, o, none⟩ : Addr).add i = ⟨b, o + i, none⟩ := by cases i <;> simp [Addr.add]
theorem flat_cells {W : World} {b o : Nat} {l : List Ev} (h : ∀ i x, l[i]? = some x → W.cell? ⟨b, o + i * 2, none⟩ = some (.int .i32 x.1) ∧ W.cell? ⟨b, o + i * 2 + 1, none⟩ = some (.int .i32 x.2)) : ∀ j u, (flat l)[j]? = some u → W.cell? ((⟨b, o, none⟩ : Addr).add j) = some u := by
  intro j u hu
  rw [addr_none2]
  have hj := (List.getElem?_eq_some_iff.1 hu).1
  rw [flat_len] at hj
  have hx : l[j / 2]? = some l[j / 2] := List.getElem?_eq_getElem (by omega)
  obtain ⟨f1, f2⟩ := flat_at hx
  obtain ⟨h1, h2⟩ := h _ _ hx
  rcases Nat.mod_two_eq_zero_or_one j with e | e
  · rw [show j / 2 * 2 = j by omega] at f1 h1
    rw [f1] at hu; cases hu; exact h1
  · rw [show j / 2 * 2 + 1 = j by omega] at f2
    rw [show o + j / 2 * 2 + 1 = o + j by omega] at h2
    rw [f2] at hu; cases hu; exact h2
theorem cut_at {l : List Ev} {i j k : Nat} {x : Ev} (h : ((l.drop i).take (j - i))[k]? = some x) : l[i + k]? = some x := by
  rw [List.getElem?_take] at h
  split at h
  · rwa [List.getElem?_drop] at h
  · cases h
theorem TR.nils (W : World) (p : Option Addr) (c : Nat) : TR W (.slice p 0 c) [] := ⟨by simp, p, c, rfl, Nat.zero_le _, fun i x h => by simp at h⟩
set_option maxRecDepth 100000 in
theorem cut_any (v : Value) (l : List Ev) (a b : Int) (w : World) (hv : TR w v l) (hl : l.length ≤ 100000000) :
    Calls Tryd.prog 14 #[v, .int .i64 a, .int .i64 b] w (CuPost w (cutL l a b) (cutE l a b)) := by
  obtain ⟨i0, hi, hz0, hz1, hz2⟩ := info_parts info_ev
  have hco := cutL_ok hv.1 a b
  have hfm := hv.form
  obtain ⟨ho, p, c, rfl, hc, hx⟩ := hv
  obtain ⟨n, hn⟩ : ∃ n, n = l.length := ⟨_, rfl⟩
  rw [← hn] at hl hc hfm ⊢
  have HN := Lib.hid hn
  have HO := Lib.hid hco
  clear ho hx hn hco
  by_cases h1 : a < 0
  · have t1 : decide (a < 0) = true := decide_eq_true h1
    have E := Lib.hid (show cutE l a b = 7 by unfold cutE; rw [if_pos (by omega)])
    have R := Lib.hid (show cutL l a b = [] by unfold cutL; rw [E.out]; rfl)
    clear h1
    go_enter Tryd.func14, Tryd.ntmps14
    go_wp2
    go_ret2
    exact ⟨_, by rw [E.out]; rfl, by rw [R.out]; exact TR.nil _, Below.refl _ _⟩
  have t1 : decide (a < 0) = false := decide_eq_false h1
  by_cases h2 : b < a
  · have t2 : decide (b < a) = true := decide_eq_true h2
    have E := Lib.hid (show cutE l a b = 7 by unfold cutE; rw [if_pos (by omega)])
    have R := Lib.hid (show cutL l a b = [] by unfold cutL; rw [E.out]; rfl)
    clear h1 h2
    go_enter Tryd.func14, Tryd.ntmps14
    go_wp2
    go_ret2
    exact ⟨_, by rw [E.out]; rfl, by rw [R.out]; exact TR.nil _, Below.refl _ _⟩
  have t2 : decide (b < a) = false := decide_eq_false h2
  by_cases h3 : (n : Int) < b
  · have t3 : decide ((n : Int) < b) = true := decide_eq_true h3
    have E := Lib.hid (show cutE l a b = 7 by unfold cutE; rw [if_pos (by rw [← HN.out]; omega)])
    have R := Lib.hid (show cutL l a b = [] by unfold cutL; rw [E.out]; rfl)
    clear h1 h2 h3
    go_enter Tryd.func14, Tryd.ntmps14
    go_wp2
    go_ret2
    exact ⟨_, by rw [E.out]; rfl, by rw [R.out]; exact TR.nil _, Below.refl _ _⟩
  have t3 : decide ((n : Int) < b) = false := decide_eq_false h3
  obtain ⟨i, rfl⟩ := Int.eq_ofNat_of_zero_le (show 0 ≤ a by omega)
  obtain ⟨j, rfl⟩ := Int.eq_ofNat_of_zero_le (show 0 ≤ b by omega)
  have E := Lib.hid (show cutE l (i : Int) (j : Int) = 0 by unfold cutE; rw [if_neg (by rw [← HN.out]; omega)])
  have R := Lib.hid (show cutL l (i : Int) (j : Int) = (l.drop i).take (j - i) by unfold cutL; rw [E.out]; simp)
  have hij : i ≤ j := by omega
  have hjn : j ≤ n := by omega
  clear h1 h2 h3
  by_cases h : i < j
  · obtain ⟨bb, o, c', e, _, hbl, hcl⟩ := hfm (by omega)
    cases e
    have hlen : ((l.drop i).take (j - i)).length = j - i := by rw [List.length_take, List.length_drop, ← HN.out]; omega
    have hcells : ∀ k u, (flat ((l.drop i).take (j - i)))[k]? = some u → (w).cell? ((⟨bb, o + i * 2, none⟩ : Addr).add k) = some u := flat_cells fun k x hk => by
      have := hcl _ _ (cut_at hk)
      rw [show o + i * 2 + k * 2 = o + (i + k) * 2 by omega]; exact this
    have HC := Lib.hid hcells
    have HL := Lib.hid hlen
    have hfl : (flat ((l.drop i).take (j - i))).length = (j - i) * 2 := by rw [flat_len, hlen]
    have HF := Lib.hid hfl
    have hne : c ≠ i := by omega
    clear hcells hlen hfl hcl hfm
    go_enter Tryd.func14, Tryd.ntmps14
    go_wp2_with (at_builtin; refine wpList_append_own_at _ rfl _ _ 22 rfl 0 43 i0 (.agg #[.int .i32 0, .int .i32 0]) 2 8 Tryd.underlying22 hi hz0 hz1 hz2 rfl (by decide) (.slice none 0 0) 0 [] rfl (World.ownsRow_nil w 0 _ _) ⟨bb, o + i * 2, none⟩ (j - i) (c - i) (flat ((l.drop i).take (j - i))) rfl HF.out HC.out (flat_one _) (by simp only [maxLen]; omega) (by omega) (Nat.zero_le _) ?_; intro v' w1 hown hg hnil hat; have HW := Lib.hid hown; have HG := Lib.hid hg; clear hown hg hnil hat)
    go_ret2
    refine ⟨_, by rw [E.out]; rfl, ?_, (Below.refl _ _).grown HG.out (Nat.le_refl _) (fun k e => by cases e)⟩
    rw [R.out] at HO ⊢
    refine OwT.tr (B := 0) ?_ HO.out
    unfold OwT
    rw [HL.out]
    simpa using HW.out
  · obtain rfl : i = j := by omega
    have R2 := Lib.hid (show cutL l (i : Int) (i : Int) = [] by rw [R.out]; simp)
    cases p with
    | none =>
      go_enter Tryd.func14, Tryd.ntmps14
      go_wp2
      all_goals go_ret2
      all_goals exact ⟨_, by rw [E.out]; rfl, by rw [R2.out]; exact TR.nil _, Below.refl _ _⟩
    | some q =>
      obtain ⟨bb, o, sp⟩ := q
      go_enter Tryd.func14, Tryd.ntmps14
      go_wp2
      all_goals go_ret2
      all_goals exact ⟨_, by rw [E.out]; rfl, by rw [R2.out]; exact TR.nil _, Below.refl _ _⟩
set_option maxRecDepth 100000 in
theorem rcut_any (v : Value) (l : List Ev) (a b : Int) (w : World) (hv : TR w v l) (hl : l.length ≤ 100000000) :
    Calls Tryd.prog 15 #[v, .int .i64 a, .int .i64 b] w (CuPost w (cutL l a b) (cutE l a b)) := by
  obtain ⟨i0, hi, hz0, hz1, hz2⟩ := info_parts info_ev
  have hco := cutL_ok hv.1 a b
  have hfm := hv.form
  obtain ⟨ho, p, c, rfl, hc, hx⟩ := hv
  obtain ⟨n, hn⟩ : ∃ n, n = l.length := ⟨_, rfl⟩
  rw [← hn] at hl hc hfm ⊢
  have HN := Lib.hid hn
  have HO := Lib.hid hco
  clear ho hx hn hco
  by_cases h1 : a < 0
  · have t1 : decide (a < 0) = true := decide_eq_true h1
    have E := Lib.hid (show cutE l a b = 7 by unfold cutE; rw [if_pos (by omega)])
    have R := Lib.hid (show cutL l a b = [] by unfold cutL; rw [E.out]; rfl)
    clear h1
    go_enter Tryd.func15, Tryd.ntmps15
    go_wp2
    go_ret2
    exact ⟨_, by rw [E.out]; rfl, by rw [R.out]; exact TR.nil _, Below.refl _ _⟩
  have t1 : decide (a < 0) = false := decide_eq_false h1
  by_cases h2 : b < a
  · have t2 : decide (b < a) = true := decide_eq_true h2
    have E := Lib.hid (show cutE l a b = 7 by unfold cutE; rw [if_pos (by omega)])
    have R := Lib.hid (show cutL l a b = [] by unfold cutL; rw [E.out]; rfl)
    clear h1 h2
    go_enter Tryd.func15, Tryd.ntmps15
    go_wp2
    go_ret2
    exact ⟨_, by rw [E.out]; rfl, by rw [R.out]; exact TR.nil _, Below.refl _ _⟩
  have t2 : decide (b < a) = false := decide_eq_false h2
  by_cases h3 : (n : Int) < b
  · have t3 : decide ((n : Int) < b) = true := decide_eq_true h3
    have E := Lib.hid (show cutE l a b = 7 by unfold cutE; rw [if_pos (by rw [← HN.out]; omega)])
    have R := Lib.hid (show cutL l a b = [] by unfold cutL; rw [E.out]; rfl)
    clear h1 h2 h3
    go_enter Tryd.func15, Tryd.ntmps15
    go_wp2
    go_ret2
    exact ⟨_, by rw [E.out]; rfl, by rw [R.out]; exact TR.nil _, Below.refl _ _⟩
  have t3 : decide ((n : Int) < b) = false := decide_eq_false h3
  obtain ⟨i, rfl⟩ := Int.eq_ofNat_of_zero_le (show 0 ≤ a by omega)
  obtain ⟨j, rfl⟩ := Int.eq_ofNat_of_zero_le (show 0 ≤ b by omega)
  have E := Lib.hid (show cutE l (i : Int) (j : Int) = 0 by unfold cutE; rw [if_neg (by rw [← HN.out]; omega)])
  have R := Lib.hid (show cutL l (i : Int) (j : Int) = (l.drop i).take (j - i) by unfold cutL; rw [E.out]; simp)
  have hij : i ≤ j := by omega
  have hjn : j ≤ n := by omega
  clear h1 h2 h3
  by_cases h : i < j
  · obtain ⟨bb, o, c', e, _, hbl, hcl⟩ := hfm (by omega)
    cases e
    have hlen : ((l.drop i).take (j - i)).length = j - i := by rw [List.length_take, List.length_drop, ← HN.out]; omega
    have hcells : ∀ k u, (flat ((l.drop i).take (j - i)))[k]? = some u → (w.alloc (.cells #[] 43)).cell? ((⟨bb, o + i * 2, none⟩ : Addr).add k) = some u := flat_cells fun k x hk => by
      have := hcl _ _ (cut_at hk)
      rw [show o + i * 2 + k * 2 = o + (i + k) * 2 by omega]; exact ⟨(World.cell?_alloc_lt _ _ _ hbl).trans this.1, (World.cell?_alloc_lt _ _ _ hbl).trans this.2⟩
    have HC := Lib.hid hcells
    have HL := Lib.hid hlen
    have hfl : (flat ((l.drop i).take (j - i))).length = (j - i) * 2 := by rw [flat_len, hlen]
    have HF := Lib.hid hfl
    have hne : c ≠ i := by omega
    clear hcells hlen hfl hcl hfm
    go_enter Tryd.func15, Tryd.ntmps15
    go_wp2_with (at_builtin; refine wpList_append_own_at _ rfl _ _ 22 rfl 0 43 i0 (.agg #[.int .i32 0, .int .i32 0]) 2 8 Tryd.underlying22 hi hz0 hz1 hz2 rfl (by decide) (.slice (some ⟨w.heap.size, 0, none⟩) 0 0) 0 [] rfl (World.ownsRow_made w #[] 0 (Nat.zero_le _) (by decide) rfl) ⟨bb, o + i * 2, none⟩ (j - i) (c - i) (flat ((l.drop i).take (j - i))) rfl HF.out HC.out (flat_one _) (by simp only [maxLen]; omega) (by omega) (Nat.zero_le _) ?_; intro v' w1 hown hg hnil hat; have HW := Lib.hid hown; have HG := Lib.hid hg; clear hown hg hnil hat)
    go_ret2
    refine ⟨_, by rw [E.out]; rfl, ?_, ((Below.refl _ w).alloc (Nat.le_refl _) _).grown HG.out (by simp) (fun k e => by cases e; exact Nat.le_refl _)⟩
    rw [R.out] at HO ⊢
    refine OwT.tr (B := 0) ?_ HO.out
    unfold OwT
    rw [HL.out]
    simpa using HW.out
  · obtain rfl : i = j := by omega
    have R2 := Lib.hid (show cutL l (i : Int) (i : Int) = [] by rw [R.out]; simp)
    cases p with
    | none =>
      go_enter Tryd.func15, Tryd.ntmps15
      go_wp2
      all_goals go_ret2
      all_goals exact ⟨_, by rw [E.out]; rfl, by rw [R2.out]; exact TR.nils _ _ _, (Below.refl _ w).alloc (Nat.le_refl _) _⟩
    | some q =>
      obtain ⟨bb, o, sp⟩ := q
      go_enter Tryd.func15, Tryd.ntmps15
      go_wp2
      all_goals go_ret2
      all_goals exact ⟨_, by rw [E.out]; rfl, by rw [R2.out]; exact TR.nils _ _ _, (Below.refl _ w).alloc (Nat.le_refl _) _⟩
end Go.Proofs.YtehjncebddoinaaDoor
