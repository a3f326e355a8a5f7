/- Layer 3: Runs. -/
import Derived.Test.YtedbhjladpfafaaK
namespace Go.Proofs.Ytedbhjladpfafaa
open Go.RowKit Go.Shelf
attribute [local go_sem] Oper.semAt_some
def encR (r : Nat × Nat) : List Value := [u8n r.1, u8n r.2]
theorem encR_len (rs : List (Nat × Nat)) : (rs.flatMap encR).length = rs.length * 2 := by
  induction rs with
  | nil => rfl
  | cons r rs ih => simp [List.flatMap_cons, encR, ih]; omega
theorem flat_set (qs : List (Nat × Nat)) (a c b : Nat) : ((qs ++ [(a, c)]).flatMap encR).set (qs.length * 2 + 1) (u8n b) = (qs ++ [(a, b)]).flatMap encR := by
  have := encR_len qs
  rw [List.flatMap_append, List.flatMap_append, List.set_append_right _ _ (by omega), show qs.length * 2 + 1 - (qs.flatMap encR).length = 1 by omega]
  rfl
/-- The runs, when one byte more comes behind. -/
def stepR (p : Nat → Bool) (rs : List (Nat × Nat)) (b : Nat) : List (Nat × Nat) := if (decide (0 < b) && p (b - 1)) then rs.dropLast ++ [((rs.getLast?.getD (0, 0)).1, b)] else rs ++ [(b, b)]
def runsOf (p : Nat → Bool) (pre : List Nat) : List (Nat × Nat) := pre.foldl (stepR p) []
def runsB (p : Nat → Bool) : List (Nat × Nat) := runsOf p (listB p)
theorem runsOf_add (p : Nat → Bool) (pre : List Nat) (x : Nat) : runsOf p (pre ++ [x]) = stepR p (runsOf p pre) x := by simp [runsOf]
theorem stepR_ne (p : Nat → Bool) (rs : List (Nat × Nat)) (b : Nat) : stepR p rs b ≠ [] := by unfold stepR; split <;> simp
theorem runsOf_ne {p : Nat → Bool} {pre : List Nat} (h : pre ≠ []) : ∃ qs a c, runsOf p pre = qs ++ [(a, c)] := by
  obtain ⟨l, x, rfl⟩ : ∃ l x, pre = l ++ [x] := ⟨_, _, (List.dropLast_concat_getLast h).symm⟩
  rw [runsOf_add]
  have := stepR_ne p (runsOf p l) x
  exact ⟨_, _, _, (List.dropLast_concat_getLast this).symm⟩
theorem stepR_len (p : Nat → Bool) (rs : List (Nat × Nat)) (b : Nat) : (stepR p rs b).length ≤ rs.length + 1 := by
  unfold stepR
  split
  · rw [List.length_append, List.length_dropLast]; simp
  · simp
theorem fold_len (p : Nat → Bool) (l : List Nat) : ∀ rs : List (Nat × Nat), (l.foldl (stepR p) rs).length ≤ rs.length + l.length := by
  induction l with
  | nil => simp
  | cons x l ih =>
    intro rs
    have h1 := ih (stepR p rs x)
    have h2 := stepR_len p rs x
    simp only [List.foldl_cons, List.length_cons]
    omega
theorem runsOf_len (p : Nat → Bool) (pre : List Nat) : (runsOf p pre).length ≤ pre.length := by
  have := fold_len p pre []
  simpa [runsOf] using this
theorem okB_ne {p : Nat → Bool} {pre : List Nat} {y : Nat} (h : okB p pre (y + 1)) (hy : p y = true) : pre ≠ [] := by
  obtain ⟨_, _, rfl⟩ := h
  exact List.ne_nil_of_mem (List.mem_filter.2 ⟨List.mem_range.2 (Nat.lt_succ_self y), hy⟩)
/-- A slice of pairs of bytes in memory. -/
def RR (W : World) (v : Value) (rs : List (Nat × Nat)) : Prop :=
  ∃ p c, v = .slice p rs.length c ∧ rs.length ≤ c ∧ ∀ i r, rs[i]? = some r → ∃ b o, p = some ⟨b, o, none⟩ ∧ W.cell? ⟨b, o + i * 2, none⟩ = some (u8n r.1) ∧ W.cell? ⟨b, o + i * 2 + 1, none⟩ = some (u8n r.2)
theorem RR.below {w w' : World} {v : Value} {rs : List (Nat × Nat)} (h : RR w v rs) (hb : Below w.heap.size w w') : RR w' v rs := by
  obtain ⟨p, c, rfl, hc, hx⟩ := h
  refine ⟨p, c, rfl, hc, fun i r hi => ?_⟩
  obtain ⟨b, o, rfl, h1, h2⟩ := hx i r hi
  exact ⟨b, o, rfl, (hb.cell (p := ⟨b, o + i * 2, none⟩) (block_lt_of_cell h1)).trans h1, (hb.cell (p := ⟨b, o + i * 2 + 1, none⟩) (block_lt_of_cell h2)).trans h2⟩
theorem flat_get (rs : List (Nat × Nat)) : ∀ i r, rs[i]? = some r → (rs.flatMap encR)[i * 2]? = some (u8n r.1) ∧ (rs.flatMap encR)[i * 2 + 1]? = some (u8n r.2) := by
  induction rs with
  | nil => intro i r h; simp at h
  | cons q rs ih =>
    intro i r h
    cases i with
    | zero => simp at h; subst h; exact ⟨rfl, rfl⟩
    | succ i =>
      have := ih i r (by simpa using h)
      rw [List.flatMap_cons, show (i + 1) * 2 = (encR q).length + i * 2 by simp [encR]; omega, Nat.add_assoc, List.getElem?_append_right (by omega), List.getElem?_append_right (by omega), Nat.add_sub_cancel_left, Nat.add_sub_cancel_left]
      exact this
theorem RR.own {W : World} {B : Nat} {v : Value} {rs : List (Nat × Nat)} (h : W.ownsRow B 47 2 v rs.length (rs.flatMap encR)) : RR W v rs := by
  rcases h.2 with ⟨rfl, h0⟩ | ⟨g, cap, cur, rfl, _, hgb, hn, _⟩
  · have : rs = [] := List.eq_nil_of_length_eq_zero (by simpa using h0)
    subst this
    exact ⟨none, 0, rfl, Nat.le_refl _, fun i x hi => by simp at hi⟩
  · refine ⟨_, cap, rfl, hn, fun i r hi => ⟨g, 0, rfl, ?_⟩⟩
    have hl := (List.getElem?_eq_some_iff.1 hi).1
    rw [Nat.zero_add, World.ownsRow.cellAt h (i * 2) (by omega), World.ownsRow.cellAt h (i * 2 + 1) (by omega)]
    exact flat_get rs i r hi
theorem info_r2 : (Try.prog.info? 47).map (fun i => (i.zero, i.size, i.bytes)) = some (some (.agg #[.int .u8 0, .int .u8 0]), 2, 2) := by kernel_rfl
def RuI (w : World) (p : Nat → Bool) (pre : List Nat) (W : World) : Prop :=
  (∃ v, Boxed W (w.heap.size + 1) 40 v ∧ W.ownsRow w.heap.size 47 2 v (runsOf p pre).length ((runsOf p pre).flatMap encR)) ∧ SA W w.heap.size p ∧ SA W (w.heap.size + 1 + 1) p ∧ Below w.heap.size w W
theorem RuI.from (w : World) (p : Nat → Bool) : OwnFrom (w.heap.size + 3) (RuI w p) := by
  intro s W W' row ⟨⟨v, h1, hr1⟩, h0, h2, h3⟩ hg hr
  exact ⟨⟨v, boxed_from h1 hg hr, own_from hr1 hg hr⟩, h0.from hg hr, h2.from hg hr, h3.grown hg h3.size (fun k e => by have := (hr k e).1; omega)⟩
def RuPost (w : World) (rs : List (Nat × Nat)) (e : Ending) (w' : World) : Prop := ∃ v, e = .returned v ∧ w'.ownsRow w.heap.size 47 2 v rs.length (rs.flatMap encR) ∧ Below w.heap.size w w'
theorem two_new_cells (w : World) (a b : Value) (t : TypeId) (j : Nat) (u : Value) (h : [a, b][j]? = some u) : (w.alloc (.cells #[a, b] t)).cell? ((⟨w.heap.size, 0, none⟩ : Addr).add j) = some u := by
  have e : ((⟨w.heap.size, 0, none⟩ : Addr).add j) = ⟨w.heap.size, j, none⟩ := by unfold Addr.add; split <;> simp_all
  rw [e, cell_of_row _ _ _ _ _ _ (heap_alloc_new _ _)]
  simpa using h
set_option maxRecDepth 100000 in
theorem runs_any (p : Nat → Bool) (w : World) : Calls Try.prog 35 #[sv p] w (RuPost w (runsB p)) := by
  obtain ⟨i0, hi, hz0, hz1, hz2⟩ := info_parts info_r2
  refine (callsIn_wide (n := 5)).1 ?_
  have h1 : 1 ≤ 4 := by omega
  have hm : 1 ≤ 5 := by omega
  refine callsIn_of_wp_marks Try.func35 rfl trivial ?_ rfl
  simp only [Try.ntmps35, List.size_toArray, List.length_cons, List.length_nil, Nat.reduceAdd, Nat.reduceSub, Array.replicate_succ, Array.replicate_zero, List.push_toArray, List.append_toArray, List.nil_append, List.cons_append]
  have OO := Lib.hid (fun w => (callsIn_wide (n := 4)).2 (bytesOf_any p w))
  have g1 : SA ((w.alloc (setO p)).alloc (.cells #[.slice none 0 0] 40)) w.heap.size p := (SA.new w p).alloc _
  gi_wp2_with (first
    | (refine wpListIn_get rfl _ rfl _ rfl _ g1 ?_)
    | (refine ⟨trivial, ?_⟩; gi_at_call 48; refine (OO.out _).mono ?_; rintro e w' ⟨rfl, rfl⟩))
  obtain ⟨W, hW⟩ : ∃ W, W = ((w.alloc (setO p)).alloc (.cells #[.slice none 0 0] 40)).alloc (setO p) := ⟨_, rfl⟩
  have hbL : Below w.heap.size w W := by rw [hW]; exact (((Below.refl _ w).alloc (Nat.le_refl _) _).alloc (by simp) _).alloc (by simp; omega) _
  have hsL : W.heap.size = w.heap.size + 3 := by rw [hW]; simp
  have bO : Boxed W (w.heap.size + 1) 40 (.slice none 0 0) := by
    have := (Boxed.new (w.alloc (setO p)) 40 (.slice none 0 0)).alloc (setO p)
    rw [World.size_alloc] at this
    rw [hW]; exact this
  have bS : SA W w.heap.size p := by rw [hW]; exact g1.alloc _
  have bN : SA W (w.heap.size + 1 + 1) p := by rw [hW]; exact SA.new' _ p _ (by simp)
  have hit := bytes_iter (n := 4) (by omega) bN
  rw [← hW]
  clear hW OO g1
  refine RX.rangeOk rfl hm (gf := 52) (lb := #[.pointer (some ⟨w.heap.size + 1 + 1, 0, none⟩)]) rfl trivial (enters_of Try.func52 (by kernel_rfl) rfl)
    hit Kp.trans (fun W' l o o' hl h hc => ?kb) (Below.refl _ _) (fun _ => rfl) (RuI w p) (by rw [hsL]; exact RuI.from w p) ⟨⟨_, bO, World.ownsRow_nil _ _ _ _⟩, bS, bN, hbL⟩
    (fun x => { tmps := #[sv p, .pointer (some ⟨w.heap.size, 0, none⟩), .slice none 0 0, .pointer (some ⟨w.heap.size + 1, 0, none⟩), .int .u8 (x : Int), undef, sv p, .func (.func 52) #[] #[.pointer (some ⟨w.heap.size + 1 + 1, 0, none⟩)], .int .u8 (x : Int), undef, undef, undef, undef, undef, undef, undef, undef, undef, undef, undef, undef, undef, undef, undef, undef, undef, undef, undef, undef, undef, undef, undef], defers := [] }) ?assign ?body ?done
  case kb => exact World.putObj_heap_other (by omega)
  case assign =>
    intro l x W K hK
    rw [show (#[8] : Array Tmp).zip (encC x) = #[(8, .int .u8 (x : Int))] from by simp [encC]]
    gi_wp2
    exact hK
  case body =>
    rintro l pre x W ⟨⟨v, hv1, hrow⟩, hS, h2, hB⟩ hok
    have hpl := okB_len hok
    have hrl := runsOf_len p pre
    have hBs := hB.size
    have hx8 : x < 256 := hok.2.1
    have hRu := runsOf_add p pre x
    have hne0 := not_own (show W.heap[w.heap.size]? = _ from hS) (by decide) hrow
    have hne2 := not_own (show W.heap[w.heap.size + 1 + 1]? = _ from h2) (by decide) hrow
    by_cases hA : ∃ y, x = y + 1 ∧ p y = true
    · obtain ⟨y, rfl, hy⟩ := hA
      obtain ⟨qs, a, c, hq⟩ := runsOf_ne (okB_ne hok hy)
      have hst : stepR p (runsOf p pre) (y + 1) = qs ++ [(a, y + 1)] := by
        unfold stepR
        rw [hq, if_pos (by simp [hy])]
        simp
      rw [hst] at hRu
      rw [hq] at hrow hrl
      rw [show (qs ++ [(a, c)]).length = qs.length + 1 by simp] at hrow hrl
      obtain ⟨g, cap, rfl⟩ := ownsRow_succ hrow
      have hc0 := hv1.cell
      have hT := fun n => CallsIn.inRound l ((callsIn_wide (n := n)).2 (has_any p y W (by omega)))
      simp only [hy] at hT
      have HT := Lib.hid hT
      have HR := Lib.hid hRu
      have HO := Lib.hid hok
      have HG := Lib.hid (show w.heap.size ≠ g ∧ w.heap.size + 1 + 1 ≠ g by simpa [Value.ownBlock] using And.intro hne0 hne2)
      have hg0 := World.ownsRow.lt hrow g rfl
      have hgt : decide ((0 : Int) < (y : Int) + 1) = true := decide_eq_true (by omega)
      have hu8 : IntKind.u8.wrap (y : Int) = y := by rw [IntKind.wrap_u8]; omega
      have hw1 : IntKind.i64.wrap (qs.length : Int) = qs.length := IntWalk.i64_in _ (by omega)
      have hcst := flat_get (qs ++ [(a, c)]) qs.length (a, c) (by simp)
      clear hRu hok hne0 hne2 hst hq hT
      gi_wp2_with (first
        | (refine wpListIn_getG (by rfl) _ rfl _ rfl _ hS ?_)
        | (refine ⟨trivial, ?_⟩; gi_at_call 14; refine (HT.out _).mono ?_; rintro e w2 ⟨rfl, hb2⟩
           have b2 : Boxed w2 (w.heap.size + 1) 40 _ := (hb2.block _ hv1.lt).trans hv1
           have r2 := own_from hrow (grown_of hb2) (fun r e => by cases e) (n0 := 0)
           have hc2 := b2.cell
           have hc3 := (World.ownsRow.cellAt r2 (qs.length * 2 + 1) (by omega)).trans hcst.2
           have hf3 := World.ownsRow.frozenAt r2 (qs.length * 2 + 1)))
      have hbx := b2.not_row (by decide) r2
      simp only [Value.ownBlock] at hbx
      have hne1 : w.heap.size + 1 ≠ g := fun e => hbx (by rw [e])
      have so := World.ownsRow.stored r2 (qs.length * 2 + 1) (u8n (y + 1))
      rw [flat_set] at so
      obtain ⟨hg1, hg2⟩ := HG.out
      refine ⟨((KeepsOthers.of_grownBy (grown_of hb2) (fun j o ej hj => by cases ej)).trans (KeepsOthers.setCell _ _ _)).from _, ?_, ⟨.slice (some ⟨g, 0, none⟩) (qs.length + 1) cap, ?_, ?_⟩, ?_, ?_, ?_⟩
      · exact (Below.heap_setCell _ _ _ _ hg2).trans (hb2.block _ h2.lt)
      · exact (Below.heap_setCell _ _ _ _ hne1).trans b2
      · rw [HR.out, show (qs ++ [(a, y + 1)]).length = qs.length + 1 by simp]
        exact so.1
      · exact (Below.heap_setCell _ _ _ _ hg1).trans ((hb2.block _ hS.lt).trans hS)
      · exact (Below.heap_setCell _ _ _ _ hg2).trans ((hb2.block _ h2.lt).trans h2)
      · exact (hB.trans (hb2.mono hBs)).setCell (p := ⟨g, qs.length * 2 + 1, none⟩) hg0.1 _
    · have hst : stepR p (runsOf p pre) x = runsOf p pre ++ [(x, x)] := by
        unfold stepR
        rw [if_neg]
        intro h
        simp only [Bool.and_eq_true, decide_eq_true_eq] at h
        exact hA ⟨x - 1, by omega, h.2⟩
      rw [hst] at hRu
      have HR := Lib.hid hRu
      obtain ⟨rs, hrs⟩ : ∃ rs, rs = runsOf p pre := ⟨_, rfl⟩
      rw [← hrs] at hrow hrl HR
      obtain ⟨n, hn⟩ : ∃ n, n = rs.length := ⟨_, rfl⟩
      rw [← hn] at hrow hrl
      obtain ⟨pp, cc, rfl⟩ : ∃ pp cc, v = .slice pp n cc := by
        rcases hrow.2 with ⟨rfl, h0⟩ | ⟨g, cap, cur, rfl, _⟩
        · exact ⟨none, 0, by rw [h0]⟩
        · exact ⟨_, _, rfl⟩
      have HN := Lib.hid hn
      have hw1 : IntKind.i64.wrap ((n : Int) - 1) = (n : Int) - 1 := IntWalk.i64_in _ (by omega)
      have hc0 := hv1.cell
      clear hRu hok hst hrs hn
      cases x with
      | zero =>
        have hb2 := Below.refl W.heap.size W
        have r2 := hrow
        have b2 := hv1
        clear hA
        gi_wp2
        refine ⟨trivial, ?_⟩
        gi_wp2_with (first
          | (gi_at_builtin; refine wpListIn_append_own _ rfl _ _ 40 rfl w.heap.size 47 i0 (.agg #[.int .u8 0, .int .u8 0]) 2 2 Try.underlying40 hi hz0 hz1 hz2 rfl (by decide) _ _ _ rfl (r2.alloc _) ⟨W.heap.size, 0, none⟩ 1 1 [.int .u8 0, .int .u8 0] rfl rfl (two_new_cells _ _ _ _) (by simp [Value.oneCell']) (by simp only [maxLen]; omega) (by omega) (by have := hb2.size; simp; omega) ?_; intro v' w1 hown' hgrow _; obtain ⟨g', cap', rfl⟩ := ownsRow_succ hown'; obtain ⟨hv1', hv2, hr2, hk2, hb3⟩ := b2.appended (by decide) r2 (Nat.le_trans hBs hb2.size) (by omega) hown' hgrow; have hc1 := hv1'.cell; have hf1 := hv1'.frozen)
          | (refine wpListIn_getG (by rfl) _ rfl _ rfl _ hS ?_)
          | (refine ⟨trivial, ?_⟩; gi_at_call 14; refine (HT.out _).mono ?_; rintro e w2 ⟨rfl, hb2⟩
             have b2 : Boxed w2 (w.heap.size + 1) 40 _ := (hb2.block _ hv1.lt).trans hv1
             have r2 := own_from hrow (grown_of hb2) (fun r e => by cases e) (n0 := 0)
             have hc2 := b2.cell))
        have s0 : SA w1 w.heap.size p := SA.grown (row := (Value.slice pp n cc).ownBlock) (SA.alloc ((hb2.block _ hS.lt).trans hS) _) hgrow hne0
        have s2 : SA w1 (w.heap.size + 1 + 1) p := SA.grown (row := (Value.slice pp n cc).ownBlock) (SA.alloc ((hb2.block _ h2.lt).trans h2) _) hgrow hne2
        refine ⟨((KeepsOthers.of_grownBy (grown_of hb2) (fun j o ej hj => by cases ej)).trans hk2).from _, ?_, ⟨_, hv2, ?_⟩, ?_, ?_, (hB.trans (hb2.mono hBs)).trans hb3⟩
        · exact ((Below.heap_setCell _ _ _ _ (by simp)).trans s2).trans (show W.heap[w.heap.size + 1 + 1]? = _ from h2).symm
        · rw [HR.out, List.flatMap_append, List.length_append, ← HN.out]
          exact hr2
        · exact (Below.heap_setCell _ _ _ _ (by simp)).trans s0
        · exact (Below.heap_setCell _ _ _ _ (by simp)).trans s2
      | succ y =>
        have hy : p y = false := by
          cases h : p y
          · rfl
          · exact absurd ⟨y, rfl, h⟩ hA
        have hT := fun n => CallsIn.inRound l ((callsIn_wide (n := n)).2 (has_any p y W (by omega)))
        simp only [hy] at hT
        have HT := Lib.hid hT
        have hgt : decide ((0 : Int) < (y : Int) + 1) = true := decide_eq_true (by omega)
        have hu8 : IntKind.u8.wrap (y : Int) = y := by rw [IntKind.wrap_u8]; omega
        clear hA hT
        gi_wp2_with (first
          | (gi_at_builtin; refine wpListIn_append_own _ rfl _ _ 40 rfl w.heap.size 47 i0 (.agg #[.int .u8 0, .int .u8 0]) 2 2 Try.underlying40 hi hz0 hz1 hz2 rfl (by decide) _ _ _ rfl (r2.alloc _) ⟨w2.heap.size, 0, none⟩ 1 1 [.int .u8 ((y : Int) + 1), .int .u8 ((y : Int) + 1)] rfl rfl (two_new_cells _ _ _ _) (by simp [Value.oneCell']) (by simp only [maxLen]; omega) (by omega) (by have := hb2.size; simp; omega) ?_; intro v' w1 hown' hgrow _; obtain ⟨g', cap', rfl⟩ := ownsRow_succ hown'; obtain ⟨hv1', hv2, hr2, hk2, hb3⟩ := b2.appended (by decide) r2 (Nat.le_trans hBs hb2.size) (by omega) hown' hgrow; have hc1 := hv1'.cell; have hf1 := hv1'.frozen)
          | (refine wpListIn_getG (by rfl) _ rfl _ rfl _ hS ?_)
          | (refine ⟨trivial, ?_⟩; gi_at_call 14; refine (HT.out _).mono ?_; rintro e w2 ⟨rfl, hb2⟩
             have b2 : Boxed w2 (w.heap.size + 1) 40 _ := (hb2.block _ hv1.lt).trans hv1
             have r2 := own_from hrow (grown_of hb2) (fun r e => by cases e) (n0 := 0)
             have hc2 := b2.cell))
        have s0 : SA w1 w.heap.size p := SA.grown (row := (Value.slice pp n cc).ownBlock) (SA.alloc ((hb2.block _ hS.lt).trans hS) _) hgrow hne0
        have s2 : SA w1 (w.heap.size + 1 + 1) p := SA.grown (row := (Value.slice pp n cc).ownBlock) (SA.alloc ((hb2.block _ h2.lt).trans h2) _) hgrow hne2
        refine ⟨((KeepsOthers.of_grownBy (grown_of hb2) (fun j o ej hj => by cases ej)).trans hk2).from _, ?_, ⟨_, hv2, ?_⟩, ?_, ?_, (hB.trans (hb2.mono hBs)).trans hb3⟩
        · exact ((Below.heap_setCell _ _ _ _ (by simp)).trans s2).trans (show W.heap[w.heap.size + 1 + 1]? = _ from h2).symm
        · rw [HR.out, List.flatMap_append, List.length_append, ← HN.out]
          exact hr2
        · exact (Below.heap_setCell _ _ _ _ (by simp)).trans s0
        · exact (Below.heap_setCell _ _ _ _ (by simp)).trans s2
  case done =>
    rintro D ys W hD rfl ⟨⟨v, hv1, hrow⟩, _, h2, hB⟩ hK
    have hc := hv1.cell
    gi_wp2
    refine ⟨by simp, .inl ⟨_, _, rfl, run_takeDeferred hK, _, results_tmp rfl _ _ _, v, rfl, ?_, ?_⟩⟩
    · exact ownsRow_putObj hrow (.deferred none) hK rfl
    · exact hB.grown (grownBy_putObj' W D _) hB.size (fun k e => by cases e; omega)
end Go.Proofs.Ytedbhjladpfafaa
