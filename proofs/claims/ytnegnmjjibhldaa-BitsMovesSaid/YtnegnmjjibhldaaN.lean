/- Layer 2: Count, Ones. -/
import Derived.Test.YtnegnmjjibhldaaM
namespace Go.Proofs.Ytnegnmjjibhldaa
open Go.RowKit Go.Shelf
attribute [local go_sem] Oper.semAt_some
theorem onesOf_any (p : Option Addr) (n c : Nat) (w : World) : Calls Try.prog 44 #[.slice p n c] w fun e w' => e = .returned (.func (.func 51) #[] #[.pointer (some ⟨w.heap.size, 0, none⟩)]) ∧ w' = w.alloc (.cells #[.slice p n c] 22) := by
  go_enter Try.func44, Try.ntmps44
  go_wp2
  go_ret
  exact ⟨rfl, rfl⟩
theorem boxed_from {W W' : World} {row : Option Nat} {B t n0 : Nat} {v : Value} (h : Boxed W B t v) (hg : W.grownBy W' row) (hr : ∀ r, row = some r → n0 ≤ r ∧ ∃ o : Obj, W.heap[r]? = some o ∧ o.isCells = false) : Boxed W' B t v := by
  refine h.kept hg (fun e => ?_)
  obtain ⟨_, o, ho, hc⟩ := hr B e.symm
  rw [show W.heap[B]? = _ from h] at ho; cases ho; cases hc
def CoI (w : World) (vb : Value) (pre : List Nat) (W : World) : Prop := Boxed W w.heap.size 3 (.int .i64 (pre.length : Int)) ∧ Boxed W (w.heap.size + 1) 22 vb ∧ Below w.heap.size w W
theorem CoI.from (w : World) (vb : Value) : OwnFrom (w.heap.size + 2) (CoI w vb) := by
  intro s W W' row ⟨h1, h2, h3⟩ hg hr
  exact ⟨boxed_from h1 hg hr, boxed_from h2 hg hr, h3.grown hg h3.size (fun k e => by have := (hr k e).1; omega)⟩
set_option maxRecDepth 100000 in
theorem count_any (v : Value) (xs : List Nat) (w : World) (hv : URow w v xs) (hw : Wf xs) : Calls Try.prog 19 #[v] w (NumPost w (onesR xs).length (chk xs.length)) := by
  have C := Lib.hid (check_any v xs w hv)
  by_cases h0 : chk xs.length = 0
  · have h01 := chk_zero h0
    have hne : (chk xs.length != 0) = false := by simp [h0]
    have R := Lib.hid (show (onesR xs).length = (onesL xs).length by unfold onesR onesZ onesL; rw [if_pos h0, List.length_map])
    have E := Lib.hid h0
    obtain ⟨b, o, c, rfl, hmc, hx⟩ := hv.form h01.1
    refine (callsIn_wide (n := 5)).1 ?_
    have h1 : 1 ≤ 4 := by omega
    have hm : 1 ≤ 5 := by omega
    refine callsIn_of_wp_marks Try.func19 rfl trivial ?_ rfl
    simp only [Try.ntmps19, List.size_toArray, List.length_cons, List.length_nil, Nat.reduceAdd, Nat.reduceSub, Array.replicate_succ, Array.replicate_zero, List.push_toArray, List.append_toArray, List.nil_append, List.cons_append]
    have CC := Lib.hid ((callsIn_wide (n := 4)).2 C.out)
    have OO := Lib.hid (fun p n c w => (callsIn_wide (n := 4)).2 (onesOf_any p n c w))
    clear C h0
    gi_wp2_with (first
      | (refine ⟨trivial, ?_⟩; gi_at_call 14; refine CC.out.mono ?_; rintro e w' ⟨rfl, rfl⟩)
      | (refine ⟨trivial, ?_⟩; gi_at_call 44; refine (OO.out _ _ _ _).mono ?_; rintro e w' ⟨rfl, rfl⟩))
    obtain ⟨n, hn⟩ : ∃ n, n = xs.length := ⟨_, rfl⟩
    rw [← hn] at hmc ⊢
    obtain ⟨vb, hvb⟩ : ∃ vb : Value, vb = .slice (some ⟨b, o, none⟩) n c := ⟨_, rfl⟩
    have hb1 : b < w.heap.size := by
      have hx0 := hx 0 (xs[0]'(by omega)) (List.getElem?_eq_getElem (by omega))
      rcases Nat.lt_or_ge b w.heap.size with h | h
      · exact h
      · simp [World.cell?, Array.getElem?_eq_none h] at hx0
    obtain ⟨wL, hwL⟩ : ∃ wL, wL = (w.alloc (.cells #[.int .i64 0] 3)).alloc (.cells #[.slice (some ⟨b, o, none⟩) n c] 22) := ⟨_, rfl⟩
    have hbL : Below w.heap.size w wL := by rw [hwL]; exact ((Below.refl _ w).alloc (Nat.le_refl _) _).alloc (by simp) _
    have hsL : wL.heap.size = w.heap.size + 2 := by rw [hwL]; simp
    have bO : Boxed wL w.heap.size 3 (.int .i64 0) := by rw [hwL]; exact (Boxed.new w _ _).alloc _
    have bN : Boxed wL (w.heap.size + 1) 22 (.slice (some ⟨b, o, none⟩) n c) := by
      have := Boxed.new (w.alloc (.cells #[.int .i64 0] 3)) 22 (.slice (some ⟨b, o, none⟩) n c)
      rw [World.size_alloc] at this
      rw [hwL]; exact this
    have hit := ones_iter (n := 4) (Bn := w.heap.size + 1) (n0 := w.heap.size) (b := b) (o := o) (c := c) (m := n) (w := wL) (xs := xs) (by omega) hn.symm (by omega) (by omega) hw bN hmc hb1 (by omega) (fun i x h => (hbL.cell (p := ⟨b, o + i, none⟩) hb1).trans (hx i x h))
    rw [← hwL]
    have hlen : (onesL xs).length ≤ 64 * n := by
      unfold onesL; rw [hn]
      have := List.length_filter_le (rbit xs) (List.range (64 * xs.length))
      simpa using this
    have hn8 : n ≤ 8 := by omega
    refine wpIn_rangeFunc_ownG rfl hm (gf := 51) (lb := #[.pointer (some ⟨w.heap.size + 1, 0, none⟩)]) rfl trivial (enters_of Try.func51 (by kernel_rfl) rfl)
      hit KpB.trans (KpB.put (by omega) (by omega)) (Below.refl _ _) (fun _ => rfl) (CoI w (.slice (some ⟨b, o, none⟩) n c)) (fun _ _ _ => False)
      (by rw [hsL]; exact CoI.from w _) (fun _ _ _ _ _ hs _ _ => hs) ⟨bO, bN, hbL⟩
      (fun x => { tmps := #[.slice (some ⟨b, o, none⟩) n c, undef, .int .i64 0, .int .i64 0, .int .i64 (chk n), .pointer (some ⟨w.heap.size, 0, none⟩), .slice (some ⟨b, o, none⟩) n c, .int .i64 (chk n), .int .i64 (chk n), .bool false, undef, .slice (some ⟨b, o, none⟩) n c, .func (.func 51) #[] #[.pointer (some ⟨w.heap.size + 1, 0, none⟩)], .int .i64 (x : Int), undef, undef, undef], defers := [] }) ?assign ?body ?done ?stop
    case assign =>
      intro l x W K hK
      rw [show (#[13] : Array Tmp).zip (encB x) = #[(13, .int .i64 (x : Int))] from by simp [encB]]
      gi_wp2
      exact hK
    case body =>
      rintro l pre x W ⟨h1, h2, h3⟩ hlt
      have hc1 := h1.cell
      have hf1 := h1.frozen
      have hpl : pre.length < 512 := by omega
      gi_wp2
      refine ⟨(KeepsOthers.setCell _ _ _).from _, ⟨by simp [World.setCell], fun k hk => Below.heap_setCell _ _ _ _ (by simp; omega), Below.heap_setCell _ _ _ _ (by simp)⟩, ?_, ?_, h3.setCell (p := ⟨w.heap.size, 0, none⟩) (Nat.le_refl _) _⟩
      · have := h1.set (.int .i64 ((pre.length : Int) + 1))
        rw [List.length_append]
        exact this
      · exact (Below.heap_setCell _ _ _ _ (by simp)).trans h2
    case done =>
      rintro D ys W hD rfl ⟨h1, h2, h3⟩ hK
      have hc1 := h1.cell
      gi_wp2
      refine ⟨by simp, .inl ⟨_, _, rfl, run_takeDeferred hK, _, results_tmp2 rfl _ _ _, ?_, ?_⟩⟩
      · rw [E.out, R.out]; rfl
      · exact h3.grown (grownBy_putObj' W D _) h3.size (fun k e => by cases e; omega)
    case stop =>
      rintro D c pre W _ _ h _
      exact h.elim
  · have hne : (chk xs.length != 0) = true := by simp [h0]
    have R := Lib.hid (show (onesR xs).length = 0 by unfold onesR; rw [if_neg h0]; rfl)
    clear h0
    go_enter Try.func19, Try.ntmps19
    go_wp2_with (go_at_call 14; refine C.out.mono ?_; rintro e w' ⟨rfl, rfl⟩)
    go_ret2
    exact ⟨by rw [R.out]; rfl, Below.refl _ _⟩
def OnI (w : World) (vb : Value) (pre : List Nat) (W : World) : Prop :=
  (∃ v, Boxed W w.heap.size 23 v ∧ W.ownsRow w.heap.size 3 1 v pre.length (pre.map fun i : Nat => i64v i)) ∧ Boxed W (w.heap.size + 1) 22 vb ∧ Below w.heap.size w W
theorem OnI.from (w : World) (vb : Value) : OwnFrom (w.heap.size + 2) (OnI w vb) := by
  intro s W W' row ⟨⟨v, h1, hr1⟩, h2, h3⟩ hg hr
  refine ⟨⟨v, boxed_from h1 hg hr, hr1.kept hg ?_⟩, boxed_from h2 hg hr, h3.grown hg h3.size (fun k e => by have := (hr k e).1; omega)⟩
  rcases hr1.2 with ⟨rfl, _⟩ | ⟨g, cap, cur, rfl, _, hgb, _⟩
  · exact .inl rfl
  · refine .inr fun e' => ?_
    obtain ⟨_, o, ho, hc⟩ := hr g (by simpa [Value.ownBlock] using e'.symm)
    rw [hgb] at ho; cases ho; cases hc
set_option maxRecDepth 100000 in
theorem ones_any (v : Value) (xs : List Nat) (w : World) (hv : URow w v xs) (hw : Wf xs) : Calls Try.prog 21 #[v] w (IntPost w (onesR xs) (chk xs.length)) := by
  have C := Lib.hid (check_any v xs w hv)
  by_cases h0 : chk xs.length = 0
  · have h01 := chk_zero h0
    have hne : (chk xs.length != 0) = false := by simp [h0]
    have R := Lib.hid (show onesR xs = (onesL xs).map fun i : Nat => (i : Int) by unfold onesR onesZ onesL; rw [if_pos h0])
    have E := Lib.hid h0
    obtain ⟨b, o, c, rfl, hmc, hx⟩ := hv.form h01.1
    obtain ⟨i0, hi, hz0, hz1, hz2⟩ := info_parts i64_info
    refine (callsIn_wide (n := 5)).1 ?_
    have h1 : 1 ≤ 4 := by omega
    have hm : 1 ≤ 5 := by omega
    refine callsIn_of_wp_marks Try.func21 rfl trivial ?_ rfl
    simp only [Try.ntmps21, List.size_toArray, List.length_cons, List.length_nil, Nat.reduceAdd, Nat.reduceSub, Array.replicate_succ, Array.replicate_zero, List.push_toArray, List.append_toArray, List.nil_append, List.cons_append]
    have CC := Lib.hid ((callsIn_wide (n := 4)).2 C.out)
    have OO := Lib.hid (fun p n c w => (callsIn_wide (n := 4)).2 (onesOf_any p n c w))
    clear C h0
    gi_wp2_with (first
      | (refine ⟨trivial, ?_⟩; gi_at_call 14; refine CC.out.mono ?_; rintro e w' ⟨rfl, rfl⟩)
      | (refine ⟨trivial, ?_⟩; gi_at_call 44; refine (OO.out _ _ _ _).mono ?_; rintro e w' ⟨rfl, rfl⟩))
    obtain ⟨n, hn⟩ : ∃ n, n = xs.length := ⟨_, rfl⟩
    rw [← hn] at hmc ⊢
    have hb1 : b < w.heap.size := by
      have hx0 := hx 0 (xs[0]'(by omega)) (List.getElem?_eq_getElem (by omega))
      rcases Nat.lt_or_ge b w.heap.size with h | h
      · exact h
      · simp [World.cell?, Array.getElem?_eq_none h] at hx0
    obtain ⟨wL, hwL⟩ : ∃ wL, wL = (w.alloc (.cells #[.slice none 0 0] 23)).alloc (.cells #[.slice (some ⟨b, o, none⟩) n c] 22) := ⟨_, rfl⟩
    have hbL : Below w.heap.size w wL := by rw [hwL]; exact ((Below.refl _ w).alloc (Nat.le_refl _) _).alloc (by simp) _
    have hsL : wL.heap.size = w.heap.size + 2 := by rw [hwL]; simp
    have bO : Boxed wL w.heap.size 23 (.slice none 0 0) := by rw [hwL]; exact (Boxed.new w _ _).alloc _
    have bN : Boxed wL (w.heap.size + 1) 22 (.slice (some ⟨b, o, none⟩) n c) := by
      have := Boxed.new (w.alloc (.cells #[.slice none 0 0] 23)) 22 (.slice (some ⟨b, o, none⟩) n c)
      rw [World.size_alloc] at this
      rw [hwL]; exact this
    have hit := ones_iter (n := 4) (Bn := w.heap.size + 1) (n0 := w.heap.size) (b := b) (o := o) (c := c) (m := n) (w := wL) (xs := xs) (by omega) hn.symm (by omega) (by omega) hw bN hmc hb1 (by omega) (fun i x h => (hbL.cell (p := ⟨b, o + i, none⟩) hb1).trans (hx i x h))
    rw [← hwL]
    have hlen : (onesL xs).length ≤ 64 * n := by
      unfold onesL; rw [hn]
      have := List.length_filter_le (rbit xs) (List.range (64 * xs.length))
      simpa using this
    have hn8 : n ≤ 8 := by omega
    clear hn
    refine wpIn_rangeFunc_ownG rfl hm (gf := 51) (lb := #[.pointer (some ⟨w.heap.size + 1, 0, none⟩)]) rfl trivial (enters_of Try.func51 (by kernel_rfl) rfl)
      hit KpB.trans (KpB.put (by omega) (by omega)) (Below.refl _ _) (fun _ => rfl) (OnI w (.slice (some ⟨b, o, none⟩) n c)) (fun _ _ _ => False)
      (by rw [hsL]; exact OnI.from w _) (fun _ _ _ _ _ hs _ _ => hs) ⟨⟨_, bO, World.ownsRow_nil _ _ _ _⟩, bN, hbL⟩
      (fun x => { tmps := #[.slice (some ⟨b, o, none⟩) n c, undef, .slice none 0 0, .int .i64 0, .int .i64 (chk n), .pointer (some ⟨w.heap.size, 0, none⟩), .int .i64 (x : Int), .slice (some ⟨b, o, none⟩) n c, .int .i64 (chk n), .int .i64 (chk n), .bool false, undef, .slice (some ⟨b, o, none⟩) n c, .func (.func 51) #[] #[.pointer (some ⟨w.heap.size + 1, 0, none⟩)], .int .i64 (x : Int), undef, undef, undef, undef, undef], defers := [] }) ?assign ?body ?done ?stop
    case assign =>
      intro l x W K hK
      rw [show (#[14] : Array Tmp).zip (encB x) = #[(14, .int .i64 (x : Int))] from by simp [encB]]
      gi_wp2
      exact hK
    case body =>
      rintro l pre x W ⟨⟨v, hv1, hrow⟩, h2, hB⟩ hlt
      have hc := hv1.cell
      have hpl : pre.length < 512 := by omega
      have hBs := hB.size
      have hne2 := h2.not_row (by decide) hrow
      gi_wp2_with (gi_at_builtin; refine wpListIn_append_own _ rfl _ _ 23 rfl w.heap.size 3 i0 (.int .i64 0) 1 8 Try.underlying23 hi hz0 hz1 hz2 rfl (by decide) _ _ _ rfl (hrow.alloc _) ⟨W.heap.size, 0, none⟩ 1 1 [.int .i64 (x : Int)] rfl rfl (cell_one_new _ _ _) (by simp [Value.oneCell']) (by simp only [maxLen]; omega) (by omega) (by simp; omega) ?_; intro v' w1 hown' hgrow _; obtain ⟨g', cap', rfl⟩ := ownsRow_succ hown'; obtain ⟨hv1', hv2, hr2, hk2, hb2⟩ := hv1.appended (by decide) hrow hBs (Nat.le_refl _) hown' hgrow; have hb3 := ((h2.alloc _).kept hgrow hne2); have hc1 := hv1'.cell; have hf1 := hv1'.frozen)
      refine ⟨hk2.from _, ⟨hb2.size, fun k hk => hb2.block k hk, ?_⟩, ⟨_, hv2, ?_⟩, ?_, hB.trans hb2⟩
      · exact (Below.heap_setCell _ _ _ _ (by simp)).trans (hb3.trans (show W.heap[w.heap.size + 1]? = _ from h2).symm)
      · rw [List.length_append, List.map_append]
        exact hr2
      · exact (Below.heap_setCell _ _ _ _ (by simp)).trans hb3
    case done =>
      rintro D ys W hD rfl ⟨⟨v, hv1, hrow⟩, h2, hB⟩ hK
      have hc := hv1.cell
      gi_wp2
      refine ⟨by simp, .inl ⟨_, _, rfl, run_takeDeferred hK, _, results_tmp2 rfl _ _ _, v, by rw [E.out]; rfl, ?_, ?_⟩⟩
      · rw [R.out]
        have := ownsRow_putObj hrow (.deferred none) hK rfl
        refine OwnI.row (B := w.heap.size) ?_
        unfold OwnI
        rw [List.length_map, List.map_map]
        exact this
      · exact hB.grown (grownBy_putObj' W D _) hB.size (fun k e => by cases e; omega)
    case stop =>
      rintro D c pre W _ _ h _
      exact h.elim
  · have hne : (chk xs.length != 0) = true := by simp [h0]
    have R := Lib.hid (show onesR xs = [] by unfold onesR; rw [if_neg h0])
    clear h0
    go_enter Try.func21, Try.ntmps21
    go_wp2_with (go_at_call 14; refine C.out.mono ?_; rintro e w' ⟨rfl, rfl⟩)
    go_ret2
    exact ⟨.slice none 0 0, rfl, by rw [R.out]; exact IRow.none _, Below.refl _ _⟩
end Go.Proofs.Ytnegnmjjibhldaa
