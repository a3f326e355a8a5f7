/- Layer 3: List. -/
import Derived.Test.YtedbhjladpfafaaJ
namespace Go.Proofs.Ytedbhjladpfafaa
open Go.RowKit Go.Shelf
attribute [local go_sem] Oper.semAt_some
theorem wpListIn_getG {F : Fence} {n : Nat} {ops : Array Oper} {rest : List Oper} {o : Oper} {a : Act} {w : World} {Q : Exit → Act → World → Prop} (hw : Region.wanted o (yielded ops a.tmps) = true) (x : Operand) (ho : o.op = .load 26 x) (B : Nat) (hx : a.eval x = .pointer (some ⟨B, 0, none⟩)) (p : Nat → Bool) (hs : SA w B p)
    (h : wpListIn F n Try.prog ops Q rest (a.put o.dst (sv p)) w) : wpListIn F n Try.prog ops Q (o :: rest) a w := by
  refine wpListIn_step fun K hK => ?_
  rw [if_pos hw]
  unfold Oper.wpIn
  refine ⟨?_, ?_⟩
  · simp [Oper.about, ho]
  · rw [Oper.semAt_plain F _ _ (by rw [ho]; intro c hc'; cases hc')]
    have hl := run_loadVar_row (P := Try.prog) w B _ 26 _ _ _ hs Try.underlying26 rfl (by kernel_rfl)
    simp [execOp, ho, hx, Instr.loadAt, Instr.sureAddr, hl, Result.andThen]
    exact hK _ _ h
theorem wpList_getG {ops : Array Oper} {rest : List Oper} {o : Oper} {a : Act} {w : World} {Q : Exit → Act → World → Prop} (hw : Region.wanted o (yielded ops a.tmps) = true) (x : Operand) (ho : o.op = .load 26 x) (B : Nat) (hx : a.eval x = .pointer (some ⟨B, 0, none⟩)) (p : Nat → Bool) (hs : SA w B p)
    (h : wpList Try.prog ops Q rest (a.put o.dst (sv p)) w) : wpList Try.prog ops Q (o :: rest) a w := by
  refine wpList_step fun K hK => ?_
  rw [if_pos hw]
  exact wp_load_row 26 x ho B hx 26 (sc p) (0, 0) _ hs Try.underlying26 rfl (by kernel_rfl) (hK _ _ h)
def u8n (x : Nat) : Value := .int .u8 (x : Int)
theorem info_u8 : (Try.prog.info? 5).map (fun i => (i.zero, i.size, i.bytes)) = some (some (.int .u8 0), 1, 1) := by kernel_rfl
theorem listB_lt (p : Nat → Bool) : ∀ x ∈ listB p, x < 256 := fun _ hx => List.mem_range.1 (List.mem_filter.1 hx).1
theorem listB_len (p : Nat → Bool) : (listB p).length ≤ 256 := by
  have := List.length_filter_le p (List.range 256); simpa [listB] using this
theorem okB_len {p : Nat → Bool} {pre : List Nat} {x : Nat} (h : okB p pre x) : pre.length ≤ 255 := by
  obtain ⟨_, h1, rfl⟩ := h
  have := List.length_filter_le p (List.range x)
  simp at this; omega
theorem BR.own {W : World} {B : Nat} {v : Value} {xs : List Nat} (h : W.ownsRow B 5 1 v xs.length (xs.map u8n)) (hx : ∀ x ∈ xs, x < 256) : BR W v xs := by
  rcases h.2 with ⟨rfl, h0⟩ | ⟨g, cap, cur, rfl, _, hgb, hn, _⟩
  · have : xs = [] := List.eq_nil_of_length_eq_zero (by simpa using h0)
    subst this
    exact ⟨none, 0, rfl, Nat.le_refl _, fun i x hi => by simp at hi⟩
  · refine ⟨_, cap, rfl, hn, fun i x hi => ⟨hx x (List.mem_of_getElem? hi), g, 0, rfl, ?_⟩⟩
    rw [Nat.zero_add, World.ownsRow.cellAt h i (by simpa using (List.getElem?_eq_some_iff.1 hi).1), List.getElem?_map, hi]
    rfl
/-- A block of another type is not the own row. -/
theorem not_own {W : World} {B g0 : Nat} {t e : TypeId} {cs : Array Value} (h : W.heap[g0]? = some (.cells cs t (0, 0))) (hte : t ≠ e) {size k : Nat} {v : Value} {xs : List Value} (hr : W.ownsRow B e size v k xs) : some g0 ≠ v.ownBlock := by
  rcases hr.2 with ⟨rfl, _⟩ | ⟨g, cap, cur, rfl, _, hgb, _⟩
  · simp [Value.ownBlock]
  · intro e'
    obtain rfl : g0 = g := by simpa [Value.ownBlock] using e'
    rw [h] at hgb; cases hgb; exact hte rfl
theorem SA.grown {W W' : World} {B : Nat} {p : Nat → Bool} {row : Option Nat} (h : SA W B p) (hg : W.grownBy W' row) (hne : some B ≠ row) : SA W' B p := (hg.block B h.lt hne).trans h
theorem SA.from {W W' : World} {row : Option Nat} {B n0 : Nat} {p : Nat → Bool} (h : SA W B p) (hg : W.grownBy W' row) (hr : ∀ r, row = some r → n0 ≤ r ∧ ∃ o : Obj, W.heap[r]? = some o ∧ o.isCells = false) : SA W' B p := by
  refine h.grown hg (fun e => ?_)
  obtain ⟨_, o, ho, hc⟩ := hr B e.symm
  rw [show W.heap[B]? = _ from h] at ho; cases ho; cases hc
theorem boxed_from {W W' : World} {row : Option Nat} {B t n0 : Nat} {v : Value} (h : Boxed W B t v) (hg : W.grownBy W' row) (hr : ∀ r, row = some r → n0 ≤ r ∧ ∃ o : Obj, W.heap[r]? = some o ∧ o.isCells = false) : Boxed W' B t v := by
  refine h.kept hg (fun e => ?_)
  obtain ⟨_, o, ho, hc⟩ := hr B e.symm
  rw [show W.heap[B]? = _ from h] at ho; cases ho; cases hc
theorem own_from {W W' : World} {row : Option Nat} {B n0 k size : Nat} {e : TypeId} {v : Value} {xs : List Value} (h : W.ownsRow B e size v k xs) (hg : W.grownBy W' row) (hr : ∀ r, row = some r → n0 ≤ r ∧ ∃ o : Obj, W.heap[r]? = some o ∧ o.isCells = false) : W'.ownsRow B e size v k xs := by
  refine h.kept hg ?_
  rcases h.2 with ⟨rfl, _⟩ | ⟨g, cap, cur, rfl, _, hgb, _⟩
  · exact .inl rfl
  · refine .inr fun e' => ?_
    obtain ⟨_, o, ho, hc⟩ := hr g (by simpa [Value.ownBlock] using e'.symm)
    rw [hgb] at ho; cases ho; cases hc
theorem ownsRow_succ {W : World} {B size k : Nat} {e : TypeId} {v : Value} {xs : List Value} (h : W.ownsRow B e size v (k + 1) xs) : ∃ g cap, v = .slice (some ⟨g, 0, none⟩) (k + 1) cap := by
  rcases h.2 with ⟨_, h0⟩ | ⟨g, cap, _, rfl, _⟩
  · omega
  · exact ⟨g, cap, rfl⟩
def LiI (w : World) (p : Nat → Bool) (pre : List Nat) (W : World) : Prop :=
  (∃ v, Boxed W (w.heap.size + 1) 22 v ∧ W.ownsRow w.heap.size 5 1 v pre.length (pre.map u8n)) ∧ SA W (w.heap.size + 1 + 1) p ∧ Below w.heap.size w W
theorem LiI.from (w : World) (p : Nat → Bool) : OwnFrom (w.heap.size + 3) (LiI w p) := by
  intro s W W' row ⟨⟨v, h1, hr1⟩, h2, h3⟩ hg hr
  exact ⟨⟨v, boxed_from h1 hg hr, own_from hr1 hg hr⟩, h2.from hg hr, h3.grown hg h3.size (fun k e => by have := (hr k e).1; omega)⟩
/-- What List returns. -/
def LiPost (w : World) (xs : List Nat) (e : Ending) (w' : World) : Prop := ∃ v, e = .returned v ∧ BR w' v xs ∧ Below w.heap.size w w'
set_option maxRecDepth 100000 in
theorem list_any (p : Nat → Bool) (w : World) : Calls Try.prog 32 #[sv p] w (LiPost w (listB p)) := by
  obtain ⟨i0, hi, hz0, hz1, hz2⟩ := info_parts info_u8
  refine (callsIn_wide (n := 5)).1 ?_
  have h1 : 1 ≤ 4 := by omega
  have hm : 1 ≤ 5 := by omega
  refine callsIn_of_wp_marks Try.func32 rfl trivial ?_ rfl
  simp only [Try.ntmps32, List.size_toArray, List.length_cons, List.length_nil, Nat.reduceAdd, Nat.reduceSub, Array.replicate_succ, Array.replicate_zero, List.push_toArray, List.append_toArray, List.nil_append, List.cons_append]
  have OO := Lib.hid (fun w => (callsIn_wide (n := 4)).2 (bytesOf_any p w))
  have g1 : SA ((w.alloc (setO p)).alloc (.cells #[.slice none 0 0] 22)) w.heap.size p := (SA.new w p).alloc _
  gi_wp2_with (first
    | (refine wpListIn_get rfl _ rfl _ rfl _ g1 ?_)
    | (refine ⟨trivial, ?_⟩; gi_at_call 48; refine (OO.out _).mono ?_; rintro e w' ⟨rfl, rfl⟩))
  obtain ⟨W, hW⟩ : ∃ W, W = ((w.alloc (setO p)).alloc (.cells #[.slice none 0 0] 22)).alloc (setO p) := ⟨_, rfl⟩
  have hbL : Below w.heap.size w W := by rw [hW]; exact (((Below.refl _ w).alloc (Nat.le_refl _) _).alloc (by simp) _).alloc (by simp; omega) _
  have hsL : W.heap.size = w.heap.size + 3 := by rw [hW]; simp
  have bO : Boxed W (w.heap.size + 1) 22 (.slice none 0 0) := by
    have := (Boxed.new (w.alloc (setO p)) 22 (.slice none 0 0)).alloc (setO p)
    rw [World.size_alloc] at this
    rw [hW]; exact this
  have bN : SA W (w.heap.size + 1 + 1) p := by rw [hW]; exact SA.new' _ p _ (by simp)
  have hit := bytes_iter (n := 4) (by omega) bN
  rw [← hW]
  clear hW OO g1
  refine RX.rangeOk rfl hm (gf := 52) (lb := #[.pointer (some ⟨w.heap.size + 1 + 1, 0, none⟩)]) rfl trivial (enters_of Try.func52 (by kernel_rfl) rfl)
    hit Kp.trans (fun W' l o o' hl h hc => ?kb) (Below.refl _ _) (fun _ => rfl) (LiI w p) (by rw [hsL]; exact LiI.from w p) ⟨⟨_, bO, World.ownsRow_nil _ _ _ _⟩, bN, hbL⟩
    (fun x => { tmps := #[sv p, .pointer (some ⟨w.heap.size, 0, none⟩), .slice none 0 0, .pointer (some ⟨w.heap.size + 1, 0, none⟩), .int .u8 (x : Int), sv p, .func (.func 52) #[] #[.pointer (some ⟨w.heap.size + 1 + 1, 0, none⟩)], .int .u8 (x : Int), undef, undef, undef, undef, undef], defers := [] }) ?assign ?body ?done
  case kb => exact World.putObj_heap_other (by omega)
  case assign =>
    intro l x W K hK
    rw [show (#[7] : Array Tmp).zip (encC x) = #[(7, .int .u8 (x : Int))] from by simp [encC]]
    gi_wp2
    exact hK
  case body =>
    rintro l pre x W ⟨⟨v, hv1, hrow⟩, h2, hB⟩ hok
    have hc := hv1.cell
    have hpl := okB_len hok
    have hBs := hB.size
    have hne2 := not_own (show W.heap[w.heap.size + 1 + 1]? = _ from h2) (by decide) hrow
    clear hok
    gi_wp2_with (gi_at_builtin; refine wpListIn_append_own _ rfl _ _ 22 rfl w.heap.size 5 i0 (.int .u8 0) 1 1 Try.underlying22 hi hz0 hz1 hz2 rfl (by decide) _ _ _ rfl (hrow.alloc _) ⟨W.heap.size, 0, none⟩ 1 1 [.int .u8 (x : Int)] rfl rfl (cell_one_new _ _ _) (by simp [Value.oneCell']) (by simp only [maxLen]; omega) (by omega) (by simp; omega) ?_; intro v' w1 hown' hgrow _; obtain ⟨g', cap', rfl⟩ := ownsRow_succ hown'; obtain ⟨hv1', hv2, hr2, hk2, hb2⟩ := hv1.appended (by decide) hrow hBs (by omega) hown' hgrow; have hb3 := (h2.alloc _).grown hgrow hne2; have hc1 := hv1'.cell; have hf1 := hv1'.frozen)
    refine ⟨hk2.from _, ?_, ⟨_, hv2, ?_⟩, ?_, hB.trans hb2⟩
    · exact (Below.heap_setCell _ _ _ _ (by simp)).trans (hb3.trans (show W.heap[w.heap.size + 1 + 1]? = _ from h2).symm)
    · rw [List.length_append, List.map_append]
      exact hr2
    · exact (Below.heap_setCell _ _ _ _ (by simp)).trans hb3
  case done =>
    rintro D ys W hD rfl ⟨⟨v, hv1, hrow⟩, h2, hB⟩ hK
    have hc := hv1.cell
    gi_wp2
    refine ⟨by simp, .inl ⟨_, _, rfl, run_takeDeferred hK, _, results_tmp rfl _ _ _, v, rfl, ?_, ?_⟩⟩
    · exact BR.own (ownsRow_putObj hrow (.deferred none) hK rfl) (listB_lt p)
    · exact hB.grown (grownBy_putObj' W D _) hB.size (fun k e => by cases e; omega)
end Go.Proofs.Ytedbhjladpfafaa
