/- Layer 4: All, Find. -/
import Derived.Test.YtnpfdnpklopnkaaFG
namespace Go.Proofs.Ytnpfdnpklopnkaa
open Go.RowKit Go.Shelf
attribute [local go_sem] Oper.semAt_some
/-- A slice of numbers in memory. -/
def NR (W : World) (v : Value) (xs : List Nat) : Prop :=
  ∃ p c, v = .slice p xs.length c ∧ xs.length ≤ c ∧ ∀ i x, xs[i]? = some x → ∃ b o, p = some ⟨b, o, none⟩ ∧ W.cell? ⟨b, o + i, none⟩ = some (.int .i64 (x : Nat))
theorem NR.below {w w' : World} {v : Value} {xs : List Nat} (h : NR w v xs) (hb : Below w.heap.size w w') : NR w' v xs := by
  obtain ⟨p, c, rfl, hc, hx⟩ := h
  refine ⟨p, c, rfl, hc, fun i x hi => ?_⟩
  obtain ⟨b, o, rfl, hcell⟩ := hx i x hi
  exact ⟨b, o, rfl, (hb.cell (p := ⟨b, o + i, none⟩) (block_lt_of_cell hcell)).trans hcell⟩
theorem NR.form {W : World} {v : Value} {xs : List Nat} (h : NR W v xs) (hn : 0 < xs.length) : ∃ b o c, v = .slice (some ⟨b, o, none⟩) xs.length c ∧ b < W.heap.size ∧ ∀ i x, xs[i]? = some x → W.cell? ⟨b, o + i, none⟩ = some (.int .i64 (x : Nat)) := by
  obtain ⟨p, c, rfl, hc, hx⟩ := h
  obtain ⟨b, o, rfl, h0⟩ := hx 0 xs[0] (List.getElem?_eq_getElem hn)
  refine ⟨b, o, c, rfl, block_lt_of_cell h0, fun i x hi => ?_⟩
  obtain ⟨b', o', e, h⟩ := hx i x hi
  cases e; exact h
theorem NR.nil (W : World) : NR W (.slice none 0 0) [] := ⟨none, 0, rfl, Nat.le_refl _, fun i x hi => by simp at hi⟩
def i64n (x : Nat) : Value := .int .i64 (x : Int)
theorem NR.own {W : World} {B : Nat} {v : Value} {xs : List Nat} (h : W.ownsRow B 3 1 v xs.length (xs.map i64n)) : NR W v xs := by
  rcases h.2 with ⟨rfl, h0⟩ | ⟨g, cap, cur, rfl, _, hgb, hn, _⟩
  · have : xs = [] := List.eq_nil_of_length_eq_zero (by simpa using h0)
    subst this
    exact NR.nil W
  · refine ⟨_, cap, rfl, hn, fun i x hi => ⟨g, 0, rfl, ?_⟩⟩
    rw [Nat.zero_add, World.ownsRow.cellAt h i (by simpa using (List.getElem?_eq_some_iff.1 hi).1), List.getElem?_map, hi]
    rfl
theorem info_i64 : (Try.prog.info? 3).map (fun i => (i.zero, i.size, i.bytes)) = some (some (.int .i64 0), 1, 8) := by kernel_rfl
/-- What All returns. -/
def allE (t s : ByteArray) : Int := if longB t s then 3 else 0
def allL (t s : ByteArray) : List Nat := if longB t s then [] else placesL t s
def AllPost (w : World) (t s : ByteArray) (e : Ending) (w' : World) : Prop := ∃ v, e = .returned (.tuple #[v, .int .i64 (allE t s)]) ∧ NR w' v (allL t s) ∧ Below w.heap.size w w'
def AlI (w : World) (vt vs : Value) (pre : List Nat) (W : World) : Prop :=
  (∃ v, Boxed W w.heap.size 41 v ∧ W.ownsRow w.heap.size 3 1 v pre.length (pre.map i64n)) ∧ Boxed W (w.heap.size + 1) 9 vt ∧ Boxed W (w.heap.size + 1 + 1) 9 vs ∧ Below w.heap.size w W
theorem AlI.from (w : World) (vt vs : Value) : OwnFrom (w.heap.size + 3) (AlI w vt vs) := by
  intro s W W' row ⟨⟨v, h1, hr1⟩, h2, h2', h3⟩ hg hr
  exact ⟨⟨v, boxed_from h1 hg hr, own_from hr1 hg hr⟩, boxed_from h2 hg hr, boxed_from h2' hg hr, h3.grown hg h3.size (fun k e => by have := (hr k e).1; omega)⟩
theorem placesL_len (t s : ByteArray) : (placesL t s).length ≤ t.size + 1 := by
  unfold placesL
  have := List.length_filter_le (atB t s) (List.range (t.size + 1 - s.size))
  rw [List.length_range] at this; omega
theorem results_tmp2' {fn : Func} {p q : Tmp} (h : fn.results = #[.tmp p, .tmp q]) (tmps : Array Value) (w : World) : (results fn tmps).run Try.prog w = .ok (.tuple #[tmps.getD p undef, tmps.getD q undef]) w := by
  simp [results, h]
set_option maxRecDepth 100000 in
theorem all_any (t s : ByteArray) (w : World) (ht : t.size ≤ 1000000000) (hs : s.size ≤ 1000000000) : Calls Try.prog 35 #[.string t, .string s] w (AllPost w t s) := by
  have TL := tooLong_any t s w ht hs
  rcases hlb : longB t s with _ | _
  · rw [hlb] at TL
    have R := Lib.hid (show allL t s = placesL t s by unfold allL; rw [hlb]; rfl)
    have E := Lib.hid (show allE t s = 0 by unfold allE; rw [hlb]; rfl)
    clear hlb
    obtain ⟨i0, hi, hz0, hz1, hz2⟩ := info_parts info_i64
    refine (callsIn_wide (n := 5)).1 ?_
    have h1 : 1 ≤ 4 := by omega
    have hm : 1 ≤ 5 := by omega
    refine callsIn_of_wp_marks Try.func35 rfl trivial ?_ rfl
    simp only [Try.ntmps35, List.size_toArray, List.length_cons, List.length_nil, Nat.reduceAdd, Nat.reduceSub, Array.replicate_succ, Array.replicate_zero, List.push_toArray, List.append_toArray, List.nil_append, List.cons_append]
    have CC := Lib.hid ((callsIn_wide (n := 4)).2 TL)
    have OO := Lib.hid (fun w => (callsIn_wide (n := 4)).2 (places_any t s w))
    clear TL
    gi_wp2_with (first
      | (refine ⟨trivial, ?_⟩; gi_at_call 56; refine CC.out.mono ?_; rintro e w' ⟨rfl, rfl⟩)
      | (refine ⟨trivial, ?_⟩; gi_at_call 57; refine (OO.out _).mono ?_; rintro e w' ⟨rfl, rfl⟩))
    obtain ⟨wL, hwL⟩ : ∃ wL, wL = ((w.alloc (.cells #[.slice none 0 0] 41)).alloc (.cells #[.string t] 9)).alloc (.cells #[.string s] 9) := ⟨_, rfl⟩
    have hbL : Below w.heap.size w wL := by rw [hwL]; exact (((Below.refl _ w).alloc (Nat.le_refl _) _).alloc (by simp) _).alloc (by simp <;> omega) _
    have hsL : wL.heap.size = w.heap.size + 3 := by rw [hwL]; simp
    have bO : Boxed wL w.heap.size 41 (.slice none 0 0) := by rw [hwL]; exact ((Boxed.new w _ _).alloc _).alloc _
    have bT : Boxed wL (w.heap.size + 1) 9 (.string t) := by
      have := (Boxed.new (w.alloc (.cells #[.slice none 0 0] 41)) 9 (.string t)).alloc (.cells #[.string s] 9)
      rw [World.size_alloc] at this
      rw [hwL]; exact this
    have bS : Boxed wL (w.heap.size + 1 + 1) 9 (.string s) := by
      have := Boxed.new ((w.alloc (.cells #[.slice none 0 0] 41)).alloc (.cells #[.string t] 9)) 9 (.string s)
      rw [World.size_alloc, World.size_alloc] at this
      rw [hwL]; exact this
    have hit := places_iter (n := 4) (w := wL) (by omega) ht hs bT bS
    rw [← hwL]
    have hlen := placesL_len t s
    clear hwL CC OO
    refine wpIn_rangeFunc_ownG rfl hm (gf := 69) (lb := #[.pointer (some ⟨w.heap.size + 1, 0, none⟩), .pointer (some ⟨w.heap.size + 1 + 1, 0, none⟩)]) rfl trivial (enters_of Try.func69 (by kernel_rfl) rfl)
      hit KpS.trans (fun W l o o' hl _ _ _ => ⟨World.putObj_heap_other (by omega), World.putObj_heap_other (by omega)⟩) (Below.refl _ _) (fun _ => rfl) (AlI w (.string t) (.string s)) (fun _ _ _ => False)
      (by rw [hsL]; exact AlI.from w _ _) (fun _ _ _ _ _ hs _ _ => hs) ⟨⟨_, bO, World.ownsRow_nil _ _ _ _⟩, bT, bS, hbL⟩
      (fun x => { tmps := #[.string t, .string s, undef, undef, .slice none 0 0, .int .i64 0, .pointer (some ⟨w.heap.size, 0, none⟩), .int .i64 (x : Int), .string t, .string s, .bool false, .string t, .string s, .func (.func 69) #[] #[.pointer (some ⟨w.heap.size + 1, 0, none⟩), .pointer (some ⟨w.heap.size + 1 + 1, 0, none⟩)], .int .i64 (x : Int), undef, undef, undef, undef, undef], defers := [] }) ?assign ?body ?done ?stop
    case assign =>
      intro l x W K hK
      rw [show (#[14] : Array Tmp).zip (encN x) = #[(14, .int .i64 (x : Int))] from by simp [encN]]
      gi_wp2
      exact hK
    case body =>
      rintro l pre x W ⟨⟨v, hv1, hrow⟩, h2, h3, hB⟩ hlt
      have hc := hv1.cell
      have hpl : pre.length < 1000000001 := by omega
      have hBs := hB.size
      have hne2 := h2.not_row (by decide) hrow
      have hne3 := h3.not_row (by decide) hrow
      gi_wp2_with (gi_at_builtin; refine wpListIn_append_own _ rfl _ _ 41 rfl w.heap.size 3 i0 (.int .i64 0) 1 8 Try.underlying41 hi hz0 hz1 hz2 rfl (by decide) _ _ _ rfl (hrow.alloc _) ⟨W.heap.size, 0, none⟩ 1 1 [.int .i64 (x : Int)] rfl rfl (cell_one_new _ _ _) (by simp [Value.oneCell']) (by simp only [maxLen]; omega) (by omega) (by simp; omega) ?_; intro v' w1 hown' hgrow _; obtain ⟨g', cap', rfl⟩ := ownsRow_succ hown'; obtain ⟨hv1', hv2, hr2, hk2, hb2⟩ := hv1.appended (by decide) hrow hBs (Nat.le_refl _) hown' hgrow; have hb3 := ((h2.alloc _).kept hgrow hne2); have hb4 := ((h3.alloc _).kept hgrow hne3); have hc1 := hv1'.cell; have hf1 := hv1'.frozen)
      have q2 := (Below.heap_setCell w1 ⟨w.heap.size, 0, none⟩ (.slice (some ⟨g', 0, none⟩) (pre.length + 1) cap') (w.heap.size + 1) (by simp)).trans hb3
      have q3 := (Below.heap_setCell w1 ⟨w.heap.size, 0, none⟩ (.slice (some ⟨g', 0, none⟩) (pre.length + 1) cap') (w.heap.size + 1 + 1) (by simp; omega)).trans hb4
      refine ⟨hk2.from _, ⟨q2.trans (show W.heap[w.heap.size + 1]? = _ from h2).symm, q3.trans (show W.heap[w.heap.size + 1 + 1]? = _ from h3).symm⟩, ⟨_, hv2, ?_⟩, q2, q3, hB.trans hb2⟩
      rw [List.length_append, List.map_append]
      exact hr2
    case done =>
      rintro D ys W hD rfl ⟨⟨v, hv1, hrow⟩, h2, h3, hB⟩ hK
      have hc := hv1.cell
      gi_wp2
      refine ⟨by simp, .inl ⟨_, _, rfl, run_takeDeferred hK, _, results_tmp2' rfl _ _, v, by rw [E.out]; rfl, ?_, ?_⟩⟩
      · rw [R.out]
        exact NR.own (ownsRow_putObj hrow (.deferred none) hK rfl)
      · exact hB.grown (grownBy_putObj' W D _) hB.size (fun k e => by cases e; omega)
    case stop =>
      rintro D c pre W _ _ h _
      exact h.elim
  · rw [hlb] at TL
    have R := Lib.hid (show allL t s = [] by unfold allL; rw [hlb]; rfl)
    have E := Lib.hid (show allE t s = 3 by unfold allE; rw [hlb]; rfl)
    have CC := Lib.hid TL
    clear hlb TL
    go_enter Try.func35, Try.ntmps35
    go_wp2_with (go_at_call 56; refine CC.out.mono ?_; rintro e w' ⟨rfl, rfl⟩)
    go_ret2
    exact ⟨_, by rw [E.out]; rfl, by rw [R.out]; exact NR.nil _, Below.refl _ _⟩
/-- What Find returns. -/
def findV (t s : ByteArray) : Nat × Int := if longB t s then (0, 3) else match placesL t s with
  | [] => (0, 4)
  | x :: _ => (x, 0)
def FindPost (w : World) (t s : ByteArray) (e : Ending) (w' : World) : Prop := e = .returned (.tuple #[.int .i64 ((findV t s).1 : Int), .int .i64 (findV t s).2]) ∧ Below w.heap.size w w'
theorem results_cells2 {fn : Func} {p q : Tmp} (h : fn.results = #[.cell p 3, .cell q 32]) (tmps : Array Value) (w : World) {b1 b2 : Nat} {v1 v2 : Value} (hp : tmps[p]?.getD undef = .pointer (some ⟨b1, 0, none⟩)) (hq : tmps[q]?.getD undef = .pointer (some ⟨b2, 0, none⟩))
    (h1 : w.cell? ⟨b1, 0, none⟩ = some v1) (h2 : w.cell? ⟨b2, 0, none⟩ = some v2) : (results fn tmps).run Try.prog w = .ok (.tuple #[v1, v2]) w := by
  simp only [results, h]
  have u1 := Try.underlying3
  have u2 := Try.underlying32
  simp [Sem.run_bind, Result.andThen, loadVar, hp, hq, go_sem, h1, h2, isAgg]
/-- The two cells of results. -/
def FiC (w : World) (x : Nat) (e : Int) (W : World) : Prop := Boxed W w.heap.size 3 (.int .i64 (x : Int)) ∧ Boxed W (w.heap.size + 1) 32 (.int .i64 e) ∧ Below w.heap.size w W
def FiI (w : World) (pre : List Nat) (W : World) : Prop := pre = [] ∧ FiC w 0 0 W
def FiX (w : World) (c : Code) (pre : List Nat) (W : World) : Prop := c = .ret ∧ ∃ x, pre = [x] ∧ FiC w x 0 W
theorem FiC.from {w W W' : World} {x : Nat} {e : Int} {row : Option Nat} (h : FiC w x e W) (hg : W.grownBy W' row) (hr : ∀ r, row = some r → w.heap.size + 4 ≤ r ∧ ∃ o : Obj, W.heap[r]? = some o ∧ o.isCells = false) : FiC w x e W' :=
  ⟨boxed_from h.1 hg hr, boxed_from h.2.1 hg hr, h.2.2.grown hg h.2.2.size (fun k e => by have := (hr k e).1; omega)⟩
theorem FiI.from (w : World) : OwnFrom (w.heap.size + 4) (FiI w) := fun _ _ _ _ h hg hr => ⟨h.1, h.2.from hg hr⟩
theorem FiX.from (w : World) (c : Code) : OwnFrom (w.heap.size + 4) (FiX w c) := fun _ _ _ _ h hg hr => ⟨h.1, let ⟨x, e, hc⟩ := h.2; ⟨x, e, hc.from hg hr⟩⟩
theorem FiC.put {w W : World} {x : Nat} {e : Int} (h : FiC w x e W) (y : Nat) (e' : Int) : FiC w y e' ((W.setCell ⟨w.heap.size, 0, none⟩ (.int .i64 (y : Int))).setCell ⟨w.heap.size + 1, 0, none⟩ (.int .i64 e')) := by
  refine ⟨(h.1.set _).other (by omega) _, (h.2.1.other (by omega) _).set _, (h.2.2.setCell (p := ⟨w.heap.size, 0, none⟩) (Nat.le_refl _) _).setCell (p := ⟨w.heap.size + 1, 0, none⟩) (by simp) _⟩
theorem FiC.cells {w W : World} {x : Nat} {e : Int} (h : FiC w x e W) : W.cell? ⟨w.heap.size, 0, none⟩ = some (.int .i64 (x : Int)) ∧ W.frozen? ⟨w.heap.size, 0, none⟩ = false ∧ W.cell? ⟨w.heap.size + 1, 0, none⟩ = some (.int .i64 e) ∧ W.frozen? ⟨w.heap.size + 1, 0, none⟩ = false :=
  ⟨h.1.cell, h.1.frozen, h.2.1.cell, h.2.1.frozen⟩
theorem FiC.new (w : World) (e : Int) : FiC w 0 e ((w.alloc (.cells #[.int .i64 0] 3)).alloc (.cells #[.int .i64 e] 32)) := by
  refine ⟨(Boxed.new w _ _).alloc _, ?_, ((Below.refl _ w).alloc (Nat.le_refl _) _).alloc (by simp) _⟩
  have := Boxed.new (w.alloc (.cells #[.int .i64 0] 3)) 32 (.int .i64 e)
  rwa [World.size_alloc] at this
theorem FiC.alloc {w W : World} {x : Nat} {e : Int} (h : FiC w x e W) (o : Obj) : FiC w x e (W.alloc o) := ⟨h.1.alloc o, h.2.1.alloc o, h.2.2.alloc h.2.2.size o⟩
theorem FiC.keeps {B b : Nat} {W : World} (v u : Value) (hb : b + 1 < B) : KeepsFrom B W ((W.setCell ⟨b, 0, none⟩ v).setCell ⟨b + 1, 0, none⟩ u) :=
  (KeepsFrom.of_grownBy (grownBy_setCell' W b v) (fun j e => by cases e; omega)).trans (KeepsFrom.of_grownBy (grownBy_setCell' _ (b + 1) u) (fun j e => by cases e; omega))
theorem FiC.laid {w W : World} {x D : Nat} {e : Int} (h : FiC w x e W) (hK : W.heap[D]? = some (.deferred (some []))) (hD : w.heap.size + 4 ≤ D) : FiC w x e (W.putObj D (.deferred none)) :=
  h.from (grownBy_putObj' W D _) (fun r e => by cases e; exact ⟨hD, _, hK, rfl⟩)
set_option maxRecDepth 100000 in
theorem find_any (t s : ByteArray) (w : World) (ht : t.size ≤ 1000000000) (hs : s.size ≤ 1000000000) : Calls Try.prog 33 #[.string t, .string s] w (FindPost w t s) := by
  have TL := tooLong_any t s ((w.alloc (.cells #[.int .i64 0] 3)).alloc (.cells #[.int .i64 0] 32)) ht hs
  rcases hlb : longB t s with _ | _
  · rw [hlb] at TL
    have R := Lib.hid (show findV t s = match placesL t s with | [] => (0, 4) | x :: _ => (x, 0) by unfold findV; rw [hlb]; rfl)
    clear hlb
    refine (callsIn_wide (n := 5)).1 ?_
    have h1 : 1 ≤ 4 := by omega
    have hm : 1 ≤ 5 := by omega
    refine callsIn_of_wp_marks Try.func33 rfl trivial ?_ rfl
    simp only [Try.ntmps33, List.size_toArray, List.length_cons, List.length_nil, Nat.reduceAdd, Nat.reduceSub, Array.replicate_succ, Array.replicate_zero, List.push_toArray, List.append_toArray, List.nil_append, List.cons_append]
    have CC := Lib.hid ((callsIn_wide (n := 4)).2 TL)
    have OO := Lib.hid (fun w => (callsIn_wide (n := 4)).2 (places_any t s w))
    clear TL
    gi_wp2_with (first
      | (refine ⟨trivial, ?_⟩; gi_at_call 56; refine CC.out.mono ?_; rintro e w' ⟨rfl, rfl⟩)
      | (refine ⟨trivial, ?_⟩; gi_at_call 57; refine (OO.out _).mono ?_; rintro e w' ⟨rfl, rfl⟩))
    obtain ⟨wL, hwL⟩ : ∃ wL, wL = (((w.alloc (.cells #[.int .i64 0] 3)).alloc (.cells #[.int .i64 0] 32)).alloc (.cells #[.string t] 9)).alloc (.cells #[.string s] 9) := ⟨_, rfl⟩
    have hF : FiC w 0 0 wL := by rw [hwL]; exact ((FiC.new w 0).alloc _).alloc _
    have hsL : wL.heap.size = w.heap.size + 4 := by rw [hwL]; simp
    have bT : Boxed wL (w.heap.size + 1 + 1) 9 (.string t) := by
      have := (Boxed.new ((w.alloc (.cells #[.int .i64 0] 3)).alloc (.cells #[.int .i64 0] 32)) 9 (.string t)).alloc (.cells #[.string s] 9)
      rw [World.size_alloc, World.size_alloc] at this
      rw [hwL]; exact this
    have bS : Boxed wL (w.heap.size + 1 + 1 + 1) 9 (.string s) := by
      have := Boxed.new (((w.alloc (.cells #[.int .i64 0] 3)).alloc (.cells #[.int .i64 0] 32)).alloc (.cells #[.string t] 9)) 9 (.string s)
      rw [World.size_alloc, World.size_alloc, World.size_alloc] at this
      rw [hwL]; exact this
    have hit := places_iter (n := 4) (w := wL) (by omega) ht hs bT bS
    rw [← hwL]
    clear hwL CC OO
    refine wpIn_rangeFunc_ownG rfl hm (gf := 69) (lb := #[.pointer (some ⟨w.heap.size + 1 + 1, 0, none⟩), .pointer (some ⟨w.heap.size + 1 + 1 + 1, 0, none⟩)]) rfl trivial (enters_of Try.func69 (by kernel_rfl) rfl)
      hit KpS.trans (fun W l o o' hl _ _ _ => ⟨World.putObj_heap_other (by omega), World.putObj_heap_other (by omega)⟩) (Below.refl _ _) (fun _ => rfl) (FiI w) (FiX w)
      (by rw [hsL]; exact FiI.from w) (fun c => by rw [hsL]; exact FiX.from w c) ⟨rfl, hF⟩
      (fun x => { tmps := #[.string t, .string s, undef, undef, .pointer (some ⟨w.heap.size, 0, none⟩), .pointer (some ⟨w.heap.size + 1, 0, none⟩), .int .i64 (x : Int), .string t, .string s, .bool false, .string t, .string s, .func (.func 69) #[] #[.pointer (some ⟨w.heap.size + 1 + 1, 0, none⟩), .pointer (some ⟨w.heap.size + 1 + 1 + 1, 0, none⟩)], .int .i64 (x : Int), undef], defers := [] }) ?assign ?body ?done ?stop
    case assign =>
      intro l x W K hK
      rw [show (#[13] : Array Tmp).zip (encN x) = #[(13, .int .i64 (x : Int))] from by simp [encN]]
      gi_wp2
      exact hK
    case body =>
      rintro l pre x W ⟨rfl, hC⟩ hlt
      obtain ⟨q1, q2, q3, q4⟩ := hC.cells
      have F1 := Lib.hid (hC.put x 0)
      have KF := Lib.hid (FiC.keeps (B := wL.heap.size) (b := w.heap.size) (W := W) (.int .i64 (x : Int)) (.int .i64 0) (by omega))
      clear hC
      gi_wp2
      exact ⟨KF.out, rfl, x, rfl, F1.out⟩
    case done =>
      rintro D ys W hD rfl ⟨hnil, hC⟩ hK
      obtain ⟨q1, q2, q3, q4⟩ := hC.cells
      have F1 := Lib.hid (hC.put 0 4)
      have RV := Lib.hid (show findV t s = (0, 4) by rw [R.out, hnil])
      have HK := Lib.hid (show ((W.setCell ⟨w.heap.size, 0, none⟩ (.int .i64 ((0 : Nat) : Int))).setCell ⟨w.heap.size + 1, 0, none⟩ (.int .i64 4)).heap[D]? = some (.deferred (some [])) by
        rw [Below.heap_setCell _ _ _ _ (show D ≠ w.heap.size + 1 by omega), Below.heap_setCell _ _ _ _ (show D ≠ w.heap.size by omega)]; exact hK)
      clear hC hK hnil
      gi_wp2
      have F2 := F1.out.laid HK.out (by omega)
      refine ⟨by simp, .inl ⟨_, _, rfl, run_takeDeferred HK.out, _, results_cells2 rfl _ _ rfl rfl F2.cells.1 F2.cells.2.2.1, by rw [RV.out], F2.2.2⟩⟩
    case stop =>
      rintro D c pre W hD ⟨rest, hrest⟩ ⟨rfl, x, rfl, hC⟩ hK
      have RV := Lib.hid (show findV t s = (x, 0) by rw [R.out, hrest]; rfl)
      gi_wp2
      have F2 := hC.laid hK (by omega)
      refine ⟨by simp, .inl ⟨_, _, rfl, run_takeDeferred hK, _, results_cells2 rfl _ _ rfl rfl F2.cells.1 F2.cells.2.2.1, by rw [RV.out], F2.2.2⟩⟩
  · rw [hlb] at TL
    have R := Lib.hid (show findV t s = (0, 3) by unfold findV; rw [hlb]; rfl)
    have CC := Lib.hid TL
    clear hlb TL
    have F1 := FiC.new w 3
    obtain ⟨q1, q2, q3, q4⟩ := F1.cells
    obtain ⟨p1, p2, p3, p4⟩ := (FiC.new w 0).cells
    have FB := Lib.hid F1.2.2
    clear F1
    go_enter Try.func33, Try.ntmps33
    go_wp2_with (go_at_call 56; refine CC.out.mono ?_; rintro e w' ⟨rfl, rfl⟩)
    refine bodyPost_ret (v := .tuple #[.int .i64 0, .int .i64 3]) (results_cells2 rfl _ _ rfl rfl q1 q3) rfl ⟨by rw [R.out]; rfl, FB.out⟩
end Go.Proofs.Ytnpfdnpklopnkaa
