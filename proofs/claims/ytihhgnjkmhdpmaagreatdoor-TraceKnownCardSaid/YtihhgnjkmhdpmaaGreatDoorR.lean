/- Print. -/
import Derived.Test.YtihhgnjkmhdpmaaGreatDoorQ
namespace Go.Proofs.YtihhgnjkmhdpmaaGreatDoor
open Go.RowKit Go.Shelf
attribute [local go_sem] Oper.semAt_some
theorem block_lt_of_cell {w : World} {b o : Nat} {v : Value} (h : w.cell? ⟨b, o, none⟩ = some v) : b < w.heap.size := by
  rcases Nat.lt_or_ge b w.heap.size with h' | h'
  · exact h'
  · simp [World.cell?, Array.getElem?_eq_none h'] at h
theorem boxed_from {W W' : World} {row : Option Nat} {B t n0 : Nat} {v : Value} (h : Boxed W B t v) (hg : W.grownBy W' row) (hr : ∀ r, row = some r → n0 ≤ r ∧ ∃ o : Obj, W.heap[r]? = some o ∧ o.isCells = false) : Boxed W' B t v := by
  refine h.kept hg (fun e => ?_)
  obtain ⟨_, o, ho, hc⟩ := hr B e.symm
  rw [show W.heap[B]? = _ from h] at ho
  cases ho; cases hc
theorem results_cells2 {fn : Func} {p q : Tmp} (h : fn.results = #[.cell p 9, .cell q 25]) (tmps : Array Value) (w : World) {b1 b2 : Nat} {v1 v2 : Value} (hp : tmps[p]?.getD undef = .pointer (some ⟨b1, 0, none⟩)) (hq : tmps[q]?.getD undef = .pointer (some ⟨b2, 0, none⟩))
    (h1 : w.cell? ⟨b1, 0, none⟩ = some v1) (h2 : w.cell? ⟨b2, 0, none⟩ = some v2) : (results fn tmps).run Tryz.prog w = .ok (.tuple #[v1, v2]) w := by
  simp only [results, h]
  have u1 := Tryz.underlying9
  have u2 := Tryz.underlying25
  simp [Sem.run_bind, Result.andThen, loadVar, hp, hq, go_sem, h1, h2, isAgg]
/-- The two cells of results. -/
def PrC (w : World) (T : List UInt8) (e : Int) (W : World) : Prop := Boxed W w.heap.size 9 (.string ⟨T.toArray⟩) ∧ Boxed W (w.heap.size + 1) 25 (.int .i64 e) ∧ Below w.heap.size w W
def PrPost (w : World) (T : List UInt8) (E : Int) (e : Ending) (w' : World) : Prop := e = .returned (.tuple #[.string ⟨T.toArray⟩, .int .i64 E]) ∧ Below w.heap.size w w'
section
variable {w W W' : World} {T : List UInt8} {e : Int}
theorem PrC.new (w : World) (T : List UInt8) (e : Int) : PrC w T e ((w.alloc (.cells #[.string ⟨T.toArray⟩] 9)).alloc (.cells #[.int .i64 e] 25)) := by
  refine ⟨(Boxed.new w _ _).alloc _, ?_, ((Below.refl _ w).alloc (Nat.le_refl _) _).alloc (by simp) _⟩
  have := Boxed.new (w.alloc (.cells #[.string ⟨T.toArray⟩] 9)) 25 (.int .i64 e)
  rwa [World.size_alloc] at this
theorem PrC.to (h : PrC w T e W) (h1 : W'.heap[w.heap.size]? = W.heap[w.heap.size]?) (h2 : W'.heap[w.heap.size + 1]? = W.heap[w.heap.size + 1]?) (hb : Below w.heap.size w W') : PrC w T e W' := ⟨h1.trans h.1, h2.trans h.2.1, hb⟩
theorem PrC.below (h : PrC w T e W) {n : Nat} (hb : Below n W W') (hn : w.heap.size + 2 ≤ n) : PrC w T e W' :=
  h.to (hb.block _ (by omega)) (hb.block _ (by omega)) (h.2.2.trans (hb.mono (by omega)))
theorem PrC.cells (h : PrC w T e W) : W.cell? ⟨w.heap.size, 0, none⟩ = some (.string ⟨T.toArray⟩) ∧ W.frozen? ⟨w.heap.size, 0, none⟩ = false ∧ W.cell? ⟨w.heap.size + 1, 0, none⟩ = some (.int .i64 e) ∧ W.frozen? ⟨w.heap.size + 1, 0, none⟩ = false :=
  ⟨h.1.cell, h.1.frozen, h.2.1.cell, h.2.1.frozen⟩
theorem PrC.put (h : PrC w T e W) (T' : List UInt8) (e' : Int) : PrC w T' e' ((W.setCell ⟨w.heap.size, 0, none⟩ (.string ⟨T'.toArray⟩)).setCell ⟨w.heap.size + 1, 0, none⟩ (.int .i64 e')) :=
  ⟨(h.1.set _).other (by omega) _, (h.2.1.other (by omega) _).set _, (h.2.2.setCell (p := ⟨w.heap.size, 0, none⟩) (Nat.le_refl _) _).setCell (p := ⟨w.heap.size + 1, 0, none⟩) (by simp) _⟩
theorem PrC.lt (h : PrC w T e W) : w.heap.size + 2 ≤ W.heap.size := by have := h.2.1.lt; omega
end
theorem own_from {W W' : World} {row : Option Nat} {B n0 k size : Nat} {e : TypeId} {v : Value} {xs : List Value} (h : W.ownsRow B e size v k xs) (hg : W.grownBy W' row) (hr : ∀ r, row = some r → n0 ≤ r ∧ ∃ o : Obj, W.heap[r]? = some o ∧ o.isCells = false) : W'.ownsRow B e size v k xs := by
  refine h.kept hg ?_
  rcases h.2 with ⟨rfl, _⟩ | ⟨g, cap, cur, rfl, _, hgb, _⟩
  · exact .inl rfl
  · refine .inr fun e' => ?_
    obtain ⟨_, o, ho, hc⟩ := hr g (by simpa [Value.ownBlock] using e'.symm)
    rw [hgb] at ho; cases ho; cases hc
theorem bat_from {W W' : World} {row : Option Nat} {T e : TypeId} {B b n0 : Nat} {p : Value} {bs : List Value} (h : Lib.BuilderAt T e B b p bs W) (hg : W.grownBy W' row) (hr : ∀ r, row = some r → n0 ≤ r ∧ ∃ o : Obj, W.heap[r]? = some o ∧ o.isCells = false) : Lib.BuilderAt T e B b p bs W' := by
  have hlt := h.lt
  obtain ⟨hB, v, hb, hown, hne⟩ := h
  refine ⟨hB, v, ?_, own_from hown hg hr, hne⟩
  refine (hg.block b hlt (fun e' => ?_)).trans hb
  obtain ⟨_, o, ho, hc⟩ := hr b e'.symm
  rw [hb] at ho; cases ho; cases hc
theorem bup_from {W W' : World} {row : Option Nat} {B b n0 : Nat} {l : List UInt8} (h : BuP B b l W) (hg : W.grownBy W' row) (hr : ∀ r, row = some r → n0 ≤ r ∧ ∃ o : Obj, W.heap[r]? = some o ∧ o.isCells = false) : BuP B b l W' :=
  h.elim (fun x => .inl (bat_from x hg hr)) (fun x => .inr (bat_from x hg hr))
theorem bup_blk {W : World} {B b : Nat} {l : List UInt8} (h : BuP B b l W) : ∃ cs, W.heap[b]? = some (.cells cs 51 (0, 0)) := by
  rcases h with ⟨_, v, hb, _⟩ | ⟨_, v, hb, _⟩ <;> exact ⟨_, hb⟩
/-- What the loop of Print keeps: s is where the builder lies. -/
structure PrI (w : World) (s : Nat) (v : Value) (pre : List GR) (W : World) : Prop where
  res : PrC w [] 0 W
  text : BuP s s (textL (valL pre)) W
  lines : Boxed W (s + 1) 3 (.int .i64 ((pre.length : Nat) : Int))
  box : Boxed W (s + 2) 22 v
  short : pre.length ≤ 5000
  lt : w.heap.size + 2 ≤ s
theorem PrI.from (w : World) (s : Nat) (v : Value) : OwnFrom (s + 3) (PrI w s v) := fun pre W W' row h hg hr =>
  ⟨⟨boxed_from h.res.1 hg hr, boxed_from h.res.2.1 hg hr, h.res.2.2.grown hg h.res.2.2.size (fun k e => by have := (hr k e).1; have := h.lt; omega)⟩, bup_from h.text hg hr, boxed_from h.lines hg hr, boxed_from h.box hg hr, h.short, h.lt⟩
def PrX (w : World) (c : Code) (pre : List GR) (W : World) : Prop := c = .ret ∧ 5000 < pre.length ∧ PrC w [] 3 W
theorem PrX.from (w : World) (n : Nat) (hn : w.heap.size ≤ n) (c : Code) : OwnFrom n (PrX w c) := fun pre W W' row h hg hr =>
  ⟨h.1, h.2.1, boxed_from h.2.2.1 hg hr, boxed_from h.2.2.2.1 hg hr, h.2.2.2.2.grown hg h.2.2.2.2.size (fun k e => by have := (hr k e).1; omega)⟩
/-- The round's own box. -/
def PrA (s : Nat) (fr : Value → Value → Act) (r : GR) (a : Act) (W : World) : Prop := ∃ g, s + 3 ≤ g ∧ W.heap[g]? = some (.cells #[.int .i64 r.val.k, .int .i64 r.val.a, .int .i64 (r.val.n : Int)] 56 (0, 0)) ∧ a = fr (.pointer (some ⟨g, 0, none⟩)) (runV r.val)
theorem PrA.from (s : Nat) (fr : Value → Value → Act) (r : GR) (a : Act) : OwnFrom (s + 3) (fun (_ : Unit) W => PrA s fr r a W) := fun _ W W' row ⟨g, h1, h2, h3⟩ hg hr => by
  refine ⟨g, h1, ?_, h3⟩
  refine (hg.block g (Array.getElem?_eq_some_iff.1 h2).1 (fun e => ?_)).trans h2
  obtain ⟨_, o, ho, hc⟩ := hr g e.symm
  rw [h2] at ho; cases ho; cases hc
theorem text_snoc (pre : List GR) (x : GR) : textL (valL pre) ++ lineL x.val = textL (valL (pre ++ [x])) := by
  unfold textL valL; simp
theorem line_len2 {r : Run} (h : r.good) : (lineL r).length ≤ 50 := by
  obtain ⟨hk, ha, hn, hs⟩ := h
  have h1 : (Lib.itoa r.a).length ≤ 21 := Lib.itoa_length_le _ (by omega) (by omega)
  have h2 : (Lib.itoa (r.n : Int)).length ≤ 21 := Lib.itoa_length_le _ (by omega) (by omega)
  have h3 : (wordL r.k).length ≤ 5 := by unfold wordL; split <;> decide
  unfold lineL bodyL
  simp only [List.length_append, List.length_cons, List.length_nil]
  omega
theorem text_len2 : ∀ (pre : List GR), (textL (valL pre)).length ≤ 50 * pre.length
  | [] => Nat.le_refl _
  | x :: t => by
    have h1 := line_len2 x.property
    have h2 := text_len2 t
    unfold textL valL at h2 ⊢
    rw [List.map_cons, List.flatMap_cons, List.length_append, List.length_cons]; omega
theorem bup_set {W : World} {s q : Nat} {l : List UInt8} {u v : Value} (h : BuP s s l W) (hB : Boxed W q 3 u) (hq : q ≠ s) : BuP s s l (W.setCell ⟨q, 0, none⟩ v) := by
  have key : ∀ {p : Value}, Lib.BuilderAt 51 5 s s p (Lib.byteCells l) W → Lib.BuilderAt 51 5 s s p (Lib.byteCells l) (W.setCell ⟨q, 0, none⟩ v) := fun h => by
    obtain ⟨hB', v', hb, hown, hne⟩ := h
    have hnr := hB.not_row (by decide) hown
    refine ⟨hB', v', (Below.heap_setCell _ _ _ _ (fun e => hq e.symm)).trans hb, hown.kept (grownBy_setCell' W q v) ?_, hne⟩
    rcases hown.2 with ⟨rfl, _⟩ | ⟨g, cap, cur, rfl, _⟩
    · exact .inl rfl
    · exact .inr (fun e => hnr e.symm)
  exact h.elim (fun x => .inl (key x)) (fun x => .inr (key x))
/-- What a round leaves: all but the builder, its buffer and the counter. -/
theorem round_keeps {w : World} {s b : Nat} {v : Value} {pre : List GR} {W Wb Wc : World} {j : Value} {l : List UInt8} (hI : PrI w s v pre W) (hb : b < s) (h1 : Below W.heap.size (W.setCell ⟨s + 1, 0, none⟩ j) Wb) (hbu : BuP s s l Wb)
    (h2 : Below s Wb Wc) (ho : ∀ i, i < Wb.heap.size → i ≠ s → (∀ cs fr, Wb.heap[i]? ≠ some (.cells cs 5 fr)) → Wc.heap[i]? = Wb.heap[i]?) :
    KeepsFrom (s + 3) W Wc ∧ KpR (s + 2) b W Wc ∧ PrC w [] 0 Wc ∧ Boxed Wc (s + 1) 3 j ∧ Boxed Wc (s + 2) 22 v := by
  have hs1 : ∀ i, i < W.heap.size → i ≠ s + 1 → Wb.heap[i]? = W.heap[i]? := fun i hi hne => (h1.block i hi).trans (Below.heap_setCell _ _ _ _ hne)
  have hsz : W.heap.size ≤ Wb.heap.size := by have := h1.size; simpa [World.setCell] using this
  have same : ∀ i, i < W.heap.size → i ≠ s → i ≠ s + 1 → (∀ cs fr, W.heap[i]? ≠ some (.cells cs 5 fr)) → Wc.heap[i]? = W.heap[i]? := fun i hi h3 h4 h5 =>
    (ho i (by omega) h3 (by rw [hs1 i hi h4]; exact h5)).trans (hs1 i hi h4)
  have hlb := hI.box.lt
  have hBW : Below s W Wc := ((Below.refl s W).setCell (p := ⟨s + 1, 0, none⟩) (by simp) j).trans ((h1.mono (by omega)).trans h2)
  have hsz2 : W.heap.size ≤ Wc.heap.size := hBW.size
  obtain ⟨cs0, htx⟩ := bup_blk hI.text
  have bln : Boxed Wc (s + 1) 3 j := by
    have e1 : Boxed (W.setCell ⟨s + 1, 0, none⟩ j) (s + 1) 3 j := hI.lines.set j
    have e2 : Boxed Wb (s + 1) 3 j := (h1.block _ (by omega)).trans e1
    refine (ho (s + 1) e2.lt (by omega) (fun cs fr h => ?_)).trans e2
    rw [show Wb.heap[s + 1]? = _ from e2] at h; cases h
  have bbx : Boxed Wc (s + 2) 22 v := (same (s + 2) hlb (by omega) (by omega) (fun cs fr h => by rw [show W.heap[s + 2]? = _ from hI.box] at h; cases h)).trans hI.box
  refine ⟨⟨hsz2, fun k o hk hko hoc => ?_⟩, ⟨fun i cs hi => ?_, ?_, hBW.block b hb⟩, hI.res.below hBW hI.lt, bln, bbx⟩
  · refine (same k (Array.getElem?_eq_some_iff.1 hko).1 (by omega) (by omega) (fun cs fr h => ?_)).trans hko
    rw [hko] at h; cases h; cases hoc
  · refine (same i (Array.getElem?_eq_some_iff.1 hi).1 (fun e => ?_) (fun e => ?_) (fun cs' fr h => ?_)).trans hi
    · subst e; rw [htx] at hi; cases hi
    · subst e; rw [show W.heap[s + 1]? = _ from hI.lines] at hi; cases hi
    · rw [hi] at h; cases h
  · rw [show Wc.heap[s + 2]? = _ from bbx, show W.heap[s + 2]? = _ from hI.box]
set_option maxHeartbeats 3200000 in
set_option maxRecDepth 100000 in
theorem print_any (v : Value) (l : List Ev) (w : World) (hv : TR w v l) (hl : l.length ≤ 100000000) (hp : P10 w) : Calls Tryz.prog 8 #[v] w (PrPost w (printT l) (printE l)) := by
  have hv2 := hv.below ((PrC.new w [] 0).2.2)
  have CH := Lib.hid (check_any v l 65536 _ hv2 hl)
  have HP := Lib.hid hp
  have HV := Lib.hid hv2
  have C0 := Lib.hid (PrC.new w [] 0)
  obtain ⟨p, c, rfl, _⟩ := hv.2
  by_cases hck : (checkP l 65536).2 = 0
  · obtain ⟨_, hl2, hgd, hcp⟩ := check_ok hck
    rw [hcp] at CH
    have EP := Lib.hid (show printE l = if 5000 < (runsL l).length then 3 else 0 by unfold printE; rw [if_pos hck])
    have HG := Lib.hid hgd
    refine (callsIn_wide (n := 5)).1 ?_
    have h1 : 1 ≤ 4 := by omega
    have hm : 1 ≤ 5 := by omega
    clear hck hcp hgd hv hv2 hp
    refine callsIn_of_wp_marks Tryz.func8 rfl trivial ?_ rfl
    simp only [Tryz.ntmps8, List.size_toArray, List.length_cons, List.length_nil, Nat.reduceAdd, Nat.reduceSub, Array.replicate_succ, Array.replicate_zero, List.push_toArray, List.append_toArray, List.nil_append, List.cons_append]
    have CC := Lib.hid ((callsIn_wide (n := 4)).2 CH.out)
    have OO := Lib.hid (fun w => (callsIn_wide (n := 4)).2 (runs_any p l.length c w))
    gi_wp2_with (first
      | (refine ⟨trivial, ?_⟩; gi_at_call 13; refine CC.out.mono ?_; rintro e w' ⟨rfl, hb⟩; have C1 := Lib.hid (C0.out.below hb C0.out.lt); have V1 := Lib.hid (HV.out.below hb); clear hb)
      | (refine ⟨trivial, ?_⟩; gi_at_call 20; refine (OO.out _).mono ?_; rintro e w'' ⟨rfl, rfl⟩))
    obtain ⟨s, hs⟩ : ∃ s, w'.heap.size = s := ⟨_, rfl⟩
    have hws : w.heap.size + 2 ≤ s := by have := C1.out.lt; omega
    obtain ⟨wL, hwL⟩ : ∃ wL, ((w'.alloc (.cells #[.pointer none, .slice none 0 0] 51)).alloc (.cells #[.int .i64 0] 3)).alloc (.cells #[.slice p l.length c] 22) = wL := ⟨_, rfl⟩
    have hbL : Below w'.heap.size w' wL := by rw [← hwL]; exact (((Below.refl _ w').alloc (Nat.le_refl _) _).alloc (by simp) _).alloc (by simp <;> omega) _
    have hsL : wL.heap.size = s + 3 := by rw [← hwL, ← hs]; simp
    have I0 : PrI w s (.slice p l.length c) [] wL := by
      refine ⟨C1.out.below hbL C1.out.lt, ?_, ?_, ?_, by simp, hws⟩
      · have h1 := Lib.fresh_isBuilder 51 5 w'
        rw [hs] at h1
        have h2 : BuP s s [] (w'.alloc (.cells #[.pointer none, .slice none 0 0] 51)) := h1
        rw [← hwL]
        exact bup_from (n0 := 0) (bup_from (n0 := 0) h2 (World.grownBy_alloc _ _ none) (fun r e => by cases e)) (World.grownBy_alloc _ _ none) (fun r e => by cases e)
      · have := (Boxed.new (w'.alloc (.cells #[.pointer none, .slice none 0 0] 51)) 3 (.int .i64 0)).alloc (.cells #[.slice p l.length c] 22)
        rw [World.size_alloc, hs] at this
        rw [← hwL]; exact this
      · have := Boxed.new ((w'.alloc (.cells #[.pointer none, .slice none 0 0] 51)).alloc (.cells #[.int .i64 0] 3)) 22 (.slice p l.length c)
        rw [World.size_alloc, World.size_alloc, hs] at this
        rw [← hwL]; exact this
    obtain ⟨b, hbs, hTb⟩ : ∃ b, b < s ∧ TRb wL b (.slice p l.length c) l := by
      by_cases hz : 0 < l.length
      · obtain ⟨b, hb1, hb2⟩ := V1.out.blk hz
        exact ⟨b, by omega, hb2.kept (hbL.block b hb1) hbL.size⟩
      · refine ⟨0, by omega, ?_⟩
        have : l = [] := List.eq_nil_of_length_eq_zero (by omega)
        subst this
        exact TRb.empty _ _
    have hit := runs_iter (n := 4) (w := wL) (by omega) I0.box hTb (by omega) HG.out (by omega)
    rw [show w'.heap.size + 1 + 1 = s + 2 by omega, show w'.heap.size + 1 = s + 1 by omega, hs, hwL]
    have HPW := Lib.hid (fun W (h : Below w.heap.size w W) => HP.out.below h)
    clear hwL CC OO hTb hbL C0 CH HV V1 C1 HP
    refine wpIn_rangeFunc_ownH rfl hm (gf := 39) (lb := #[.pointer (some ⟨s + 2, 0, none⟩)]) rfl trivial (enters_of Tryz.func39 (by kernel_rfl) rfl)
      hit KpR.trans (fun W lb o o' hlb ho hoc _ => ⟨fun i cs hi => by
        by_cases e : i = lb
        · subst e; rw [hi] at ho; cases ho; cases hoc
        · exact (World.putObj_heap_other e).trans hi, World.putObj_heap_other (by omega), World.putObj_heap_other (by omega)⟩) (Below.refl _ _) (fun _ => rfl) (PrI w s (.slice p l.length c)) (PrX w)
      (by rw [hsL]; exact PrI.from w s _) (fun c => by rw [hsL]; exact PrX.from w (s + 3) (by omega) c) I0
      (PrA s (fun q r => { tmps := #[.slice p l.length c, undef, .pointer (some ⟨w.heap.size, 0, none⟩), .pointer (some ⟨w.heap.size + 1, 0, none⟩), .int .i64 0, .int .i64 0, .pointer (some ⟨s, 0, none⟩), .pointer (some ⟨s + 1, 0, none⟩), q, .tuple #[.int .i64 0, .int .i64 0], .slice p l.length c, .tuple #[.int .i64 0, .int .i64 0], .int .i64 0, .int .i64 0, .int .i64 0, .bool false, undef, .slice p l.length c, .func (.func 39) #[] #[.pointer (some ⟨s + 2, 0, none⟩)], r, undef, undef, undef, undef, undef, undef, undef, undef], defers := [] }))
      (fun x a' => by rw [hsL]; exact PrA.from s _ x a') ?assign ?body ?done ?stop
    case assign =>
      rintro lb pre ⟨⟨k, a, n⟩, hgood⟩ W K hI hK
      rw [show (#[19] : Array Tmp).zip (encG ⟨⟨k, a, n⟩, hgood⟩) = #[(19, .agg #[.int .i64 k, .int .i64 a, .int .i64 (n : Int)])] from by simp [encG, encR, runV]]
      have hbx := hI.box.lt
      have HA := Lib.hid (hK _ (W.alloc (.cells #[.int .i64 k, .int .i64 a, .int .i64 (n : Int)] 56)) ((KeepsOthers.alloc W _).from _) (KpR.below ((Below.refl _ W).alloc (Nat.le_refl _) _) hbx (by omega)) (PrI.from w s _ pre W _ none hI (World.grownBy_alloc W _ none) (fun r e => by cases e)) ⟨W.heap.size, by omega, heap_alloc_new W _, rfl⟩)
      gi_wp2
      exact HA.out
    case body =>
      rintro lb pre ⟨⟨k, a, n⟩, hgood⟩ a' W hlbl hlp hI ⟨g, hg, hbox, rfl⟩ hlt
      rw [hsL]
      simp only at hbox
      have g0 : W.cell? ⟨g, 0, none⟩ = some (.int .i64 k) := by simp [World.cell?, hbox]
      have g1 : W.cell? ⟨g, 1, none⟩ = some (.int .i64 a) := by simp [World.cell?, hbox]
      have g2 : W.cell? ⟨g, 2, none⟩ = some (.int .i64 (n : Int)) := by simp [World.cell?, hbox]
      have lc := hI.lines.cell
      have lf := hI.lines.frozen
      have hbx := hI.box.lt
      unfold runV
      simp only
      by_cases h5 : pre.length = 5000
      · rw [h5] at lc
        obtain ⟨q1, q2, q3, q4⟩ := hI.res.cells
        have F1 := Lib.hid (hI.res.put [] 3)
        have KF := Lib.hid ((KeepsFrom.of_grownBy (B := s + 3) (grownBy_setCell' W w.heap.size (.string ⟨#[]⟩)) (fun j e => by cases e; omega)).trans (KeepsFrom.of_grownBy (grownBy_setCell' _ (w.heap.size + 1) (.int .i64 3)) (fun j e => by cases e; omega)))
        clear hI hbox
        gi_wp2
        exact ⟨KF.out, rfl, by simp; omega, F1.out⟩
      · obtain ⟨J, hJ⟩ : ∃ J, pre.length = J := ⟨_, rfl⟩
        have hJ5 : J ≤ 5000 := by rw [← hJ]; exact hI.short
        rw [hJ] at lc h5
        have tj : (((J : Nat) : Int) == 5000) = false := by rw [beq_eq_false_iff_ne]; omega
        have hwj : IntKind.i64.wrap ((J : Int) + 1) = (J : Int) + 1 := IntWalk.i64_in _ (by omega)
        have hbw : Below w.heap.size w (W.setCell ⟨s + 1, 0, none⟩ (.int .i64 ((J : Int) + 1))) := hI.res.2.2.setCell (p := ⟨s + 1, 0, none⟩) (by simp; omega) _
        obtain ⟨k1, k2, k3, k4⟩ := hgood
        simp only at k2 k3 k4
        have LN := Lib.hid (fun m => CallsIn.inRound lb ((callsIn_wide (n := m)).2 (line_any ⟨k, a, n⟩ (W.setCell ⟨s + 1, 0, none⟩ (.int .i64 ((J : Int) + 1))) (HPW.out _ hbw) (by simp only; omega) (by simp only; omega))))
        unfold runV at LN
        simp only at LN
        have TX := Lib.hid (bup_set (v := .int .i64 ((J : Int) + 1)) hI.text hI.lines (by omega))
        have HT : (textL (valL pre)).length ≤ 250000 := by have := text_len2 pre; omega
        have HLN := line_len2 (r := ⟨k, a, n⟩) ⟨k1, k2, k3, k4⟩
        have HI := Lib.hid hI
        have m0 : (W.setCell ⟨s + 1, 0, none⟩ (.int .i64 ((J : Int) + 1))).cell? ⟨g, 0, none⟩ = some (.int .i64 k) := by rw [World.cell?_setCell_other (h := fun e => by cases e; omega)]; exact g0
        have m1 : (W.setCell ⟨s + 1, 0, none⟩ (.int .i64 ((J : Int) + 1))).cell? ⟨g, 1, none⟩ = some (.int .i64 a) := by rw [World.cell?_setCell_other (h := fun e => by cases e)]; exact g1
        have m2 : (W.setCell ⟨s + 1, 0, none⟩ (.int .i64 ((J : Int) + 1))).cell? ⟨g, 2, none⟩ = some (.int .i64 (n : Int)) := by rw [World.cell?_setCell_other (h := fun e => by cases e)]; exact g2
        have hsW : (W.setCell ⟨s + 1, 0, none⟩ (.int .i64 ((J : Int) + 1))).heap.size = W.heap.size := by simp [World.setCell]
        have HJ := Lib.hid hJ
        clear hI hbox hJ
        gi_wp2_with (first
          | (gi_at_call 22; refine (LN.out _).mono ?_; rintro e Wb ⟨rfl, hbb⟩; have TB := Lib.hid (bup_from (n0 := 0) TX.out (grown_of hbb) (fun r e => by cases e)); have hsb := hbb.size; have WR := Lib.hid (fun m => CallsIn.inRound lb ((callsIn_wide (n := m)).2 (write_any s s (textL (valL pre)) (lineL ⟨k, a, n⟩) Wb TB.out (by omega) (by omega)))))
          | (refine ⟨trivial, ?_⟩; gi_at_call 22; refine (LN.out _).mono ?_; rintro e Wb ⟨rfl, hbb⟩; have TB := Lib.hid (bup_from (n0 := 0) TX.out (grown_of hbb) (fun r e => by cases e)); have hsb := hbb.size; have WR := Lib.hid (fun m => CallsIn.inRound lb ((callsIn_wide (n := m)).2 (write_any s s (textL (valL pre)) (lineL ⟨k, a, n⟩) Wb TB.out (by omega) (by omega)))))
          | (gi_at_call 21; refine (WR.out _).mono ?_; rintro e Wc ⟨⟨m, rfl⟩, hbu, hbwc, hot⟩)
          | (refine ⟨trivial, ?_⟩; gi_at_call 21; refine (WR.out _).mono ?_; rintro e Wc ⟨⟨m, rfl⟩, hbu, hbwc, hot⟩))
        obtain ⟨q1, q2, q3, q4, q5⟩ := round_keeps HI.out hbs (by rw [hsW] at hbb; exact hbb) TB.out hbwc hot
        refine ⟨q1, q2, ⟨q3, ?_, ?_, q5, ?_, HI.out.lt⟩⟩
        · rw [← text_snoc]; exact hbu
        · have : (((pre ++ [(⟨⟨k, a, n⟩, ⟨k1, k2, k3, k4⟩⟩ : GR)]).length : Nat) : Int) = (J : Int) + 1 := by simp [HJ.out]
          rw [this]; exact q4
        · simp [HJ.out]; omega
    case done =>
      rintro D ys W hD hys hI hK
      rw [hsL] at hD
      have hbx := hI.box.lt
      have EZ := Lib.hid (show printE l = 0 by rw [EP.out, ← hys, if_neg (by simp [valL]; exact hI.short)])
      have TZ := Lib.hid (show printT l = textL (valL ys) by unfold printT; rw [EZ.out, if_pos rfl, hys])
      clear hys
      have ST := Lib.hid (fun m => (callsIn_wide (n := m)).2 (Tryz.Builder_String_any_k s s (textL (valL ys)) W (Lib.IsBuilderF.of hI.text) (by omega)))
      have hr := hI.res
      have hlt := hI.lt
      obtain ⟨q1, q2, q3, q4⟩ := hr.cells
      have HR := Lib.hid hr
      clear hI hr
      gi_wp2_with (first
        | (refine ⟨trivial, ?_⟩; gi_at_call 23; refine (ST.out _).mono ?_; rintro e W2 ⟨rfl, _, hb2, hot⟩; have HR2 := HR.out.below hb2 hlt; obtain ⟨r1, r2, r3, r4⟩ := HR2.cells; have F1 := Lib.hid (HR2.put (textL (valL ys)) 0); have HK := Lib.hid (hot D _ hK (by simp; omega) (fun c fz h => by cases h)); clear HR2))
      have HK2 : ((W2.setCell ⟨w.heap.size, 0, none⟩ (.string ⟨(textL (valL ys)).toArray⟩)).setCell ⟨w.heap.size + 1, 0, none⟩ (.int .i64 0)).heap[D]? = some (.deferred (some [])) := by
        rw [Below.heap_setCell _ _ _ _ (show D ≠ w.heap.size + 1 by omega), Below.heap_setCell _ _ _ _ (show D ≠ w.heap.size by omega)]; exact HK.out
      have F2 : PrC w (textL (valL ys)) 0 (World.putObj _ D (.deferred none)) := F1.out.to (World.putObj_heap_other (by omega)) (World.putObj_heap_other (by omega)) (F1.out.2.2.grown (grownBy_putObj' _ D _) F1.out.2.2.size (fun k e => by cases e; omega))
      refine ⟨by simp, .inl ⟨_, _, rfl, run_takeDeferred HK2, _, results_cells2 rfl _ _ rfl rfl F2.cells.1 F2.cells.2.2.1, by rw [EZ.out, TZ.out], F2.2.2⟩⟩
    case stop =>
      rintro D c' pre W hD ⟨rest, hrest⟩ ⟨rfl, hlen, hC⟩ hK
      rw [hsL] at hD
      have hlen2 : 5000 < (runsL l).length := by rw [hrest]; simp [valL]; omega
      have EZ := Lib.hid (show printE l = 3 by rw [EP.out, if_pos hlen2])
      have TZ := Lib.hid (show printT l = [] by unfold printT; rw [EZ.out]; rfl)
      gi_wp2
      have F2 : PrC w [] 3 (World.putObj _ D (.deferred none)) := hC.to (World.putObj_heap_other (by omega)) (World.putObj_heap_other (by omega)) (hC.2.2.grown (grownBy_putObj' _ D _) hC.2.2.size (fun k e => by cases e; omega))
      refine ⟨by simp, .inl ⟨_, _, rfl, run_takeDeferred hK, _, results_cells2 rfl _ _ rfl rfl F2.cells.1 F2.cells.2.2.1, by rw [EZ.out, TZ.out], F2.2.2⟩⟩
  · have EZ := Lib.hid (show printE l = (checkP l 65536).2 by unfold printE; rw [if_neg hck])
    have TZ := Lib.hid (show printT l = [] by unfold printT; rw [EZ.out, if_neg hck])
    obtain ⟨z1, hz1⟩ : ∃ z, (checkP l 65536).1 = z := ⟨_, rfl⟩
    obtain ⟨z2, hz2⟩ : ∃ z, (checkP l 65536).2 = z := ⟨_, rfl⟩
    rw [hz2] at EZ hck
    have hpz : checkP l 65536 = (z1, z2) := Prod.ext hz1 hz2
    rw [hpz] at CH
    have tz : (z2 != 0) = true := by simpa using hck
    clear hck hpz hz1 hz2 hv hv2 hp
    go_enter Tryz.func8, Tryz.ntmps8
    go_wp2_with (go_at_call 13; refine CH.out.mono ?_; rintro e w' ⟨rfl, hb⟩; have C1 := C0.out.below hb C0.out.lt; obtain ⟨r1, r2, r3, r4⟩ := C1.cells; have F1 := Lib.hid (C1.put [] z2); clear C1 hb)
    refine bodyPost_ret (v := .tuple #[.string ⟨#[]⟩, .int .i64 z2]) (results_cells2 rfl _ _ rfl rfl F1.out.cells.1 F1.out.cells.2.2.1) rfl ⟨by rw [EZ.out, TZ.out], F1.out.2.2⟩
end Go.Proofs.YtihhgnjkmhdpmaaGreatDoor
