/- Traces, regions and three numbers that came in, opened; what the row's condition gives. -/
import Derived.Test.YtihhgnjkmhdpmaaGreatDoorS
import Derived.Test.YtihhgnjkmhdpmaaGreatDoorTie
import Derived.ProofKit
import Derived.OpenShut
import Derived.LaidMore
import Derived.Stop.Joined
import Derived.Shelf.Vars
import Derived.Lay
namespace Go.Proofs.YtihhgnjkmhdpmaaGreatDoor
open Go.ChangeShapes Go.WideShapes Go.ChangeAt Go.ChangeMaps Go.RowKit
theorem own : ownKnob Tryz.prog.godebug = none := by kernel_rfl
theorem add_none (b o i : Nat) : (⟨b, o, none⟩ : Addr).add i = ⟨b, o + i, none⟩ := by cases i <;> simp [Addr.add]
theorem in_i32 {n : Int} (h : (Lit.int .i32 n).wf = true) : -2147483648 ≤ n ∧ n ≤ 2147483647 := by
  unfold Lit.wf at h
  have e1 : IntKind.i32.min = -2147483648 := by decide
  have e2 : IntKind.i32.max = 2147483647 := by decide
  simp [e1, e2] at h; omega
theorem in_i64 {n : Int} (h : (Lit.int .i64 n).wf = true) : -9223372036854775808 ≤ n ∧ n ≤ 9223372036854775807 := by
  unfold Lit.wf at h
  have e1 : IntKind.i64.min = -9223372036854775808 := by decide
  have e2 : IntKind.i64.max = 9223372036854775807 := by decide
  simp [e1, e2] at h; omega
theorem list_of {α : Type} {P : Nat → α → Prop} (n : Nat) (h : ∀ i, i < n → ∃ c, P i c) : ∃ l : List α, l.length = n ∧ ∀ i c, l[i]? = some c → P i c := by
  induction n with
  | zero => exact ⟨[], rfl, fun i c hc => by simp at hc⟩
  | succ n ih =>
    obtain ⟨l, hl, hp⟩ := ih (fun i hi => h i (by omega))
    obtain ⟨c, hc⟩ := h n (by omega)
    refine ⟨l ++ [c], by simp [hl], fun i x hx => ?_⟩
    by_cases hi : i < l.length
    · rw [List.getElem?_append_left hi] at hx; exact hp i x hx
    · have : i = n := by have := (List.getElem?_eq_some_iff.1 hx).1; simp at this; omega
      subst this
      rw [List.getElem?_append_right (by omega), hl, Nat.sub_self] at hx
      cases hx; exact hc
theorem span_none {W : World} {bk o : Nat} {sp : Option Nat} {v : Value} (h : W.cell? ⟨bk, o, sp⟩ = some v) : sp = none := by
  cases sp with
  | none => rfl
  | some z =>
    unfold World.cell? at h
    simp at h
    split at h <;> cases h
theorem cells_ev {H : Type} {enc : TypeId × Value → H} {W : World} {m : Nat} {d : DataW H} {ps : List MemPlace} {c0 c1 : Value}
    (ht : DataW.trod enc Tryz.prog W 0 (fun _ => true) true m 39 [c0, c1] = some (d, ps)) : ∃ x : Ev, okE x ∧ c0 = .int .i32 x.1 ∧ c1 = .int .i32 x.2 := by
  have ci : Tryz.prog.cellsOf 21 = 1 := by kernel_rfl
  obtain ⟨ys, m, _, _, _, hyl, hf⟩ := DataW.trod_struct Tryz.underlying39 ht
  match ys, hyl, hf with
  | [y0, y1], _, hf =>
    have hy0 : DataW.trod enc Tryz.prog W 0 (fun _ => true) true m 21 (([c0, c1].drop 0).take (Tryz.prog.cellsOf 21)) = some y0 := hf 0 _ rfl
    have hy1 : DataW.trod enc Tryz.prog W 0 (fun _ => true) true m 21 (([c0, c1].drop 1).take (Tryz.prog.cellsOf 21)) = some y1 := hf 1 _ rfl
    rw [ci] at hy0 hy1
    obtain ⟨n0, e0, _, w0⟩ := DataW.trod_int Tryz.underlying21 hy0
    obtain ⟨n1, e1, _, w1⟩ := DataW.trod_int Tryz.underlying21 hy1
    simp at e0 e1
    exact ⟨(n0, n1), ⟨in_i32 w0, in_i32 w1⟩, e0, e1⟩
theorem cells_rg {H : Type} {enc : TypeId × Value → H} {W : World} {m : Nat} {d : DataW H} {ps : List MemPlace} {c0 c1 c2 : Value}
    (ht : DataW.trod enc Tryz.prog W 0 (fun _ => true) true m 45 [c0, c1, c2] = some (d, ps)) : ∃ x : Rg, (ok64 x.2.1 ∧ ok64 x.2.2) ∧ c0 = .string x.1 ∧ c1 = .int .i64 x.2.1 ∧ c2 = .int .i64 x.2.2 := by
  have cs : Tryz.prog.cellsOf 9 = 1 := by kernel_rfl
  have ci : Tryz.prog.cellsOf 3 = 1 := by kernel_rfl
  obtain ⟨ys, m, _, _, _, hyl, hf⟩ := DataW.trod_struct Tryz.underlying45 ht
  match ys, hyl, hf with
  | [y0, y1, y2], _, hf =>
    have hy0 : DataW.trod enc Tryz.prog W 0 (fun _ => true) true m 9 (([c0, c1, c2].drop 0).take (Tryz.prog.cellsOf 9)) = some y0 := hf 0 _ rfl
    have hy1 : DataW.trod enc Tryz.prog W 0 (fun _ => true) true m 3 (([c0, c1, c2].drop 1).take (Tryz.prog.cellsOf 3)) = some y1 := hf 1 _ rfl
    have hy2 : DataW.trod enc Tryz.prog W 0 (fun _ => true) true m 3 (([c0, c1, c2].drop 2).take (Tryz.prog.cellsOf 3)) = some y2 := hf 2 _ rfl
    rw [cs] at hy0
    rw [ci] at hy1 hy2
    obtain ⟨s, e0, _⟩ := DataW.trod_string Tryz.underlying9 hy0
    obtain ⟨n1, e1, _, w1⟩ := DataW.trod_int Tryz.underlying3 hy1
    obtain ⟨n2, e2, _, w2⟩ := DataW.trod_int Tryz.underlying3 hy2
    simp at e0 e1 e2
    have b1 := in_i64 w1
    have b2 := in_i64 w2
    exact ⟨(s, n1, n2), ⟨by unfold ok64; exact b1, by unfold ok64; exact b2⟩, e0, e1, e2⟩
set_option maxRecDepth 100000 in
theorem open_trace {H : Type} {enc : TypeId × Value → H} {W : World} {r : Reach} {b0 fuel : Nat} {v : Value} {d : DataW H} {ps : List MemPlace} (hval : Value.okWide Tryz.prog W r b0 22 v)
    (h : DataW.trod enc Tryz.prog W 0 (fun _ => true) true fuel 22 v.cells.toList = some (d, ps)) : ∃ xs, TR W v xs := by
  obtain ⟨a, len, cap, rfl⟩ := okWide_slice Tryz.underlying22 hval
  rcases DataW.trod_slice Tryz.underlying22 h with ⟨hcs, _⟩ | ⟨x, l, c, elems, rest, n, _, hcs, _, _, hl, hm, hel, hat, _⟩
  · simp [Value.cells] at hcs
    obtain ⟨rfl, rfl, rfl⟩ := hcs
    exact ⟨[], TR.nil W⟩
  · simp [Value.cells] at hcs
    obtain ⟨rfl, rfl, rfl⟩ := hcs
    have ce : Tryz.prog.cellsOf 39 = 2 := by kernel_rfl
    rw [ce] at hat
    have key : ∀ i, i < len → ∃ y : Ev, okE y ∧ W.cell? ((x.add (i * 2)).add 0) = some (.int .i32 y.1) ∧ W.cell? ((x.add (i * 2)).add 1) = some (.int .i32 y.2) := by
      intro i hi
      have h1 := hat i hi
      have h2 : elems[i]? = some elems[i] := List.getElem?_eq_getElem (by omega)
      rw [h2] at h1
      obtain ⟨l2, hc, ht⟩ := Option.bind_eq_some_iff.1 h1
      unfold World.cells? at hc
      rw [if_pos (Nat.zero_le _)] at hc
      simp [List.range_succ, List.mapM_cons, Option.bind_eq_some_iff] at hc
      obtain ⟨c0, hc0, _, ⟨c1, hc1, rfl⟩, rfl⟩ := hc
      obtain ⟨y, hy, e0, e1⟩ := cells_ev ht
      subst e0; subst e1
      exact ⟨y, hy, hc0, hc1⟩
    obtain ⟨xs, hxl, hxs⟩ := list_of len key
    obtain ⟨bk, o, sp⟩ := x
    have hsp : 0 < len → sp = none := by
      intro h0
      obtain ⟨y, _, h1, _⟩ := key 0 h0
      simp only [Nat.zero_mul, Addr.add, if_true] at h1
      exact span_none h1
    subst hxl
    refine ⟨xs, fun y hy => ?_, _, cap, rfl, hl, fun i y hy => ?_⟩
    · obtain ⟨i, hi⟩ := List.getElem?_of_mem hy
      exact (hxs i y hi).1
    · have hi := (List.getElem?_eq_some_iff.1 hy).1
      obtain rfl := hsp (by omega)
      obtain ⟨_, h1, h2⟩ := hxs i y hy
      rw [add_none, add_none] at h1 h2
      exact ⟨bk, o, rfl, World.block_lt_of_cell? W ⟨bk, o + i * 2 + 0, none⟩ h1, h1, h2⟩
set_option maxRecDepth 100000 in
theorem open_regions {H : Type} {enc : TypeId × Value → H} {W : World} {r : Reach} {b0 fuel : Nat} {v : Value} {d : DataW H} {ps : List MemPlace} (hval : Value.okWide Tryz.prog W r b0 46 v)
    (h : DataW.trod enc Tryz.prog W 0 (fun _ => true) true fuel 46 v.cells.toList = some (d, ps)) : ∃ xs, RG W v xs := by
  obtain ⟨a, len, cap, rfl⟩ := okWide_slice Tryz.underlying46 hval
  rcases DataW.trod_slice Tryz.underlying46 h with ⟨hcs, _⟩ | ⟨x, l, c, elems, rest, n, _, hcs, _, _, hl, hm, hel, hat, _⟩
  · simp [Value.cells] at hcs
    obtain ⟨rfl, rfl, rfl⟩ := hcs
    exact ⟨[], RG.nil W⟩
  · simp [Value.cells] at hcs
    obtain ⟨rfl, rfl, rfl⟩ := hcs
    have ce : Tryz.prog.cellsOf 45 = 3 := by kernel_rfl
    rw [ce] at hat
    have key : ∀ i, i < len → ∃ y : Rg, (ok64 y.2.1 ∧ ok64 y.2.2) ∧ W.cell? ((x.add (i * 3)).add 0) = some (.string y.1) ∧ W.cell? ((x.add (i * 3)).add 1) = some (.int .i64 y.2.1) ∧ W.cell? ((x.add (i * 3)).add 2) = some (.int .i64 y.2.2) := by
      intro i hi
      have h1 := hat i hi
      have h2 : elems[i]? = some elems[i] := List.getElem?_eq_getElem (by omega)
      rw [h2] at h1
      obtain ⟨l2, hc, ht⟩ := Option.bind_eq_some_iff.1 h1
      unfold World.cells? at hc
      rw [if_pos (Nat.zero_le _)] at hc
      simp [List.range_succ, List.mapM_cons, Option.bind_eq_some_iff] at hc
      obtain ⟨c0, hc0, _, ⟨c1, hc1, _, ⟨c2, hc2, rfl⟩, rfl⟩, rfl⟩ := hc
      obtain ⟨y, hy, e0, e1, e2⟩ := cells_rg ht
      subst e0; subst e1; subst e2
      exact ⟨y, hy, hc0, hc1, hc2⟩
    obtain ⟨xs, hxl, hxs⟩ := list_of len key
    obtain ⟨bk, o, sp⟩ := x
    have hsp : 0 < len → sp = none := by
      intro h0
      obtain ⟨y, _, h1, _⟩ := key 0 h0
      simp only [Nat.zero_mul, Addr.add, if_true] at h1
      exact span_none h1
    subst hxl
    refine ⟨xs, fun y hy => ?_, _, cap, rfl, fun i y hy => ?_⟩
    · obtain ⟨i, hi⟩ := List.getElem?_of_mem hy
      exact (hxs i y hi).1
    · have hi := (List.getElem?_eq_some_iff.1 hy).1
      obtain rfl := hsp (by omega)
      obtain ⟨_, h1, h2, h3⟩ := hxs i y hy
      rw [add_none, add_none] at h1 h2 h3
      exact ⟨bk, o, rfl, World.block_lt_of_cell? W ⟨bk, o + i * 3 + 0, none⟩ h1, h1, h2, h3⟩
set_option maxRecDepth 100000 in
theorem list3 {α : Type} (l : List α) (h : (⟨l⟩ : Array α).size = 3) : ∃ a b c, l = [a, b, c] := by
  match l, h with
  | [a, b, c], _ => exact ⟨a, b, c, rfl⟩
/- The listed variables. -/
theorem laid_mem {P : Program} {w : World} : ∀ {l : List (String × DataW Unit)} {ps : List MemPlace}, DataW.LaidVars P w l ps → ∀ x ∈ l, ∃ g t cs fuel p, P.globalNamed x.1 = some g ∧ (P.globals[g]?).map (·.type) = some t ∧ w.var? P x.1 = some cs ∧ DataW.trod (fun _ => ()) P w 0 (fun _ => true) false fuel t cs.toList = some (x.2, p)
  | [], _, _, x, hx => by cases hx
  | (n, d) :: r, _, h, x, hx => by
    obtain ⟨g, t, cs, fuel, p, q, h1, h2, h3, h4, h5, _⟩ := h
    rcases List.mem_cons.1 hx with rfl | hx
    · exact ⟨g, t, cs, fuel, p, h1, h2, h3, h4⟩
    · exact laid_mem h5 x hx
abbrev laid3 : List (String × DataW Unit) := [("math/bits.deBruijn32tab", Rows.laid_math_bits_deBruijn32tab), ("math/bits.deBruijn64tab", Rows.laid_math_bits_deBruijn64tab), ("internal/strconv.uint64pow10", Rows.laid_internal_strconv_uint64pow10)]
theorem shape_at {w : World} (h : w.ShapedOpen Tryz.prog) {g : Nat} {t : TypeId} (hg : g < Tryz.prog.globals.size) (h0 : (((begin Tryz.prog (fun _ _ => 0) default).world.heap[g]?).bind Obj.row?).map (·.2) = some t) : ∃ cs, w.heap[g]? = some (.cells cs t) := by
  obtain ⟨⟨z, t'⟩, hz, e⟩ := Option.map_eq_some_iff.1 h0
  cases e
  obtain ⟨cs, a, _⟩ := h.1 g z t' hg hz
  exact ⟨cs, a⟩
theorem p10_of_laid {W : World} (h : laidMet Tryz.prog laid3 W) (hs : W.ShapedOpen Tryz.prog) : P10 W := by
  obtain ⟨ps, hl, _⟩ := h
  obtain ⟨cP, hP⟩ := shape_at hs (g := 1) (t := 146) (of_decide_eq_true (by kernel_rfl)) (by kernel_rfl)
  refine ⟨?_, ?_⟩
  · obtain ⟨g, t, cs, fuel, p, h1, h2, h3, h4⟩ := laid_mem hl ("internal/strconv.uint64pow10", Rows.laid_internal_strconv_uint64pow10) (by simp [laid3])
    obtain rfl := Option.some.inj (gP10.symm.trans h1)
    obtain rfl : t = 146 := Option.some.inj (h2.symm.trans (by kernel_rfl))
    have := Lib.cells_of_tab (k := .u64) (zs := Lib.pow10Tab) Tryz.underlying146 Tryz.underlying35 (by kernel_rfl) (by kernel_rfl) h4
    unfold Lib.TabIs
    rw [h3, ← this]
  · rcases Nat.lt_or_ge 1 W.heap.size with h | h
    · exact h
    · rw [Array.getElem?_eq_none h] at hP; cases hP
/-- THE PLAIN WRAP WITH A CONDITION ON THE HEAP AND THE WORLD's SHAPE. -/
theorem wrap_laid {H : Type} {enc : TypeId × Value → H} {a : Assume} {C : Checked} {os : Os} {f : FuncId} {fn : Func} {s : ChangeSpec} {conds : List PathCond} {apart fresh handsOn again : Bool} {X : World → Array Value → Prop}
    (hX : ∀ (w w' : World) (args : Array Value), w.heap = w'.heap → X w args → X w' args)
    (own : ownKnob C.prog.godebug = none) (started : os.Started) (noInit : C.prog.inits.idxOf? f = none) (hfn : C.prog.funcs[f]? = some fn)
    (witness : ∃ (w : World) (tape : Tape) (i : Input), w.os = os ∧ (w.forCall tape i).Shaped C.prog ∧ i.vars = [] ∧ Input.okWide C.prog (w.forCall tape i) .any w.heap.size f i ∧
      ((s.pre enc C.prog fn conds apart (w.forCall tape i).memory i.args ∧ X (w.forCall tape i).memory i.args) ∧ sizedMet enc C.prog fn (OpenSpec.ofChange s) apart (w.forCall tape i).memory i.args) ∧ a.holds C.prog (lone (Frame.enter C.prog f i.args .normal) [] (w.forCall tape i)))
    (contract : ∀ (W : World) (base : Nat) (args : Array Value) (ds gs : List (DataW H)) (before : List MemPlace),
      (∀ (j : Nat) t v, fn.params[j]? = some t → args[j]? = some v → Value.okWide C.prog W .any base t v) →
      DataW.Whole enc C.prog fn.params.toList s.vars apart W args.toList ds gs before →
      (DataW.weightsEach C.prog (fn.params.toList ++ s.plain.varTypes C.prog) (ds ++ gs)).all (· ≤ reachBytes) = true → X W args → W.ShapedOpen C.prog →
      Calls C.prog f args W fun e W' => ∃ v, e = .returned v ∧ s.post enc C.prog fn apart fresh handsOn again W args v W') :
    ReturnsInHanded a C os f .any (fun w args => (s.pre enc C.prog fn conds apart w args ∧ X w args) ∧ sizedMet enc C.prog fn (OpenSpec.ofChange s) apart w args) (s.post enc C.prog fn apart fresh handsOn again) := by
  refine returnsInHanded_of_calls own started noInit witness ?_
  intro w tape i _ hsh _ hok hpre _
  obtain ⟨_, _, _, fn', hfn', _, _, _, _, hval⟩ := hok
  have e : fn' = fn := Option.some.inj (hfn'.symm.trans hfn)
  subst e
  obtain ⟨⟨⟨ds, gs, before, hw, hc⟩, hx⟩, hz⟩ := hpre
  have hw' := DataW.Whole.of_heap (w' := w.forCall tape i) (by rfl) hw
  refine (contract (w.forCall tape i) w.heap.size i.args ds gs before hval hw' (hz.weights hw) (hX _ _ _ (by rfl) hx) hsh).mono fun e W' ⟨v, he, hp⟩ => ?_
  subst he
  exact ChangeSpec.post_blind hp
theorem door_shaped3 (os : Os) (args : Array Value) : ((World.laidAll Tryz.prog os laid3).forCall (fun _ _ => 0) ⟨#[], args, []⟩).Shaped Tryz.prog := World.shaped_of_ZipB (by kernel_rfl) (by kernel_rfl)
theorem door_met3 (os : Os) (args : Array Value) : laidMetH Tryz.prog laid3 ((World.laidAll Tryz.prog os laid3).forCall (fun _ _ => 0) ⟨#[], args, []⟩).memory := by
  rw [MakeChecks.laidMetH_plain _ _ _ (by kernel_rfl)]
  exact laidMet_laidAll _ (by kernel_rfl) (by kernel_rfl)
end Go.Proofs.YtihhgnjkmhdpmaaGreatDoor
