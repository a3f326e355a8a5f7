/- Two arenas of the program; the rows that MasksBlind makes. -/
import Derived.Test.YtjckkohmgalabaaZt
namespace Go.Proofs.Ytjckkohmgalabaa
open Go.RowKit
set_option maxRecDepth 100000 in
/-- A copy of a row. -/
theorem run_clone (W : World) (ty : TypeId) (q : Option Addr) (c n : Nat) (xs : List Nat) (hn : n = xs.length) (hv : URow W (.slice q n c) xs) (hl : n ≤ 1000) :
    ∃ v' w', (Builtin.append_ #[28, 28] ty #[.slice (some ⟨W.heap.size, 0, none⟩) 0 0, .slice q n c]).run Try.prog (W.alloc (.cells #[] 22)) = .ok v' w' ∧ w'.ownsRow W.heap.size 22 1 v' n (xs.map u64v) ∧ Below W.heap.size W w' := by
  obtain ⟨i0, hi, hz0, hz1, hz2⟩ := info_parts u64_info
  have ht := Try.underlying28
  have hmade : (W.alloc (.cells #[] 22)).ownsRow W.heap.size 22 1 (.slice (some ⟨W.heap.size, 0, none⟩) 0 0) 0 [] := World.ownsRow_made W #[] 0 (Nat.le_refl _) (by decide) rfl
  subst hn
  by_cases h0 : xs.length = 0
  · have : xs = [] := List.eq_nil_of_length_eq_zero h0
    subst this
    refine ⟨.slice (some ⟨W.heap.size, 0, none⟩) 0 0, _, ?_, hmade, below_alloc W _⟩
    cases q <;> simp [Builtin.append_, run_underlying ht, sizeOf, typeInfo, hi, Builtin.lenOf, Builtin.firstCells, loadCells, loadCellsFrom, storeCells]
  · obtain ⟨q', c', e, _, hx⟩ := hv
    cases e
    obtain ⟨b, o, e, _⟩ := hx 0 (xs[0]'(by omega)) (List.getElem?_eq_getElem (by omega))
    subst e
    have hx2 : ∀ i x, xs[i]? = some x → W.cell? ⟨b, o + i, none⟩ = some (.int .u64 (x : Nat)) := fun i x hi => by
      obtain ⟨b', o', e, h⟩ := hx i x hi
      cases e; exact h
    have hlt : b < W.heap.size := World.block_lt_of_cell? W _ (hx2 0 (xs[0]'(by omega)) (List.getElem?_eq_getElem (by omega)))
    have hc2 : ∀ j u, (xs.map u64v)[j]? = some u → (W.alloc (.cells #[] 22)).cell? ((⟨b, o, none⟩ : Addr).add j) = some u := fun j u h => (World.cell?_alloc_lt _ _ _ (by rw [show ((⟨b, o, none⟩ : Addr).add j).block = b by unfold Addr.add; split <;> simp_all]; exact hlt)).trans (URow.cells hx2 j u h)
    obtain ⟨v', w', hr, hown, hg, _⟩ := run_append_own (P := Try.prog) (W.alloc (.cells #[] 22)) W.heap.size 28 ty 22 i0 (.int .u64 0) 1 8 ht hi hz0 hz1 hz2 rfl (by decide) (.slice (some ⟨W.heap.size, 0, none⟩) 0 0) 0 [] hmade ⟨b, o, none⟩ xs.length c (xs.map u64v) (by simp) hc2 (u64v_one _) (by simp only [maxLen]; omega) (by omega) (by simp)
    refine ⟨v', w', hr, by simpa using hown, (below_alloc W _).grown hg (by simp) (fun k e => by cases e; exact Nat.le_refl _)⟩
theorem URow.of_own {W : World} {b0 n : Nat} {v : Value} {xs : List Nat} (h : W.ownsRow b0 22 1 v n (xs.map u64v)) : URow W v xs := by
  have hl := h.1
  rw [List.length_map, Nat.mul_one] at hl
  subst hl
  rcases h.2 with ⟨rfl, h0⟩ | ⟨g, cap, cur, rfl, _, hg, hc, _, _, htake⟩
  · have : xs = [] := List.eq_nil_of_length_eq_zero h0
    subst this
    exact ⟨none, 0, rfl, Nat.le_refl _, fun i x hi => by simp at hi⟩
  · refine ⟨_, cap, rfl, hc, fun i x hi => ⟨g, 0, rfl, ?_⟩⟩
    have := h.cells (g := g) rfl i (u64v x) (by rw [List.getElem?_map, hi]; rfl)
    rw [show ((⟨g, 0, none⟩ : Addr).add i) = ⟨g, 0 + i, none⟩ by cases i <;> simp [Addr.add]] at this
    exact this
/-- x, and zeros behind it. -/
theorem run_pad (W : World) (q : Option Addr) (c n k : Nat) (xs : List Nat) (hn : n = xs.length) (hv : URow W (.slice q n c) xs) (hl : n + k ≤ 1000) :
    ∃ v1 w1 v2 w2, (Builtin.append_ #[28, 28] 28 #[.slice (some ⟨W.heap.size, 0, none⟩) 0 0, .slice q n c]).run Try.prog (W.alloc (.cells #[] 22)) = .ok v1 w1 ∧
      (Builtin.append_ #[28, 3] 28 #[v1, .int .i64 (k : Int)]).run Try.prog w1 = .ok v2 w2 ∧ URow w2 v2 (xs ++ List.replicate k 0) ∧ Below W.heap.size W w2 := by
  obtain ⟨v1, w1, r1, o1, b1⟩ := run_clone W 28 q c n xs hn hv (by omega)
  obtain ⟨v2, w2, r2, o2, g2, _⟩ := run_zeros w1 W.heap.size 28 v1 n (xs.map u64v) k o1 (by omega) b1.size
  refine ⟨v1, w1, v2, w2, r1, r2, URow.of_own (b0 := W.heap.size) (n := n + k) ?_, b1.grown g2 b1.size (fun j e => (World.ownsRow.lt o1 j e).1)⟩
  rw [List.map_append, List.map_replicate]
  exact o2
set_option maxRecDepth 100000 in
theorem eq5 (w : World) (a b c d e : Int) : (Op.equalIn 10000 46 (.agg #[.int .i64 a, .int .i64 b, .int .i64 c, .int .i64 d, .int .i64 e]) (.agg #[.int .i64 a, .int .i64 b, .int .i64 c, .int .i64 d, .int .i64 e])).run Try.prog w = .ok true w := by
  obtain ⟨i, hi⟩ := info_of_underlying Try.underlying35
  have hp : ∀ (xs : Array Value) (k : Nat) (v : Value), xs[k]? = some v → (Go.part 35 xs k).run Try.prog w = .ok v w := fun xs k v h => run_part_plain w (by kernel_rfl) h
  have hc : Try.prog.cellsOf 35 = 1 := by kernel_rfl
  have he : ∀ a : Int, (Op.equalIn 9999 35 (.int .i64 a) (.int .i64 a)).run Try.prog w = .ok true w := fun a => by
    have := run_equalIn_int w 9998 35 .i64 .i64 a a Try.underlying35
    rw [beq_self_eq_true] at this
    exact this
  have p0 := hp #[.int .i64 a, .int .i64 b, .int .i64 c, .int .i64 d, .int .i64 e] 0 _ rfl
  have p1 := hp #[.int .i64 a, .int .i64 b, .int .i64 c, .int .i64 d, .int .i64 e] 1 _ rfl
  have p2 := hp #[.int .i64 a, .int .i64 b, .int .i64 c, .int .i64 d, .int .i64 e] 2 _ rfl
  have p3 := hp #[.int .i64 a, .int .i64 b, .int .i64 c, .int .i64 d, .int .i64 e] 3 _ rfl
  have p4 := hp #[.int .i64 a, .int .i64 b, .int .i64 c, .int .i64 d, .int .i64 e] 4 _ rfl
  rw [show (10000 : Nat) = 9999 + 1 from rfl, run_equalIn_array w 9999 _ _ Try.underlying46 hi, hc, show List.range 5 = [0, 1, 2, 3, 4] from rfl]
  simp [Op.eqItems, Sem.run_bind, p0, p1, p2, p3, p4, Result.andThen_ok, he]
theorem guard5 (op : BinOp) (x y : Operand) (xs ys : Array Value) (w : World) : (eqGuard op 46 x y (.agg xs) (.agg ys)).run Try.prog w = .ok () w := run_eqGuard_agg w op _ x y xs ys (by kernel_rfl)
/-- Two arenas of the program, each of the call's own, beside the blocks X; N cells each. -/
structure Tw (w0 W : World) (X : Nat → Prop) (N pa pb : Nat) (ta tb : List (Nat × Nat)) : Prop where
  ex : ∃ Fa Fb ca cb, ca.length = N ∧ cb.length = N ∧ (∀ k, Fa k → w0.heap.size ≤ k ∧ ¬ X k ∧ ¬ Fb k) ∧ (∀ k, Fb k → w0.heap.size ≤ k ∧ ¬ X k ∧ ¬ Fa k) ∧ Ar W Fa pa ca [] ta ∧ Ar W Fb pb cb [] tb
  bel : Below w0.heap.size w0 W
  xlt : ∀ k, X k → k < W.heap.size
section
variable {w0 W W' : World} {X X' : Nat → Prop} {N pa pb f : Nat} {ta tb t' : List (Nat × Nat)} {args : Array Value} {E : Int}
theorem Tw.swap (h : Tw w0 W X N pa pb ta tb) : Tw w0 W X N pb pa tb ta := by
  obtain ⟨⟨Fa, Fb, ca, cb, l1, l2, h1, h2, a1, a2⟩, hb, hx⟩ := h
  exact ⟨⟨Fb, Fa, cb, ca, l2, l1, h2, h1, a2, a1⟩, hb, hx⟩
theorem Tw.beside (h : Tw w0 W X N pa pb ta tb) (hb : Below W.heap.size W W') (hX : ∀ k, X' k → k < W'.heap.size ∧ (X k ∨ W.heap.size ≤ k)) : Tw w0 W' X' N pa pb ta tb := by
  obtain ⟨⟨Fa, Fb, ca, cb, l1, l2, h1, h2, a1, a2⟩, hbel, hx⟩ := h
  have la := a1.lt
  have lb := a2.lt
  refine ⟨⟨Fa, Fb, ca, cb, l1, l2, fun k hk => ⟨(h1 k hk).1, fun h3 => ?_, (h1 k hk).2.2⟩, fun k hk => ⟨(h2 k hk).1, fun h3 => ?_, (h2 k hk).2.2⟩, a1.below hb, a2.below hb⟩, hbel.trans (hb.mono hbel.size), fun k hk => (hX k hk).1⟩
  · rcases (hX k h3).2 with h4 | h4
    · exact (h1 k hk).2.1 h4
    · have := la k hk; omega
  · rcases (hX k h3).2 with h4 | h4
    · exact (h2 k hk).2.1 h4
    · have := lb k hk; omega
theorem Tw.below (h : Tw w0 W X N pa pb ta tb) (hb : Below W.heap.size W W') : Tw w0 W' X N pa pb ta tb := h.beside hb fun k hk => ⟨Nat.lt_of_lt_of_le (h.xlt k hk) hb.size, .inl hk⟩
theorem Tw.fresh (h : Tw w0 W X N pa pb ta tb) (o : Obj) : Tw w0 (W.alloc o) (fun k => X k ∨ k = W.heap.size) N pa pb ta tb :=
  h.beside (below_alloc W o) fun k hk => by
    rcases hk with h1 | h1
    · exact ⟨by have := h.xlt k h1; simp; omega, .inl h1⟩
    · exact ⟨by simp; omega, .inr (by omega)⟩
def TwP2 (w0 W : World) (X : Nat → Prop) (N pa pb : Nat) (ta tb : List (Nat × Nat)) (E : Int) (e : Ending) (W' : World) : Prop :=
  e = .returned (.int .i64 E) ∧ Tw w0 W' X N pa pb ta tb ∧ ∀ k, X k → W'.heap[k]? = W.heap[k]?
theorem tw_act (h : Tw w0 W X N pa pb ta tb) (hc : ∀ F ca, ca.length = N → Ar W F pa ca [] ta → ∃ c', c'.length = N ∧ Calls Try.prog f args W (AcP W F pa ca [] ta E c' t')) : Calls Try.prog f args W (TwP2 w0 W X N pa pb (if E = 0 then ta ++ t' else ta) tb E) := by
  obtain ⟨⟨Fa, Fb, ca, cb, l1, l2, h1, h2, a1, a2⟩, hbel, hx⟩ := h
  have lb := a2.lt
  obtain ⟨c', lc, hcall⟩ := hc Fa ca l1 a1
  refine hcall.mono ?_
  rintro e w' ⟨rfl, F', e', ar', hk⟩
  refine ⟨rfl, ⟨⟨F', Fb, _, cb, ?_, l2, fun k h3 => ?_, fun k h3 => ⟨(h2 k h3).1, (h2 k h3).2.1, fun h4 => ?_⟩, ar', a2.kept hk fun i hi hf => (h2 i hi).2.2 hf⟩, hbel.trans (hk.below hbel.size fun k h3 => (h1 k h3).1), fun k h3 => Nat.lt_of_lt_of_le (hx k h3) hk.size⟩, fun k h3 => hk.block k (hx k h3) fun h4 => (h1 k h4).2.1 h3⟩
  · split
    · exact lc
    · exact l1
  · rcases e' k h3 with h4 | h4
    · exact h1 k h4
    · exact ⟨Nat.le_trans hbel.size h4, fun h5 => by have := hx k h5; omega, fun h5 => by have := lb k h5; omega⟩
  · rcases e' k h4 with h5 | h5
    · exact (h1 k h5).2.2 h3
    · have := lb k h3; omega
/-- Two pairs of arenas, one made behind the other: their first ones. -/
theorem tw_of {w1 w2 w3 w4 : World} {pa' pb' : Nat} {ca cb ca' cb' : List Nat} {ta' tb' : List (Nat × Nat)} (h1 : Pr w1 w2 no pa pa' ca [] ta ca' [] ta') (h2 : Pr w3 w4 no pb pb' cb [] tb cb' [] tb') (hb : Below w2.heap.size w2 w3) (hla : ca.length = N) (hlb : cb.length = N) (hw : Below w0.heap.size w0 w1) : Tw w0 w4 no N pa pb ta tb := by
  obtain ⟨⟨Fa, _, ha, _, ar, _⟩, b1, _⟩ := h1
  obtain ⟨⟨Fb, _, hb1, _, br, _⟩, b2, _⟩ := h2
  have la := ar.lt
  have hz := hw.size
  have hz1 := b1.size
  have hz2 := hb.size
  refine ⟨⟨Fa, Fb, ca, cb, hla, hlb, fun k hk => ⟨Nat.le_trans hw.size (ha k hk).1, fun h => h, fun h => ?_⟩, fun k hk => ⟨?_, fun h => h, fun h => ?_⟩, (ar.below hb).below (b2.mono (Nat.le_refl _)), br⟩, hw.trans ((b1.trans ((hb.mono hz1).trans (b2.mono (Nat.le_trans hz1 hz2)))).mono hz), fun k h => h.elim⟩
  · have := la k hk; have := (hb1 k h).1; omega
  · have := (hb1 k hk).1; omega
  · have := la k h; have := (hb1 k hk).1; omega
end
end Go.Proofs.Ytjckkohmgalabaa
