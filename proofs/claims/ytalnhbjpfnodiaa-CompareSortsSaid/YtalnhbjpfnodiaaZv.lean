/- append of a made row of zeros, to an own row (an own law; the translation hands the builtin a number). -/
import Derived.Test.YtalnhbjpfnodiaaZr
import Derived.Lib.AppendZerosOnto
namespace Go.Proofs.Ytalnhbjpfnodiaa
open Go.RowKit
theorem zeroC (k : Nat) : (Builtin.zeroCells #[.int .u64 0] k).toList = List.replicate k (.int .u64 0) := by
  unfold Builtin.zeroCells
  apply List.ext_getElem
  · simp
  · intro i h1 h2
    simp [Nat.mod_one]
theorem int_under : ∃ k, Try.prog.underlying 3 = some (.int k) := ⟨_, Try.underlying3⟩
theorem run_zeros (w : World) (b0 : Nat) (ty : TypeId) (v : Value) (n : Nat) (xs : List Value) (k : Nat) (hown : w.ownsRow b0 22 1 v n xs) (hb : n + k ≤ 100000) (hb0 : b0 ≤ w.heap.size) :
    ∃ v' w', (Builtin.append_ #[27, 3] ty #[v, .int .i64 (k : Int)]).run Try.prog w = .ok v' w' ∧ w'.ownsRow b0 22 1 v' (n + k) (xs ++ List.replicate k (.int .u64 0)) ∧ w.grownBy w' v.ownBlock ∧ (v'.ownBlock = v.ownBlock ∨ v'.ownBlock = some w.heap.size) := by
  obtain ⟨i0, hi, hz0, hz1, hz2⟩ := info_parts u64_info
  have ht := Try.underlying27
  have htn := Try.underlying3
  have hlen : (xs ++ List.replicate k (Value.int .u64 0)).length = (n + k) * 1 := by rw [List.length_append, hown.1, List.length_replicate]; omega
  have zc : (Value.int .u64 0).cells = #[.int .u64 0] := rfl
  have grown : ∀ (old : Nat) (row : Option Nat),
      (w.drew.alloc (.cells (xs.toArray ++ Builtin.zeroCells #[.int .u64 0] k ++ Builtin.zeroCells #[.int .u64 0] (grownCap w (n + k) old 22 - (n + k))) 22)).ownsRow b0 22 1
        (.slice (some ⟨w.heap.size, 0, none⟩) (n + k) (grownCap w (n + k) old 22)) (n + k) (xs ++ List.replicate k (.int .u64 0)) ∧
      w.grownBy (w.drew.alloc (.cells (xs.toArray ++ Builtin.zeroCells #[.int .u64 0] k ++ Builtin.zeroCells #[.int .u64 0] (grownCap w (n + k) old 22 - (n + k))) 22)) row := by
    intro old row
    have hge := grownCap_ge w (n + k) old 22
    have hcm : grownCap w (n + k) old 22 ≤ maxLen := grownCap_le_maxLen w (n + k) old _ (by simp only [maxLen]; omega)
    refine ⟨⟨hlen, .inr ⟨w.heap.size, _, _, rfl, hb0, heap_alloc_new w.drew _, hge, hcm, ?_, ?_⟩⟩, ⟨rfl, rfl, rfl, by simp, fun j hj _ => Below.heap_alloc w.drew _ j hj⟩⟩
    · simp only [Array.size_append, List.size_toArray, size_zeroCells, hown.1]
      simp
      omega
    · simp only [Array.toList_append, zeroC]
      rw [← hlen]
      exact List.take_left
  rcases hown.2 with ⟨rfl, rfl⟩ | ⟨g, cap, cur, rfl, hbg, hg, hnc, hcm, hcs, htake⟩
  · have hx : xs = [] := List.eq_nil_of_length_eq_zero (by simpa using hown.1)
    subst hx
    by_cases hk : k = 0
    · subst hk
      refine ⟨.slice none 0 0, w, ?_, World.ownsRow_nil w b0 _ 1, ⟨rfl, rfl, rfl, Nat.le_refl _, fun _ _ _ => rfl⟩, .inl rfl⟩
      have hw : IntKind.i64.wrap (0 : Int) = 0 := by decide
      simp [Builtin.append_, run_underlying ht, run_underlying htn, sizeOf, typeInfo, zeroValue, hi, asInt, asIntOf, hw]
    · have hr := Lib.run_append_nil_zeros (P := Try.prog) w 27 3 ty 22 i0 (.int .u64 0) .i64 .i64 ht htn hi hz0 k (by omega) (by omega) (by omega) (by rw [hz2]; omega)
      have hgr := grown 0 (Value.ownBlock (.slice none 0 0))
      rw [zc] at hr
      simp only [Nat.zero_add, List.nil_append, Array.empty_append] at hgr ⊢
      exact ⟨_, _, hr, hgr.1, hgr.2, .inr rfl⟩
  · by_cases hroom : n + k ≤ cap
    · by_cases hk : k = 0
      · subst hk
        refine ⟨.slice (some ⟨g, 0, none⟩) n cap, w, ?_, by simpa using hown, ⟨rfl, rfl, rfl, Nat.le_refl _, fun _ _ _ => rfl⟩, .inl rfl⟩
        have hw : IntKind.i64.wrap (0 : Int) = 0 := by decide
        have hroom' : n ≤ cap := by omega
        simp [Builtin.append_, run_underlying ht, run_underlying htn, sizeOf, typeInfo, zeroValue, hi, asInt, asIntOf, hw, hroom', storeCells]
      · have hfit : n + k ≤ cur.size := by rw [hcs]; omega
        have hst := run_storeCells_at Try.prog g n 22 (List.replicate k (.int .u64 0)) 0 cur w hg (by rw [List.length_replicate]; omega) (fun u hu => by rw [(List.mem_replicate.1 hu).2]; rfl)
        rw [Nat.add_zero, List.length_replicate] at hst
        refine ⟨.slice (some ⟨g, 0, none⟩) (n + k) cap, _, ?_, ⟨hlen, .inr ⟨g, cap, _, rfl, hbg, setRow_heap w g cur (cur.toList.take n ++ List.replicate k (Value.int .u64 0) ++ cur.toList.drop (n + k)).toArray _ _ hg, hroom, hcm, ?_, ?_⟩⟩, ⟨rfl, rfl, rfl, by simp, fun j _ hj => setRow_other w g j _ (fun e => hj (by simp [Value.ownBlock, e]))⟩, .inl rfl⟩
        · have hw : IntKind.i64.wrap (k : Int) = k := by rw [IntKind.wrap_i64]; omega
          have hneg : ¬ ((k : Int) < 0) := by omega
          have h48i : ¬ (281474976710656 < (k : Int) * (8 : Int)) := by omega
          simp [Builtin.append_, run_underlying ht, run_underlying htn, sizeOf, typeInfo, zeroValue, hi, hz0, hz1, hz2, asInt, asIntOf, hw, hneg, h48i, hroom, hk, zc, zeroC, Addr.add_lit, hst]
        · simp only [List.size_toArray, List.length_append, List.length_take, List.length_drop, Array.length_toList, List.length_replicate]
          omega
        · have htk : cur.toList.take n = xs := by have h := htake; rw [Nat.mul_one] at h; exact h
          rw [← hlen, htk]
          exact List.take_left
    · have holds : ∀ j u, xs[j]? = some u → w.drew.cell? ((⟨g, 0, none⟩ : Addr).add j) = some u := fun j u h => (hown.cells (g := g) rfl j u h)
      have hx1 : xs.length = n * i0.size := by rw [hz1]; exact hown.1
      have hold := run_firstCells_some (P := Try.prog) w.drew i0.size n ⟨g, 0, none⟩ n cap xs hx1 holds
      have hr := Lib.run_append_grow_zeros (P := Try.prog) w 27 3 ty 22 i0 (.int .u64 0) .i64 .i64 ht htn hi hz0 (some ⟨g, 0, none⟩) n cap xs hold k (by omega) (by omega) (by omega) (by omega) (by rw [hz2]; omega) (by rw [hz2]; have := growslice_fits (need := n + k) (old := cap) (bytes := 8) (by omega) (by omega); omega)
      rw [zc] at hr
      have hgr := grown cap (Value.ownBlock (.slice (some ⟨g, 0, none⟩) n cap))
      exact ⟨_, _, hr, hgr.1, hgr.2, .inr rfl⟩
end Go.Proofs.Ytalnhbjpfnodiaa

/- Two arenas of the program; the rows that MasksBlind makes. -/
namespace Go.Proofs.Ytalnhbjpfnodiaa
open Go.RowKit
set_option maxRecDepth 100000 in
/-- A copy of a row. -/
theorem run_clone (W : World) (ty : TypeId) (q : Option Addr) (c n : Nat) (xs : List Nat) (hn : n = xs.length) (hv : URow W (.slice q n c) xs) (hl : n ≤ 1000) :
    ∃ v' w', (Builtin.append_ #[27, 27] ty #[.slice (some ⟨W.heap.size, 0, none⟩) 0 0, .slice q n c]).run Try.prog (W.alloc (.cells #[] 22)) = .ok v' w' ∧ w'.ownsRow W.heap.size 22 1 v' n (xs.map u64v) ∧ Below W.heap.size W w' := by
  obtain ⟨i0, hi, hz0, hz1, hz2⟩ := info_parts u64_info
  have ht := Try.underlying27
  have hmade : (W.alloc (.cells #[] 22)).ownsRow W.heap.size 22 1 (.slice (some ⟨W.heap.size, 0, none⟩) 0 0) 0 [] := World.ownsRow_made W #[] 0 (Nat.le_refl _) (by decide) rfl
  subst hn
  by_cases h0 : xs.length = 0
  · have : xs = [] := List.eq_nil_of_length_eq_zero h0
    subst this
    refine ⟨.slice (some ⟨W.heap.size, 0, none⟩) 0 0, _, ?_, hmade, below_alloc W _⟩
    cases q <;> simp [Builtin.append_, run_underlying ht, sizeOf, typeInfo, hi, Builtin.lenOf, Builtin.firstCells, loadCells, loadCellsFrom, storeCells]
  · obtain ⟨q', c', e, _, hx⟩ := hv
    cases e
    obtain ⟨b, o, e, _⟩ := hx 0 (xs[0]'(by omega)) (List.getElem?_eq_getElem (by omega))
    subst e
    have hx2 : ∀ i x, xs[i]? = some x → W.cell? ⟨b, o + i, none⟩ = some (.int .u64 (x : Nat)) := fun i x hi => by
      obtain ⟨b', o', e, h⟩ := hx i x hi
      cases e; exact h
    have hlt : b < W.heap.size := World.block_lt_of_cell? W _ (hx2 0 (xs[0]'(by omega)) (List.getElem?_eq_getElem (by omega)))
    have hc2 : ∀ j u, (xs.map u64v)[j]? = some u → (W.alloc (.cells #[] 22)).cell? ((⟨b, o, none⟩ : Addr).add j) = some u := fun j u h => (World.cell?_alloc_lt _ _ _ (by rw [show ((⟨b, o, none⟩ : Addr).add j).block = b by unfold Addr.add; split <;> simp_all]; exact hlt)).trans (URow.cells hx2 j u h)
    obtain ⟨v', w', hr, hown, hg, _⟩ := run_append_own (P := Try.prog) (W.alloc (.cells #[] 22)) W.heap.size 27 ty 22 i0 (.int .u64 0) 1 8 ht hi hz0 hz1 hz2 rfl (by decide) (.slice (some ⟨W.heap.size, 0, none⟩) 0 0) 0 [] hmade ⟨b, o, none⟩ xs.length c (xs.map u64v) (by simp) hc2 (u64v_one _) (by simp only [maxLen]; omega) (by omega) (by simp)
    refine ⟨v', w', hr, by simpa using hown, (below_alloc W _).grown hg (by simp) (fun k e => by cases e; exact Nat.le_refl _)⟩
theorem URow.of_own {W : World} {b0 n : Nat} {v : Value} {xs : List Nat} (h : W.ownsRow b0 22 1 v n (xs.map u64v)) : URow W v xs := by
  have hl := h.1
  rw [List.length_map, Nat.mul_one] at hl
  subst hl
  rcases h.2 with ⟨rfl, h0⟩ | ⟨g, cap, cur, rfl, _, hg, hc, _, _, htake⟩
  · have : xs = [] := List.eq_nil_of_length_eq_zero h0
    subst this
    exact ⟨none, 0, rfl, Nat.le_refl _, fun i x hi => by simp at hi⟩
  · refine ⟨_, cap, rfl, hc, fun i x hi => ⟨g, 0, rfl, ?_⟩⟩
    have := h.cells (g := g) rfl i (u64v x) (by rw [List.getElem?_map, hi]; rfl)
    rw [show ((⟨g, 0, none⟩ : Addr).add i) = ⟨g, 0 + i, none⟩ by cases i <;> simp [Addr.add]] at this
    exact this
/-- x, and zeros behind it. -/
theorem run_pad (W : World) (q : Option Addr) (c n k : Nat) (xs : List Nat) (hn : n = xs.length) (hv : URow W (.slice q n c) xs) (hl : n + k ≤ 1000) :
    ∃ v1 w1 v2 w2, (Builtin.append_ #[27, 27] 27 #[.slice (some ⟨W.heap.size, 0, none⟩) 0 0, .slice q n c]).run Try.prog (W.alloc (.cells #[] 22)) = .ok v1 w1 ∧
      (Builtin.append_ #[27, 3] 27 #[v1, .int .i64 (k : Int)]).run Try.prog w1 = .ok v2 w2 ∧ URow w2 v2 (xs ++ List.replicate k 0) ∧ Below W.heap.size W w2 := by
  obtain ⟨v1, w1, r1, o1, b1⟩ := run_clone W 27 q c n xs hn hv (by omega)
  obtain ⟨v2, w2, r2, o2, g2, _⟩ := run_zeros w1 W.heap.size 27 v1 n (xs.map u64v) k o1 (by omega) b1.size
  refine ⟨v1, w1, v2, w2, r1, r2, URow.of_own (b0 := W.heap.size) (n := n + k) ?_, b1.grown g2 b1.size (fun j e => (World.ownsRow.lt o1 j e).1)⟩
  rw [List.map_append, List.map_replicate]
  exact o2
/-- Two arenas of the program, each of the call's own, beside the blocks X; N cells each. -/
structure Tw (w0 W : World) (X : Nat → Prop) (N pa pb : Nat) (ta tb : List (Nat × Nat)) : Prop where
  ex : ∃ Fa Fb ca cb, ca.length = N ∧ cb.length = N ∧ (∀ k, Fa k → w0.heap.size ≤ k ∧ ¬ X k ∧ ¬ Fb k) ∧ (∀ k, Fb k → w0.heap.size ≤ k ∧ ¬ X k ∧ ¬ Fa k) ∧ Ar W Fa pa ca [] ta ∧ Ar W Fb pb cb [] tb
  bel : Below w0.heap.size w0 W
  xlt : ∀ k, X k → k < W.heap.size
section
variable {w0 W W' : World} {X X' : Nat → Prop} {N pa pb f : Nat} {ta tb t' : List (Nat × Nat)} {args : Array Value} {E : Int}
theorem Tw.swap (h : Tw w0 W X N pa pb ta tb) : Tw w0 W X N pb pa tb ta := by
  obtain ⟨⟨Fa, Fb, ca, cb, l1, l2, h1, h2, a1, a2⟩, hb, hx⟩ := h
  exact ⟨⟨Fb, Fa, cb, ca, l2, l1, h2, h1, a2, a1⟩, hb, hx⟩
theorem Tw.beside (h : Tw w0 W X N pa pb ta tb) (hb : Below W.heap.size W W') (hX : ∀ k, X' k → k < W'.heap.size ∧ (X k ∨ W.heap.size ≤ k)) : Tw w0 W' X' N pa pb ta tb := by
  obtain ⟨⟨Fa, Fb, ca, cb, l1, l2, h1, h2, a1, a2⟩, hbel, hx⟩ := h
  have la := a1.lt
  have lb := a2.lt
  refine ⟨⟨Fa, Fb, ca, cb, l1, l2, fun k hk => ⟨(h1 k hk).1, fun h3 => ?_, (h1 k hk).2.2⟩, fun k hk => ⟨(h2 k hk).1, fun h3 => ?_, (h2 k hk).2.2⟩, a1.below hb, a2.below hb⟩, hbel.trans (hb.mono hbel.size), fun k hk => (hX k hk).1⟩
  · rcases (hX k h3).2 with h4 | h4
    · exact (h1 k hk).2.1 h4
    · have := la k hk; omega
  · rcases (hX k h3).2 with h4 | h4
    · exact (h2 k hk).2.1 h4
    · have := lb k hk; omega
theorem Tw.below (h : Tw w0 W X N pa pb ta tb) (hb : Below W.heap.size W W') : Tw w0 W' X N pa pb ta tb := h.beside hb fun k hk => ⟨Nat.lt_of_lt_of_le (h.xlt k hk) hb.size, .inl hk⟩
theorem Tw.fresh (h : Tw w0 W X N pa pb ta tb) (o : Obj) : Tw w0 (W.alloc o) (fun k => X k ∨ k = W.heap.size) N pa pb ta tb :=
  h.beside (below_alloc W o) fun k hk => by
    rcases hk with h1 | h1
    · exact ⟨by have := h.xlt k h1; simp; omega, .inl h1⟩
    · exact ⟨by simp; omega, .inr (by omega)⟩
def TwP2 (w0 W : World) (X : Nat → Prop) (N pa pb : Nat) (ta tb : List (Nat × Nat)) (E : Int) (e : Ending) (W' : World) : Prop :=
  e = .returned (.int .i64 E) ∧ Tw w0 W' X N pa pb ta tb ∧ ∀ k, X k → W'.heap[k]? = W.heap[k]?
theorem tw_act (h : Tw w0 W X N pa pb ta tb) (hc : ∀ F ca, ca.length = N → Ar W F pa ca [] ta → ∃ c', c'.length = N ∧ Calls Try.prog f args W (AcP W F pa ca [] ta E c' t')) : Calls Try.prog f args W (TwP2 w0 W X N pa pb (if E = 0 then ta ++ t' else ta) tb E) := by
  obtain ⟨⟨Fa, Fb, ca, cb, l1, l2, h1, h2, a1, a2⟩, hbel, hx⟩ := h
  have lb := a2.lt
  obtain ⟨c', lc, hcall⟩ := hc Fa ca l1 a1
  refine hcall.mono ?_
  rintro e w' ⟨rfl, F', e', ar', hk⟩
  refine ⟨rfl, ⟨⟨F', Fb, _, cb, ?_, l2, fun k h3 => ?_, fun k h3 => ⟨(h2 k h3).1, (h2 k h3).2.1, fun h4 => ?_⟩, ar', a2.kept hk fun i hi hf => (h2 i hi).2.2 hf⟩, hbel.trans (hk.below hbel.size fun k h3 => (h1 k h3).1), fun k h3 => Nat.lt_of_lt_of_le (hx k h3) hk.size⟩, fun k h3 => hk.block k (hx k h3) fun h4 => (h1 k h4).2.1 h3⟩
  · split
    · exact lc
    · exact l1
  · rcases e' k h3 with h4 | h4
    · exact h1 k h4
    · exact ⟨Nat.le_trans hbel.size h4, fun h5 => by have := hx k h5; omega, fun h5 => by have := lb k h5; omega⟩
  · rcases e' k h4 with h5 | h5
    · exact (h1 k h5).2.2 h3
    · have := lb k h3; omega
/-- Two pairs of arenas, one made behind the other: their first ones. -/
theorem tw_of {w1 w2 w3 w4 : World} {pa' pb' : Nat} {ca cb ca' cb' : List Nat} {ta' tb' : List (Nat × Nat)} (h1 : Pr w1 w2 no pa pa' ca [] ta ca' [] ta') (h2 : Pr w3 w4 no pb pb' cb [] tb cb' [] tb') (hb : Below w2.heap.size w2 w3) (hla : ca.length = N) (hlb : cb.length = N) (hw : Below w0.heap.size w0 w1) : Tw w0 w4 no N pa pb ta tb := by
  obtain ⟨⟨Fa, _, ha, _, ar, _⟩, b1, _⟩ := h1
  obtain ⟨⟨Fb, _, hb1, _, br, _⟩, b2, _⟩ := h2
  have la := ar.lt
  have hz := hw.size
  have hz1 := b1.size
  have hz2 := hb.size
  refine ⟨⟨Fa, Fb, ca, cb, hla, hlb, fun k hk => ⟨Nat.le_trans hw.size (ha k hk).1, fun h => h, fun h => ?_⟩, fun k hk => ⟨?_, fun h => h, fun h => ?_⟩, (ar.below hb).below (b2.mono (Nat.le_refl _)), br⟩, hw.trans ((b1.trans ((hb.mono hz1).trans (b2.mono (Nat.le_trans hz1 hz2)))).mono hz), fun k h => h.elim⟩
  · have := la k hk; have := (hb1 k h).1; omega
  · have := (hb1 k hk).1; omega
  · have := la k h; have := (hb1 k hk).1; omega
end
end Go.Proofs.Ytalnhbjpfnodiaa

/- MasksBlind. -/
namespace Go.Proofs.Ytalnhbjpfnodiaa
open Go.RowKit
section
variable {w0 W : World} {X : Nat → Prop} {N pa pb : Nat} {ta tb : List (Nat × Nat)}
theorem tw_events (h : Tw w0 W X N pa pb ta tb) : Calls Try.prog 31 #[.pointer (some ⟨pa, 0, none⟩)] W (EvPost W ta) := by
  obtain ⟨⟨Fa, Fb, ca, cb, l1, l2, h1, h2, ⟨_, _, _, _, a1⟩, a2⟩, hbel, hx⟩ := h
  exact events_any a1
theorem tw_long (h : Tw w0 W X N pa pb ta tb) : ta.length ≤ 8388608 := by
  obtain ⟨⟨Fa, Fb, ca, cb, l1, l2, h1, h2, ⟨_, _, _, _, a1⟩, a2⟩, hbel, hx⟩ := h
  exact a1.long
end
end Go.Proofs.Ytalnhbjpfnodiaa
