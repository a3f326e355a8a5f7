/- Both arenas. -/
import Derived.Test.YtalnhbjpfnodiaaWd
namespace Go.Proofs.Ytalnhbjpfnodiaa
open Go.RowKit
/-- The program's arena and the reference's, each of the call's own, beside the blocks X. -/
structure Pr (w0 W : World) (X : Nat → Prop) (pa pb : Nat) (ca : List Nat) (ra : List Rg) (ta : List (Nat × Nat)) (cb : List Nat) (rb : List Rg) (tb : List (Nat × Nat)) : Prop where
  ex : ∃ Fa Fb, (∀ k, Fa k → w0.heap.size ≤ k ∧ ¬ X k ∧ ¬ Fb k) ∧ (∀ k, Fb k → w0.heap.size ≤ k ∧ ¬ X k) ∧ Ar W Fa pa ca ra ta ∧ Rb W Fb pb cb rb tb
  bel : Below w0.heap.size w0 W
  xlt : ∀ k, X k → k < W.heap.size
def PrPost (w0 W : World) (X : Nat → Prop) (pa pb : Nat) (ca : List Nat) (ra : List Rg) (ta : List (Nat × Nat)) (cb : List Nat) (rb : List Rg) (tb : List (Nat × Nat)) (v : Value) (e : Ending) (W' : World) : Prop :=
  e = .returned v ∧ Pr w0 W' X pa pb ca ra ta cb rb tb ∧ ∀ k, X k → W'.heap[k]? = W.heap[k]?
section
variable {w0 W W' : World} {X X' : Nat → Prop} {pa pb : Nat} {ca ca' cb cb' : List Nat} {ra ra' rb rb' : List Rg} {ta ta' tb tb' : List (Nat × Nat)}
theorem Pr.beside (h : Pr w0 W X pa pb ca ra ta cb rb tb) (hb : Below W.heap.size W W') (hX : ∀ k, X' k → k < W'.heap.size ∧ (X k ∨ W.heap.size ≤ k)) : Pr w0 W' X' pa pb ca ra ta cb rb tb := by
  obtain ⟨⟨Fa, Fb, ha, hb2, ar, rr⟩, hbel, hx⟩ := h
  have la : ∀ k, Fa k → k < W.heap.size := by obtain ⟨_, _, _, _, h⟩ := ar; exact h.lt
  have lb : ∀ k, Fb k → k < W.heap.size := by obtain ⟨_, _, _, h⟩ := rr; exact h.lt
  refine ⟨⟨Fa, Fb, fun k hk => ⟨(ha k hk).1, fun h1 => ?_, (ha k hk).2.2⟩, fun k hk => ⟨(hb2 k hk).1, fun h1 => ?_⟩, ar.below hb, rr.below hb⟩, hbel.trans (hb.mono hbel.size), fun k hk => (hX k hk).1⟩
  · rcases (hX k h1).2 with h2 | h2
    · exact (ha k hk).2.1 h2
    · have := la k hk; omega
  · rcases (hX k h1).2 with h2 | h2
    · exact (hb2 k hk).2 h2
    · have := lb k hk; omega
theorem Pr.below (h : Pr w0 W X pa pb ca ra ta cb rb tb) (hb : Below W.heap.size W W') : Pr w0 W' X pa pb ca ra ta cb rb tb := h.beside hb fun k hk => ⟨Nat.lt_of_lt_of_le (h.xlt k hk) hb.size, .inl hk⟩
theorem Pr.less (h : Pr w0 W X pa pb ca ra ta cb rb tb) (e : ∀ k, X' k → X k) : Pr w0 W X' pa pb ca ra ta cb rb tb := h.beside (Below.refl _ W) fun k hk => ⟨h.xlt k (e k hk), .inl (e k hk)⟩
theorem Pr.fresh (h : Pr w0 W X pa pb ca ra ta cb rb tb) (o : Obj) : Pr w0 (W.alloc o) (fun k => X k ∨ k = W.heap.size) pa pb ca ra ta cb rb tb :=
  h.beside ((Below.refl _ W).alloc (Nat.le_refl _) o) fun k hk => by
    rcases hk with h1 | h1
    · exact ⟨by have := h.xlt k h1; simp; omega, .inl h1⟩
    · exact ⟨by simp; omega, .inr (by omega)⟩
theorem pr_a (h : Pr w0 W X pa pb ca ra ta cb rb tb) : ∃ Fa, Ar W Fa pa ca ra ta ∧ ∀ W' c' r' t' v, Step W Fa pa c' r' t' W' → PrPost w0 W X pa pb c' r' t' cb rb tb v (.returned v) W' := by
  obtain ⟨⟨Fa, Fb, ha, hb, ar, rr⟩, hbel, hx⟩ := h
  have lb : ∀ k, Fb k → k < W.heap.size := by obtain ⟨_, _, _, h⟩ := rr; exact h.lt
  refine ⟨Fa, ar, fun W' c' r' t' v hs => ?_⟩
  obtain ⟨F', e, ar', hk⟩ := hs
  refine ⟨rfl, ⟨⟨F', Fb, fun k h1 => ?_, hb, ar', rr.kept hk fun i hi hf => (ha i hf).2.2 hi⟩, hbel.trans (hk.below hbel.size fun k h1 => (ha k h1).1), fun k h1 => Nat.lt_of_lt_of_le (hx k h1) hk.size⟩, fun k h1 => hk.block k (hx k h1) fun h2 => (ha k h2).2.1 h1⟩
  rcases e k h1 with h2 | h2
  · exact ha k h2
  · exact ⟨Nat.le_trans hbel.size h2, fun h3 => by have := hx k h3; omega, fun h3 => by have := lb k h3; omega⟩
theorem pr_b (h : Pr w0 W X pa pb ca ra ta cb rb tb) : ∃ Fb, Rb W Fb pb cb rb tb ∧ ∀ W' c' r' t' v, RStep W Fb pb c' r' t' W' → PrPost w0 W X pa pb ca ra ta c' r' t' v (.returned v) W' := by
  obtain ⟨⟨Fa, Fb, ha, hb, ar, rr⟩, hbel, hx⟩ := h
  have la : ∀ k, Fa k → k < W.heap.size := by obtain ⟨_, _, _, _, h⟩ := ar; exact h.lt
  refine ⟨Fb, rr, fun W' c' r' t' v hs => ?_⟩
  obtain ⟨F', e, rr', hk⟩ := hs
  refine ⟨rfl, ⟨⟨Fa, F', fun k h1 => ⟨(ha k h1).1, (ha k h1).2.1, fun h2 => ?_⟩, fun k h1 => ?_, ar.kept hk fun i hi hf => (ha i hi).2.2 hf, rr'⟩, hbel.trans (hk.below hbel.size fun k h1 => (hb k h1).1), fun k h1 => Nat.lt_of_lt_of_le (hx k h1) hk.size⟩, fun k h1 => hk.block k (hx k h1) fun h2 => (hb k h2).2 h1⟩
  · rcases e k h2 with h3 | h3
    · exact (ha k h1).2.2 h3
    · have := la k h1; omega
  · rcases e k h1 with h2 | h2
    · exact hb k h2
    · exact ⟨Nat.le_trans hbel.size h2, fun h3 => by have := hx k h3; omega⟩
theorem Pr.ok (h : Pr w0 W X pa pb ca ra ta cb rb tb) : 1 ≤ ca.length ∧ ca.length ≤ 65536 ∧ ta.length ≤ 8388608 ∧ ra.length ≤ 64 := by
  obtain ⟨⟨Fa, Fb, ha, hb, ⟨_, _, _, _, h⟩, rr⟩, _, _⟩ := h
  exact ⟨h.ncs.1, h.ncs.2, h.long, h.nrs⟩
-- the program's
theorem pa_load (h : Pr w0 W X pa pb ca ra ta cb rb tb) (a : Nat) (ha : a < ca.length) (hl : ta.length < 8388608) : Calls Try.prog 76 #[.pointer (some ⟨pa, 0, none⟩), .int .i64 (a : Int)] W (PrPost w0 W X pa pb ca ra (ta ++ [(1, a)]) cb rb tb (.tuple #[.int .u64 ((ca.getD a 0 : Nat) : Int), .int .i64 0])) := by
  obtain ⟨F, ⟨_, _, _, _, hx⟩, nx⟩ := pr_a h
  refine (load_good hx a ha hl).mono ?_
  rintro e w' ⟨rfl, hs⟩
  exact nx _ _ _ _ _ hs
theorem pa_store (h : Pr w0 W X pa pb ca ra ta cb rb tb) (a v : Nat) (ha : a < ca.length) (hv : v < 18446744073709551616) (hl : ta.length < 8388608) : Calls Try.prog 43 #[.pointer (some ⟨pa, 0, none⟩), .int .i64 (a : Int), .int .u64 (v : Int)] W (PrPost w0 W X pa pb (ca.set a v) ra (ta ++ [(2, a)]) cb rb tb (.int .i64 0)) := by
  obtain ⟨F, ⟨_, _, _, _, hx⟩, nx⟩ := pr_a h
  refine (store_good hx a v ha hv hl).mono ?_
  rintro e w' ⟨rfl, hs⟩
  exact nx _ _ _ _ _ hs
theorem Pr.arx (h : Pr w0 W X pa pb ca ra ta cb rb tb) : ∃ F c pv rv pg, ArX W F pa c pv rv pg ca ra ta := by
  obtain ⟨F, ⟨_, _, _, _, hx⟩, _⟩ := pr_a h; exact ⟨_, _, _, _, _, hx⟩
theorem Pr.rbx (h : Pr w0 W X pa pb ca ra ta cb rb tb) : ∃ F c rv ev, RbX W F pb c rv ev cb rb tb := by
  obtain ⟨F, ⟨_, _, _, hx⟩, _⟩ := pr_b h; exact ⟨_, _, _, _, hx⟩
-- the reference's
theorem pb_load (h : Pr w0 W X pa pb ca ra ta cb rb tb) (a : Nat) (ha : a < cb.length) (hl : tb.length < 8388608) : Calls Try.prog 83 #[.pointer (some ⟨pb, 0, none⟩), .int .i64 (a : Int)] W (PrPost w0 W X pa pb ca ra ta cb rb (tb ++ [(1, a)]) (.tuple #[.int .u64 ((cb.getD a 0 : Nat) : Int), .int .i64 0])) := by
  obtain ⟨F, ⟨_, _, _, hx⟩, nx⟩ := pr_b h
  refine (rload_good hx a ha hl).mono ?_
  rintro e w' ⟨rfl, hs⟩
  exact nx _ _ _ _ _ hs
theorem pb_store (h : Pr w0 W X pa pb ca ra ta cb rb tb) (a v : Nat) (ha : a < cb.length) (hl : tb.length < 8388608) : Calls Try.prog 44 #[.pointer (some ⟨pb, 0, none⟩), .int .i64 (a : Int), .int .u64 (v : Int)] W (PrPost w0 W X pa pb ca ra ta (cb.set a v) rb (tb ++ [(2, a)]) (.int .i64 0)) := by
  obtain ⟨F, ⟨_, _, _, hx⟩, nx⟩ := pr_b h
  refine (rstore_good hx a v ha hl).mono ?_
  rintro e w' ⟨rfl, hs⟩
  exact nx _ _ _ _ _ hs
theorem pa_loadz (h : Pr w0 W X pa pb ca ra ta cb rb tb) (a z : Nat) (hz : z = ca.getD a 0) (ha : a < ca.length) (hl : ta.length < 8388608) : Calls Try.prog 76 #[.pointer (some ⟨pa, 0, none⟩), .int .i64 (a : Int)] W (PrPost w0 W X pa pb ca ra (ta ++ [(1, a)]) cb rb tb (.tuple #[.int .u64 (z : Int), .int .i64 0])) := by
  rw [hz]; exact pa_load h a ha hl
theorem pb_loadz (h : Pr w0 W X pa pb ca ra ta cb rb tb) (a z : Nat) (hz : z = cb.getD a 0) (ha : a < cb.length) (hl : tb.length < 8388608) : Calls Try.prog 83 #[.pointer (some ⟨pb, 0, none⟩), .int .i64 (a : Int)] W (PrPost w0 W X pa pb ca ra ta cb rb (tb ++ [(1, a)]) (.tuple #[.int .u64 (z : Int), .int .i64 0])) := by
  rw [hz]; exact pb_load h a ha hl
theorem pa_load_bad (h : Pr w0 W X pa pb ca ra ta cb rb tb) (x E : Int) (hE : stepE ca.length ta.length x = E) (h0 : E ≠ 0) : Calls Try.prog 76 #[.pointer (some ⟨pa, 0, none⟩), .int .i64 x] W fun e w' => e = .returned (.tuple #[.int .u64 0, .int .i64 E]) ∧ W = w' := by
  obtain ⟨F, c, pv, rv, pg, hx⟩ := h.arx
  subst hE
  exact load_bad hx x h0
theorem pb_load_bad (h : Pr w0 W X pa pb ca ra ta cb rb tb) (x E : Int) (hE : stepE cb.length tb.length x = E) (h0 : E ≠ 0) : Calls Try.prog 83 #[.pointer (some ⟨pb, 0, none⟩), .int .i64 x] W fun e w' => e = .returned (.tuple #[.int .u64 0, .int .i64 E]) ∧ W = w' := by
  obtain ⟨F, c, rv, ev, hx⟩ := h.rbx
  subst hE
  exact rload_bad hx x h0
theorem pa_store_bad (h : Pr w0 W X pa pb ca ra ta cb rb tb) (x v E : Int) (hE : stepE ca.length ta.length x = E) (h0 : E ≠ 0) : Calls Try.prog 43 #[.pointer (some ⟨pa, 0, none⟩), .int .i64 x, .int .u64 v] W fun e w' => e = .returned (.int .i64 E) ∧ w' = W := by
  obtain ⟨F, c, pv, rv, pg, hx⟩ := h.arx
  subst hE
  exact (store_bad hx x v h0).mono fun _ _ ⟨a, b⟩ => ⟨a, b.symm⟩
theorem pb_store_bad (h : Pr w0 W X pa pb ca ra ta cb rb tb) (x v E : Int) (hE : stepE cb.length tb.length x = E) (h0 : E ≠ 0) : Calls Try.prog 44 #[.pointer (some ⟨pb, 0, none⟩), .int .i64 x, .int .u64 v] W fun e w' => e = .returned (.int .i64 E) ∧ w' = W := by
  obtain ⟨F, c, rv, ev, hx⟩ := h.rbx
  subst hE
  exact (rstore_bad hx x v h0).mono fun _ _ ⟨a, b⟩ => ⟨a, b.symm⟩
theorem pa_has (h : Pr w0 W X pa pb ca ra ta cb rb tb) (a b : Int) (ha : -9223372036854775808 ≤ a ∧ a ≤ 9223372036854775807) : Calls Try.prog 59 #[.pointer (some ⟨pa, 0, none⟩), .int .i64 a, .int .i64 b] W fun e w' => e = .returned (.int .i64 (hasE ca.length a b)) ∧ w' = W := by
  obtain ⟨F, c, pv, rv, pg, hx⟩ := h.arx
  exact (has_any hx a b ha).mono fun _ _ ⟨a, b⟩ => ⟨a, b.symm⟩
theorem pb_has (h : Pr w0 W X pa pb ca ra ta cb rb tb) (a b : Int) (ha : -9223372036854775808 ≤ a ∧ a ≤ 9223372036854775807) : Calls Try.prog 71 #[.pointer (some ⟨pb, 0, none⟩), .int .i64 a, .int .i64 b] W fun e w' => e = .returned (.int .i64 (hasE cb.length a b)) ∧ w' = W := by
  obtain ⟨F, c, rv, ev, hx⟩ := h.rbx
  exact (rhas_any hx a b ha).mono fun _ _ ⟨a, b⟩ => ⟨a, b.symm⟩
theorem pa_room (h : Pr w0 W X pa pb ca ra ta cb rb tb) (a : Int) : Calls Try.prog 55 #[.pointer (some ⟨pa, 0, none⟩), .int .i64 a] W fun e w' => e = .returned (.int .i64 (roomE ta.length a)) ∧ w' = W := by
  obtain ⟨F, c, pv, rv, pg, hx⟩ := h.arx
  exact (room_any hx a).mono fun _ _ ⟨a, b⟩ => ⟨a, b.symm⟩
theorem pb_room (h : Pr w0 W X pa pb ca ra ta cb rb tb) (a : Int) : Calls Try.prog 69 #[.pointer (some ⟨pb, 0, none⟩), .int .i64 a] W fun e w' => e = .returned (.int .i64 (roomE tb.length a)) ∧ w' = W := by
  obtain ⟨F, c, rv, ev, hx⟩ := h.rbx
  exact (rroom_any hx a).mono fun _ _ ⟨a, b⟩ => ⟨a, b.symm⟩
/-- Since, of either: the same steps, or the same error. -/
def SincePost (W : World) (xs : List (Nat × Nat)) (E : Int) (e : Ending) (w' : World) : Prop := ∃ v, e = .returned (.tuple #[v, .int .i64 E]) ∧ ES w' v xs ∧ Below W.heap.size W w'
end
end Go.Proofs.Ytalnhbjpfnodiaa
