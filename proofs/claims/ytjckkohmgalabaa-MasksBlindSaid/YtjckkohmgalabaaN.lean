/- An arena of a law's own. -/
import Derived.Test.YtjckkohmgalabaaM
namespace Go.Proofs.Ytjckkohmgalabaa
open Go.RowKit
/-- An arena of the call's own (the call began in w0), beside the blocks R. -/
structure Ow (w0 W : World) (R : Nat → Prop) (p : Nat) (cs : List Nat) (rs : List Rg) (tr : List (Nat × Nat)) : Prop where
  ex : ∃ F, (∀ k, F k → w0.heap.size ≤ k ∧ ¬ R k) ∧ Ar W F p cs rs tr
  bel : Below w0.heap.size w0 W
  rlt : ∀ k, R k → k < W.heap.size
/-- What a call leaves: the arena, and the blocks R as they were. -/
def OwPost (w0 W : World) (R : Nat → Prop) (p : Nat) (cs : List Nat) (rs : List Rg) (tr : List (Nat × Nat)) (v : Value) (e : Ending) (W' : World) : Prop :=
  e = .returned v ∧ Ow w0 W' R p cs rs tr ∧ W.heap.size ≤ W'.heap.size ∧ ∀ k, R k → W'.heap[k]? = W.heap[k]?
section
variable {w0 W W' : World} {R : Nat → Prop} {p : Nat} {cs cs' : List Nat} {rs rs' : List Rg} {tr tr' : List (Nat × Nat)}
theorem Ow.kept {G R' : Nat → Prop} (h : Ow w0 W R p cs rs tr) (hk : Kept G W W') (hG : ∀ k, G k → (R k ∨ W.heap.size ≤ k) ∧ w0.heap.size ≤ k) (hR : ∀ k, R' k → k < W'.heap.size ∧ (R k ∨ W.heap.size ≤ k)) : Ow w0 W' R' p cs rs tr := by
  obtain ⟨⟨F, hF, ha⟩, hb, hr⟩ := h
  have hlt : ∀ k, F k → k < W.heap.size := by obtain ⟨_, _, _, _, hx⟩ := ha; exact hx.lt
  refine ⟨⟨F, fun k hf => ⟨(hF k hf).1, fun h2 => ?_⟩, ha.kept hk fun k hf h2 => ?_⟩, hb.trans (hk.below hb.size fun k hk2 => (hG k hk2).2), fun k h2 => (hR k h2).1⟩
  · rcases (hR k h2).2 with h3 | h3
    · exact (hF k hf).2 h3
    · have := hlt k hf; omega
  · rcases (hG k h2).1 with h3 | h3
    · exact (hF k hf).2 h3
    · have := hlt k hf; omega
theorem Ow.below (h : Ow w0 W R p cs rs tr) (hk : Below W.heap.size W W') : Ow w0 W' R p cs rs tr :=
  h.kept (G := fun _ => False) (Kept.of_below hk) (fun _ hf => hf.elim) fun k hr => ⟨Nat.lt_of_lt_of_le (h.rlt k hr) hk.size, .inl hr⟩
theorem Ow.beside {R' : Nat → Prop} (h : Ow w0 W R p cs rs tr) (hk : Below W.heap.size W W') (hR : ∀ k, R' k → k < W'.heap.size ∧ (R k ∨ W.heap.size ≤ k)) : Ow w0 W' R' p cs rs tr :=
  h.kept (G := fun _ => False) (Kept.of_below hk) (fun _ hf => hf.elim) hR
/-- A call that changed this arena alone. -/
theorem Ow.step {F : Nat → Prop} (hb : Below w0.heap.size w0 W) (hr : ∀ k, R k → k < W.heap.size) (hF : ∀ k, F k → w0.heap.size ≤ k ∧ ¬ R k) (h : Step W F p cs' rs' tr' W') {v : Value} : OwPost w0 W R p cs' rs' tr' v (.returned v) W' := by
  obtain ⟨F', e, ha, hk⟩ := h
  refine ⟨rfl, ⟨⟨F', fun k h1 => ?_, ha⟩, hb.trans (hk.below hb.size fun k h1 => (hF k h1).1), fun k h1 => Nat.lt_of_lt_of_le (hr k h1) hk.size⟩, hk.size, fun k h1 => hk.block k (hr k h1) fun h2 => (hF k h2).2 h1⟩
  rcases e k h1 with h2 | h2
  · exact hF k h2
  · exact ⟨Nat.le_trans hb.size h2, fun h3 => by have := hr k h3; omega⟩
theorem Ow.ok (h : Ow w0 W R p cs rs tr) : 1 ≤ cs.length ∧ cs.length ≤ 65536 ∧ tr.length ≤ 8388608 ∧ rs.length ≤ 64 ∧ endR rs ≤ cs.length ∧ (∀ r ∈ rs, r.base + r.size ≤ cs.length ∧ r.name.size ≤ 16 ∧ 1 ≤ r.size) ∧ (∀ e ∈ tr, 1 ≤ e.1 ∧ e.1 < 3 ∧ e.2 < cs.length) := by
  obtain ⟨⟨F, hF, _, _, _, _, h⟩, _, _⟩ := h
  exact ⟨h.ncs.1, h.ncs.2, h.long, h.nrs, endR_le h.wrs, h.wrs, h.good⟩
theorem ow_new (n : Nat) (w0 W : World) (R : Nat → Prop) (hb : Below w0.heap.size w0 W) (hr : ∀ k, R k → k < W.heap.size) (h1 : 1 ≤ n) (h2 : n ≤ 65536) :
    Calls Try.prog 38 #[.int .i64 (n : Int)] W fun e W' => ∃ p, e = .returned (.tuple #[.pointer (some ⟨p, 0, none⟩), .int .i64 0]) ∧ Ow w0 W' R p (List.replicate n 0) [] [] ∧ Below W.heap.size W W' :=
  (new_any n W h1 h2).mono fun e W' ⟨p, F, he, ha, hb2, hF⟩ => ⟨p, he, ⟨⟨F, fun k hk => ⟨Nat.le_trans hb.size (hF k hk), fun h3 => by have := hr k h3; have := hF k hk; omega⟩, ha⟩, hb.trans (hb2.mono hb.size), fun k hk => Nat.lt_of_lt_of_le (hr k hk) hb2.size⟩, hb2⟩
theorem ow_load (h : Ow w0 W R p cs rs tr) (a : Nat) (ha : a < cs.length) (hl : tr.length < 8388608) : Calls Try.prog 52 #[.pointer (some ⟨p, 0, none⟩), .int .i64 (a : Int)] W (OwPost w0 W R p cs rs (tr ++ [(1, a)]) (.tuple #[.int .u64 ((cs.getD a 0 : Nat) : Int), .int .i64 0])) := by
  obtain ⟨⟨F, hF, _, _, _, _, hx⟩, hb, hr⟩ := h
  refine (load_good hx a ha hl).mono ?_
  rintro e w' ⟨rfl, hs⟩
  exact Ow.step hb hr hF hs
theorem ow_store (h : Ow w0 W R p cs rs tr) (a v : Nat) (ha : a < cs.length) (hv : v < 18446744073709551616) (hl : tr.length < 8388608) : Calls Try.prog 40 #[.pointer (some ⟨p, 0, none⟩), .int .i64 (a : Int), .int .u64 (v : Int)] W (OwPost w0 W R p (cs.set a v) rs (tr ++ [(2, a)]) (.int .i64 0)) := by
  obtain ⟨⟨F, hF, _, _, _, _, hx⟩, hb, hr⟩ := h
  refine (store_good hx a v ha hv hl).mono ?_
  rintro e w' ⟨rfl, hs⟩
  exact Ow.step hb hr hF hs
theorem ow_load_bad (h : Ow w0 W R p cs rs tr) (x : Int) (hx : stepE cs.length tr.length x ≠ 0) : Calls Try.prog 52 #[.pointer (some ⟨p, 0, none⟩), .int .i64 x] W fun e w' => e = .returned (.tuple #[.int .u64 0, .int .i64 (stepE cs.length tr.length x)]) ∧ W = w' := by
  obtain ⟨⟨F, hF, _, _, _, _, h⟩, _, _⟩ := h
  exact load_bad h x hx
theorem ow_store_bad (h : Ow w0 W R p cs rs tr) (x v : Int) (hx : stepE cs.length tr.length x ≠ 0) : Calls Try.prog 40 #[.pointer (some ⟨p, 0, none⟩), .int .i64 x, .int .u64 v] W fun e w' => e = .returned (.int .i64 (stepE cs.length tr.length x)) ∧ W = w' := by
  obtain ⟨⟨F, hF, _, _, _, _, h⟩, _, _⟩ := h
  exact store_bad h x v hx
theorem ow_steps (h : Ow w0 W R p cs rs tr) : Calls Try.prog 32 #[.pointer (some ⟨p, 0, none⟩)] W fun e w' => e = .returned (.int .i64 (tr.length : Int)) ∧ W = w' := by
  obtain ⟨⟨F, hF, _, _, _, _, h⟩, _, _⟩ := h
  exact steps_any h
theorem ow_has (h : Ow w0 W R p cs rs tr) (a b : Int) (ha : -9223372036854775808 ≤ a ∧ a ≤ 9223372036854775807) : Calls Try.prog 69 #[.pointer (some ⟨p, 0, none⟩), .int .i64 a, .int .i64 b] W fun e w' => e = .returned (.int .i64 (hasE cs.length a b)) ∧ W = w' := by
  obtain ⟨⟨F, hF, _, _, _, _, h⟩, _, _⟩ := h
  exact has_any h a b ha
theorem ow_room (h : Ow w0 W R p cs rs tr) (k : Int) : Calls Try.prog 70 #[.pointer (some ⟨p, 0, none⟩), .int .i64 k] W fun e w' => e = .returned (.int .i64 (roomE tr.length k)) ∧ W = w' := by
  obtain ⟨⟨F, hF, _, _, _, _, h⟩, _, _⟩ := h
  exact room_any h k
theorem ow_events (h : Ow w0 W R p cs rs tr) : Calls Try.prog 29 #[.pointer (some ⟨p, 0, none⟩)] W (EvPost W tr) := by
  obtain ⟨⟨F, hF, _, _, _, _, h⟩, _, _⟩ := h
  exact events_any h
theorem ow_since_bad (h : Ow w0 W R p cs rs tr) (x : Int) (hx : x < 0 ∨ (tr.length : Int) < x) : Calls Try.prog 37 #[.pointer (some ⟨p, 0, none⟩), .int .i64 x] W fun e w' => e = .returned (.tuple #[.slice none 0 0, .int .i64 7]) ∧ W = w' := by
  obtain ⟨⟨F, hF, _, _, _, _, h⟩, _, _⟩ := h
  exact since_bad h x hx
theorem ow_since (h : Ow w0 W R p cs rs tr) (k : Nat) (hk : k ≤ tr.length) : Calls Try.prog 37 #[.pointer (some ⟨p, 0, none⟩), .int .i64 (k : Int)] W (SiPost W (tr.drop k)) := by
  obtain ⟨⟨F, hF, _, _, _, _, h⟩, _, _⟩ := h
  exact since_good h k hk
theorem ow_cells (h : Ow w0 W R p cs rs tr) : Calls Try.prog 30 #[.pointer (some ⟨p, 0, none⟩)] W (CePost W cs) := by
  obtain ⟨⟨F, hF, _, _, _, _, h⟩, _, _⟩ := h
  exact cells_any h
end
/-- The calls of awake. -/
theorem two_es (W : World) (e1 e2 : Nat × Nat) : ES (W.alloc (.cells #[.int .i32 (e1.1 : Int), .int .i32 (e1.2 : Int), .int .i32 (e2.1 : Int), .int .i32 (e2.2 : Int)] 62)) (.slice (some ⟨W.heap.size, 0, none⟩) 2 2) [e1, e2] := by
  have hb := heap_alloc_new W (.cells #[.int .i32 (e1.1 : Int), .int .i32 (e1.2 : Int), .int .i32 (e2.1 : Int), .int .i32 (e2.2 : Int)] 62)
  refine ⟨_, _, rfl, fun i e hi => ⟨W.heap.size, 0, rfl, ?_⟩⟩
  rw [Nat.zero_add, cell_blk hb, cell_blk hb]
  match i, hi with
  | 0, hi => cases hi; exact ⟨rfl, rfl, by simp⟩
  | 1, hi => cases hi; exact ⟨rfl, rfl, by simp⟩
abbrev sA : ByteArray := ⟨#[97]⟩
abbrev sB : ByteArray := ⟨#[98]⟩
end Go.Proofs.Ytjckkohmgalabaa
