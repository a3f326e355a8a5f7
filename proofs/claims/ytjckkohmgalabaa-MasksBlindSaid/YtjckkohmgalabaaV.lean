/- ArenaLogs. -/
import Derived.Test.YtjckkohmgalabaaQ
namespace Go.Proofs.Ytjckkohmgalabaa
open Go.RowKit
def ecl (e : Nat × Nat) : List Value := [.int .i32 (e.1 : Int), .int .i32 (e.2 : Int)]
theorem eflat_get (xs : List (Nat × Nat)) : ∀ i e, xs[i]? = some e → (xs.flatMap ecl)[i * 2]? = some (.int .i32 (e.1 : Int)) ∧ (xs.flatMap ecl)[i * 2 + 1]? = some (.int .i32 (e.2 : Int)) := by
  induction xs with
  | nil => intro i r h; simp at h
  | cons q rs ih =>
    intro i r h
    cases i with
    | zero => simp at h; subst h; exact ⟨rfl, rfl⟩
    | succ i =>
      have := ih i r (by simpa using h)
      rw [List.flatMap_cons, show (i + 1) * 2 = (ecl q).length + i * 2 by simp [ecl]; omega, Nat.add_assoc, List.getElem?_append_right (by omega), List.getElem?_append_right (by omega), Nat.add_sub_cancel_left, Nat.add_sub_cancel_left]
      exact this
/-- The row 'want'. -/
def WR (W : World) (B : Nat) (v : Value) (tr : List (Nat × Nat)) : Prop := W.ownsRow B 62 2 v tr.length (tr.flatMap ecl)
theorem WR.es {w : World} {B : Nat} {v : Value} {xs : List (Nat × Nat)} (h : WR w B v xs) : ES w v xs := by
  obtain ⟨q, c, rfl⟩ := own_shape h
  refine ⟨q, c, rfl, fun i e hi => ?_⟩
  have hj := (List.getElem?_eq_some_iff.1 hi).1
  obtain ⟨f0, f1⟩ := eflat_get xs i e hi
  have hlt := World.ownsRow.lt h
  rcases h.2 with ⟨h1, h2⟩ | ⟨g, cap, cur, h1, _, _, h3, _⟩
  · omega
  · cases h1
    refine ⟨g, 0, rfl, ?_⟩
    rw [Nat.zero_add]
    exact ⟨(World.ownsRow.cellAt h _ (by omega)).trans f0, (World.ownsRow.cellAt h _ (by omega)).trans f1, (hlt g rfl).2⟩
theorem WR.of {w w' : World} {B : Nat} {v : Value} {xs : List (Nat × Nat)} (h : WR w B v xs) (k : ∀ g, v.ownBlock = some g → w'.heap[g]? = w.heap[g]?) : WR w' B v xs := own_of_block h k
theorem WR.below {w w' : World} {B : Nat} {v : Value} {xs : List (Nat × Nat)} (h : WR w B v xs) (hb : Below w.heap.size w w') : WR w' B v xs := own_below h hb
/-- The blocks of 'want'. -/
def Wb (v : Value) (b : Nat) : Prop := v.ownBlock = some b
theorem ev_info : (Try.prog.info? 62).map (fun i => (i.zero, i.size, i.bytes)) = some (some (.agg #[.int .i32 0, .int .i32 0]), 2, 8) := by kernel_rfl
theorem ev_new (w : World) (e : Nat × Nat) : ∀ j u, (ecl e)[j]? = some u → (w.alloc (.cells #[.int .i32 (e.1 : Int), .int .i32 (e.2 : Int)] 62)).cell? ((⟨w.heap.size, 0, none⟩ : Addr).add j) = some u := by
  intro j u hj
  have hc := fun i => cell_blk (heap_alloc_new w (.cells #[.int .i32 (e.1 : Int), .int .i32 (e.2 : Int)] 62)) i
  rw [Addr.add_mid, hc, Nat.zero_add]
  simpa [ecl] using hj
theorem ecl_one (e : Nat × Nat) : ∀ u ∈ ecl e, u.oneCell' = true := by intro u hu; simp [ecl] at hu; rcases hu with rfl | rfl <;> rfl
theorem URow.of_block {w w' : World} {g n c : Nat} {xs : List Nat} (h : URow w (.slice (some ⟨g, 0, none⟩) n c) xs) (e : w'.heap[g]? = w.heap[g]?) : URow w' (.slice (some ⟨g, 0, none⟩) n c) xs := by
  obtain ⟨q, c', hq, hl, hx⟩ := h
  refine ⟨q, c', hq, hl, fun i x hi => ?_⟩
  obtain ⟨b, o, rfl, hc⟩ := hx i x hi
  cases hq
  exact ⟨g, 0, rfl, (World.cell?_of_block (w := w) (a := ⟨g, 0 + i, none⟩) e).trans hc⟩
theorem ow_cells2 {w0 W : World} {R : Nat → Prop} {p n : Nat} {cs : List Nat} {rs : List Rg} {tr : List (Nat × Nat)} (h : Ow w0 W R p cs rs tr) (hn : cs.length = n) : Calls Try.prog 30 #[.pointer (some ⟨p, 0, none⟩)] W fun e w' => ∃ g c, e = .returned (.slice (some ⟨g, 0, none⟩) n c) ∧ URow w' (.slice (some ⟨g, 0, none⟩) n c) cs ∧ Below W.heap.size W w' ∧ Ow w0 w' (fun b => R b ∨ b = g) p cs rs tr := by
  subst hn
  refine (ow_cells h).mono ?_
  rintro e w' ⟨g, c, rfl, hg, ho, hb⟩
  refine ⟨g, c, rfl, ho.row, hb, h.beside hb fun k hk => ?_⟩
  rcases hk with h1 | h1
  · exact ⟨Nat.lt_of_lt_of_le (h.rlt k h1) hb.size, .inl h1⟩
  · subst h1; exact ⟨ho.lt, .inr hg⟩
theorem own_cap {w : World} {B : Nat} {e : TypeId} {s n c : Nat} {q : Option Addr} {xs : List Value} (h : w.ownsRow B e s (.slice q n c) n xs) : n ≤ c := by
  rcases h.2 with ⟨h1, h2⟩ | ⟨g, cap, cur, h1, _, _, h3, _⟩
  · omega
  · cases h1; exact h3
theorem es_drop {w : World} {q : Option Addr} {N c c' j : Nat} {xs : List (Nat × Nat)} (h : ES w (.slice q N c) xs) (hN : N = xs.length) : ES w (.slice (Option.map (fun x => x.add (j * 2)) q) (N - j) c') (xs.drop j) := by
  obtain ⟨q', c2, hq, hx⟩ := h
  cases hq
  refine ⟨_, c', by rw [List.length_drop, hN], fun i e hi => ?_⟩
  rw [List.getElem?_drop] at hi
  obtain ⟨b, o, rfl, h1, h2, h3⟩ := hx (j + i) e hi
  refine ⟨b, o + j * 2, ?_, ?_, ?_, h3⟩
  · simp [Addr.add_mid]
  · rw [← h1]; congr 2; omega
  · rw [← h2]; congr 2; omega
theorem es_drop0 {w : World} {q : Option Addr} {N c j : Nat} {xs : List (Nat × Nat)} (hN : N = xs.length) (hj : N ≤ j) : ES w (.slice q (N - j) c) (xs.drop j) := by
  refine ⟨_, c, by rw [List.length_drop, hN], fun i e hi => ?_⟩
  rw [List.getElem?_drop, List.getElem?_eq_none (by omega)] at hi
  cases hi
end Go.Proofs.Ytjckkohmgalabaa
