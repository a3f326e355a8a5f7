/- steps: the steps of a run are put at the end of an own row. -/
import Derived.Test.YtihhgnjkmhdpmaaGreatDoorZa
import Derived.Test.YtihhgnjkmhdpmaaGreatDoorE
import Derived.OwnWalk
import Derived.Maps.AppendAt
namespace Go.Proofs.YtihhgnjkmhdpmaaGreatDoor
open Go.RowKit
/-- What a call does to the world that appends to the own row v0 (now vj): w1 is where it began. -/
def StR (w1 : World) (v0 vj : Value) (wr : World) : Prop := w1.grownBy wr v0.ownBlock ∧ (vj.ownBlock = v0.ownBlock ∨ ∃ g, vj.ownBlock = some g ∧ w1.heap.size ≤ g)
theorem StR.refl (w1 : World) (v0 : Value) : StR w1 v0 v0 w1 := ⟨World.grownBy.refl _ _, .inl rfl⟩
theorem StR.step {w1 wr wr2 : World} {v0 vj v2 : Value} (o : Obj) (h : StR w1 v0 vj wr) (hg : (wr.alloc o).grownBy wr2 vj.ownBlock) (hat : v2.ownBlock = vj.ownBlock ∨ v2.ownBlock = some (wr.alloc o).heap.size) : StR w1 v0 v2 wr2 := by
  obtain ⟨h1, h2⟩ := h
  have hs : w1.heap.size ≤ wr.heap.size := h1.size
  have hs2 : (wr.alloc o).heap.size = wr.heap.size + 1 := by simp
  have hs3 : (wr.alloc o).heap.size ≤ wr2.heap.size := hg.size
  refine ⟨⟨hg.os.trans h1.os, hg.tape.trans h1.tape, hg.output.trans h1.output, by omega, fun k hk hne => ?_⟩, ?_⟩
  · have a1 := h1.block k hk hne
    have a2 : (wr.alloc o).heap[k]? = wr.heap[k]? := ((Below.refl wr.heap.size wr).alloc (Nat.le_refl _) o).block k (by omega)
    have a3 : wr2.heap[k]? = (wr.alloc o).heap[k]? := hg.block k (by omega) (by
      intro e
      rcases h2 with h2 | ⟨g, h2, h3⟩
      · exact hne (e.trans h2)
      · rw [h2] at e; cases e; omega)
    exact a3.trans (a2.trans a1)
  · rcases hat with e | e
    · rcases h2 with h2 | ⟨g, h2, h3⟩
      · exact .inl (e.trans h2)
      · exact .inr ⟨g, e.trans h2, h3⟩
    · exact .inr ⟨_, e, by omega⟩
theorem StR.of_alloc {w wr : World} {o : Obj} {v vj : Value} (h : StR (w.alloc o) v vj wr) : StR w v vj wr := by
  obtain ⟨h1, h2⟩ := h
  have hs : (w.alloc o).heap.size = w.heap.size + 1 := by simp
  have hs2 : (w.alloc o).heap.size ≤ wr.heap.size := h1.size
  refine ⟨⟨h1.os, h1.tape, h1.output, by omega, fun k hk hne => (h1.block k (by omega) hne).trans (((Below.refl w.heap.size w).alloc (Nat.le_refl _) o).block k hk)⟩, ?_⟩
  rcases h2 with h2 | ⟨g, h2, h3⟩
  · exact .inl h2
  · exact .inr ⟨g, h2, by omega⟩
theorem flat_snoc (l : List Ev) (x : Ev) : flat (l ++ [x]) = flat l ++ [.int .i32 x.1, .int .i32 x.2] := by rw [flat_app]; rfl
theorem two_new (w : World) (a b : Value) (t : TypeId) : ∀ j u, [a, b][j]? = some u → (w.alloc (.cells #[a, b] t)).cell? ((⟨w.heap.size, 0, none⟩ : Addr).add j) = some u := by
  intro j u hj
  match j, hj with
  | 0, hj => cases hj; simp [Addr.add, World.cell?_alloc_new]
  | 1, hj => cases hj; simp [Addr.add, World.cell?_alloc_new]
def StPost2 (w : World) (v : Value) (l : List Ev) (e : Ending) (w' : World) : Prop := ∃ v', e = .returned v' ∧ OwT w' 0 v' l ∧ StR w v v' w'
set_option maxHeartbeats 1600000 in
set_option maxRecDepth 100000 in
theorem steps_any (r : Run) (hg : r.good) (v : Value) (l : List Ev) (w : World) (hv : OwT w 0 v l) (hl : l.length + r.n ≤ 8388608) : Calls Tryz.prog 31 #[runV r, v] w (StPost2 w v (l ++ r.steps)) := by
  obtain ⟨i0, hi, hz0, hz1, hz2⟩ := info_parts info_ev
  obtain ⟨k, a, n⟩ := r
  obtain ⟨hk, ha, hn, hs⟩ := hg
  unfold Run.steps runV
  simp only at hk ha hn hs hl ⊢
  obtain ⟨O, hO⟩ : ∃ O : Obj, O = .cells #[.int .i64 k, .int .i64 a, .int .i64 (n : Int)] 56 := ⟨_, rfl⟩
  have HV := Lib.hid (show OwT (w.alloc O) 0 v l from World.ownsRow.alloc hv O)
  have hlt := fun g e => (World.ownsRow.lt hv g e).2
  have hc : ∀ wr, (w.alloc O).grownBy wr v.ownBlock → wr.cell? ⟨w.heap.size, 0, none⟩ = some (.int .i64 k) ∧ wr.cell? ⟨w.heap.size, 1, none⟩ = some (.int .i64 a) ∧ wr.cell? ⟨w.heap.size, 2, none⟩ = some (.int .i64 (n : Int)) := by
    intro wr hg
    have hne : some w.heap.size ≠ v.ownBlock := fun e => by have := hlt _ e.symm; omega
    have hc0 : ∀ j, (w.alloc O).cell? ⟨w.heap.size, j, none⟩ = (#[.int .i64 k, .int .i64 a, .int .i64 (n : Int)] : Array Value)[j]? := fun j => by rw [hO]; simp [World.cell?_alloc_new]
    exact ⟨hg.cell ((hc0 0).trans rfl) hne, hg.cell ((hc0 1).trans rfl) hne, hg.cell ((hc0 2).trans rfl) hne⟩
  have HC := Lib.hid hc
  have w1 : IntKind.i64.wrap (a + (n : Int)) = a + (n : Int) := IntWalk.i64_in _ (by omega)
  have w2 : IntKind.i32.wrap k = k := by rw [IntKind.wrap_i32]; rcases hk with rfl | rfl <;> decide
  have HK := Lib.hid hk
  clear hv hlt hc hk
  subst hO
  go_enter Tryz.func31, Tryz.ntmps31
  go_wp2
  go_loopw [1, 5] (fun v1 s5 wr => ∃ j : Nat, j ≤ n ∧ s5 = .int .i64 (a + (j : Int)) ∧ Hid (OwT wr 0 v1 (l ++ stepsF k a j)) ∧ Hid (StR (w.alloc (.cells #[.int .i64 k, .int .i64 a, .int .i64 (n : Int)] 56)) v v1 wr)) (fun _ s5 _ => (a + (n : Int) - intOf s5).toNat)
  case atStart => exact ⟨0, Nat.zero_le _, by simp, Lib.hid (by rw [stepsF, List.append_nil]; exact HV.out), Lib.hid (StR.refl _ _)⟩
  case round =>
    obtain ⟨j, hj, rfl, HO, HS⟩ := hrel
    obtain ⟨c0, c1, c2⟩ := HC.out _ HS.out.1
    by_cases hlt : j < n
    · have tl : decide (a + (j : Int) < a + (n : Int)) = true := decide_eq_true (by omega)
      have tl2 : decide ((j : Int) < (n : Int)) = true := decide_eq_true (by omega)
      have w3 : IntKind.i32.wrap (a + (j : Int)) = a + (j : Int) := IntWalk.i32_in _ (by omega)
      have w4 : IntKind.i64.wrap (a + (j : Int) + 1) = a + (j : Int) + 1 := IntWalk.i64_in _ (by omega)
      have HL := Lib.hid (show (l ++ stepsF k a j).length ≤ 8388608 by rw [List.length_append, stepsF_len]; omega)
      go_wp2_with (at_builtin; refine wpList_append_own_at _ rfl _ _ 22 rfl 0 39 i0 (.agg #[.int .i32 0, .int .i32 0]) 2 8 Tryz.underlying22 hi hz0 hz1 hz2 rfl (by decide) _ _ _ rfl (World.ownsRow.alloc HO.out (.cells #[.int .i32 k, .int .i32 (a + (j : Int))] 39)) ⟨_, 0, none⟩ 1 1 [.int .i32 k, .int .i32 (a + (j : Int))] rfl rfl (two_new _ _ _ _) (by intro u hu; simp at hu; rcases hu with rfl | rfl <;> rfl) (by have := HL.out; simp only [maxLen]; omega) (by have := HL.out; omega) (Nat.zero_le _) ?_; intro v2 wr2 hown hg hnil hat; have HW := Lib.hid hown; have HS2 := Lib.hid (StR.step _ HS.out hg hat); clear hown hg hnil hat)
      go_roundw
      case rel =>
        refine ⟨j + 1, by omega, by (try rw [w4]); congr 1; omega, Lib.hid ?_, HS2⟩
        have h1 := HW.out
        unfold OwT
        rw [stepsF_snoc, ← List.append_assoc, flat_snoc, List.length_append, List.length_singleton]
        exact h1
      case measure => simp only [intOf]; omega
    · have tl : decide (a + (j : Int) < a + (n : Int)) = false := decide_eq_false (by omega)
      have tl2 : decide ((j : Int) < (n : Int)) = false := decide_eq_false (by omega)
      have HO2 := Lib.hid (show OwT _ 0 _ (l ++ stepsF k a n) by rw [show n = j by omega]; exact HO.out)
      go_wp2
      go_ret
      exact ⟨_, rfl, HO2.out, HS.out.of_alloc⟩
end Go.Proofs.YtihhgnjkmhdpmaaGreatDoor
