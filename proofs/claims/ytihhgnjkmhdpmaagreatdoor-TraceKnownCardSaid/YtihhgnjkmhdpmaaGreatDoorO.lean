/- firstRun. -/
import Derived.Test.YtihhgnjkmhdpmaaGreatDoorC
import Derived.Test.YtihhgnjkmhdpmaaGreatDoorN
namespace Go.Proofs.YtihhgnjkmhdpmaaGreatDoor
open Go.RowKit
attribute [local go_sem] guardEv
/-- A trace whose steps lie in block b. -/
def TRb (W : World) (b : Nat) (v : Value) (l : List Ev) : Prop :=
  ∃ p c, v = .slice p l.length c ∧ l.length ≤ c ∧ ∀ i x, l[i]? = some x → ∃ o, p = some ⟨b, o, none⟩ ∧ b < W.heap.size ∧ W.cell? ⟨b, o + i * 2, none⟩ = some (.int .i32 x.1) ∧ W.cell? ⟨b, o + i * 2 + 1, none⟩ = some (.int .i32 x.2)
theorem block_cell {w w' : World} {b : Nat} (h : w'.heap[b]? = w.heap[b]?) (o : Nat) : w'.cell? ⟨b, o, none⟩ = w.cell? ⟨b, o, none⟩ := by
  unfold World.cell?; simp only [h]
theorem TRb.kept {w w' : World} {b : Nat} {v : Value} {l : List Ev} (h : TRb w b v l) (hb : w'.heap[b]? = w.heap[b]?) (hs : w.heap.size ≤ w'.heap.size) : TRb w' b v l := by
  obtain ⟨p, c, rfl, hc, hx⟩ := h
  refine ⟨p, c, rfl, hc, fun i x hi => ?_⟩
  obtain ⟨o, rfl, h1, h2, h3⟩ := hx i x hi
  exact ⟨o, rfl, Nat.lt_of_lt_of_le h1 hs, (block_cell hb _).trans h2, (block_cell hb _).trans h3⟩
theorem TRb.form {W : World} {b : Nat} {v : Value} {l : List Ev} (h : TRb W b v l) (hn : 0 < l.length) : ∃ o c, v = .slice (some ⟨b, o, none⟩) l.length c ∧ l.length ≤ c ∧ b < W.heap.size ∧ ∀ i x, l[i]? = some x → W.cell? ⟨b, o + i * 2, none⟩ = some (.int .i32 x.1) ∧ W.cell? ⟨b, o + i * 2 + 1, none⟩ = some (.int .i32 x.2) := by
  obtain ⟨p, c, rfl, hc, hx⟩ := h
  obtain ⟨o, rfl, h1, _⟩ := hx 0 l[0] (List.getElem?_eq_getElem hn)
  refine ⟨o, c, rfl, hc, h1, fun i x hi => ?_⟩
  obtain ⟨o', e, _, h⟩ := hx i x hi
  cases e; exact h
theorem TR.blk {W : World} {v : Value} {l : List Ev} (h : TR W v l) (hn : 0 < l.length) : ∃ b, b < W.heap.size ∧ TRb W b v l := by
  obtain ⟨b, o, c, rfl, hc, hb, hx⟩ := h.form hn
  exact ⟨b, hb, _, c, rfl, hc, fun i x hi => ⟨o, rfl, hb, hx i x hi⟩⟩
theorem grow_hit {k a : Int} {l : List Ev} {j : Nat} {x : Ev} (h : l[j]? = some x) (e : x = (k, a)) : growN k a (l.drop j) = growN k (a + 1) (l.drop (j + 1)) + 1 := by
  rw [List.drop_eq_getElem_cons (List.getElem?_eq_some_iff.1 h).1, (List.getElem?_eq_some_iff.1 h).2, growN, if_pos e]
theorem grow_miss {k a : Int} {l : List Ev} {j : Nat} {x : Ev} (h : l[j]? = some x) (e : x ≠ (k, a)) : growN k a (l.drop j) = 0 := by
  rw [List.drop_eq_getElem_cons (List.getElem?_eq_some_iff.1 h).1, (List.getElem?_eq_some_iff.1 h).2, growN, if_neg e]
theorem grow_end {k a : Int} {l : List Ev} {j : Nat} (h : l.length ≤ j) : growN k a (l.drop j) = 0 := by rw [List.drop_eq_nil_of_le h]; rfl
/-- The first run of a trace. -/
def headR (l : List Ev) : Run := match l with
  | [] => ⟨0, 0, 0⟩
  | x :: r => ⟨x.1, x.2, growN x.1 (x.2 + 1) r + 1⟩
theorem ev_dec (x : Ev) (k a : Int) : ∀ W : World, (Op.equalIn 10000 39 (.agg #[.int .i32 x.1, .int .i32 x.2]) (.agg #[.int .i32 k, .int .i32 a])).run Tryz.prog W = .ok (decide (x = (k, a))) W := fun W => by
  rw [eqEv]
  congr 1
  by_cases h : x = (k, a)
  · rw [h]; simp
  · rw [decide_eq_false h]; exact ev_ne h
/-- The two blocks of firstRun: its result, and the run as it is so far. -/
def FrI (w : World) (k a : Int) (j : Nat) (W : World) : Prop :=
  W.heap[w.heap.size]? = some (.cells #[.int .i64 0, .int .i64 0, .int .i64 0] 56 (0, 0)) ∧ W.heap[w.heap.size + 1]? = some (.cells #[.int .i64 k, .int .i64 a, .int .i64 ((j : Int) + 1)] 56 (0, 0)) ∧ Below w.heap.size w W
theorem FrI.start (w : World) (k a : Int) : FrI w k a 0 (((w.alloc (.cells #[.int .i64 0, .int .i64 0, .int .i64 0] 56)).alloc (.cells #[.int .i64 k, .int .i64 a, .int .i64 1] 56)).drew) := by
  refine ⟨?_, ?_, (((Below.refl _ w).alloc (Nat.le_refl _) _).alloc (by simp) _).drew⟩
  · show ((w.alloc _).alloc _).heap[w.heap.size]? = _
    rw [Below.heap_alloc _ _ _ (by simp)]
    exact heap_alloc_new w _
  · show ((w.alloc _).alloc _).heap[w.heap.size + 1]? = _
    have := heap_alloc_new (w.alloc (.cells #[.int .i64 0, .int .i64 0, .int .i64 0] 56)) (.cells #[.int .i64 k, .int .i64 a, .int .i64 1] 56)
    rwa [World.size_alloc] at this
section
variable {w W : World} {k a : Int} {j : Nat}
theorem FrI.c0 (h : FrI w k a j W) : W.cell? ⟨w.heap.size + 1, 0, none⟩ = some (.int .i64 k) := by simp [World.cell?, h.2.1]
theorem FrI.c1 (h : FrI w k a j W) : W.cell? ⟨w.heap.size + 1, 1, none⟩ = some (.int .i64 a) := by simp [World.cell?, h.2.1]
theorem FrI.c2 (h : FrI w k a j W) : W.cell? ⟨w.heap.size + 1, 2, none⟩ = some (.int .i64 ((j : Int) + 1)) := by simp [World.cell?, h.2.1]
theorem FrI.frz (h : FrI w k a j W) (i : Nat) : W.frozen? ⟨w.heap.size + 1, i, none⟩ = false := by simp [World.frozen?, h.2.1]
theorem FrI.r0 (h : FrI w k a j W) : W.cell? ⟨w.heap.size, 0, none⟩ = some (.int .i64 0) ∧ W.cell? ⟨w.heap.size, 1, none⟩ = some (.int .i64 0) ∧ W.cell? ⟨w.heap.size, 2, none⟩ = some (.int .i64 0) := by simp [World.cell?, h.1]
theorem FrI.rf (h : FrI w k a j W) (i : Nat) : W.frozen? ⟨w.heap.size, i, none⟩ = false := by simp [World.frozen?, h.1]
theorem FrI.put (h : FrI w k a j W) (q : Nat) (m : Nat) (hm : (m : Int) + 1 = (j : Int) + 1 + 1) : FrI w k a m (((W.drewN q).setCell ⟨w.heap.size + 1, 2, none⟩ (.int .i64 ((j : Int) + 1 + 1)))) := by
  refine ⟨?_, ?_, (show Below w.heap.size w (W.drewN q) from ⟨h.2.2.os, h.2.2.tape, h.2.2.output, h.2.2.size, h.2.2.block⟩).setCell (p := ⟨w.heap.size + 1, 2, none⟩) (by simp) _⟩
  · rw [Below.heap_setCell _ _ _ _ (by simp)]; exact h.1
  · have := heap_setCell_same (W.drewN q) (w.heap.size + 1) 2 _ _ (.int .i64 ((j : Int) + 1 + 1)) (show (W.drewN q).heap[w.heap.size + 1]? = _ from h.2.1)
    rw [this, hm]; rfl
theorem FrI.res (h : FrI w k a j W) (q : Nat) : ((((W.drewN q).setCell ⟨w.heap.size, 0, none⟩ (.int .i64 k)).setCell ⟨w.heap.size, 1, none⟩ (.int .i64 a)).setCell ⟨w.heap.size, 2, none⟩ (.int .i64 ((j : Int) + 1))).heap[w.heap.size]? = some (.cells #[.int .i64 k, .int .i64 a, .int .i64 ((j : Int) + 1)] 56 (0, 0)) := by
  have h1 := heap_setCell_same (W.drewN q) w.heap.size 0 _ _ (.int .i64 k) (show (W.drewN q).heap[w.heap.size]? = _ from h.1)
  have h2 := heap_setCell_same _ w.heap.size 1 _ _ (.int .i64 a) h1
  have h3 := heap_setCell_same _ w.heap.size 2 _ _ (.int .i64 ((j : Int) + 1)) h2
  rw [h3]; rfl
theorem FrI.resB (h : FrI w k a j W) (q : Nat) : Below w.heap.size w ((((W.drewN q).setCell ⟨w.heap.size, 0, none⟩ (.int .i64 k)).setCell ⟨w.heap.size, 1, none⟩ (.int .i64 a)).setCell ⟨w.heap.size, 2, none⟩ (.int .i64 ((j : Int) + 1))) :=
  (((show Below w.heap.size w (W.drewN q) from ⟨h.2.2.os, h.2.2.tape, h.2.2.output, h.2.2.size, h.2.2.block⟩).setCell (p := ⟨w.heap.size, 0, none⟩) (Nat.le_refl _) _).setCell (p := ⟨w.heap.size, 1, none⟩) (Nat.le_refl _) _).setCell (p := ⟨w.heap.size, 2, none⟩) (Nat.le_refl _) _
end
def FrPost (w : World) (r : Run) (e : Ending) (w' : World) : Prop := e = .returned (runV r) ∧ Below w.heap.size w w'
set_option maxHeartbeats 1600000 in
set_option maxRecDepth 100000 in
theorem firstRun_any (v : Value) (l : List Ev) (b : Nat) (w : World) (hv : TRb w b v l) (hn0 : 0 < l.length) (hl : l.length ≤ 8388608) (hg : ∀ x ∈ l, evE 65536 x = 0) :
    Calls Tryz.prog 40 #[v] w (FrPost w (headR l)) := by
  obtain ⟨o, c, rfl, _, hbl, hx⟩ := hv.form hn0
  have hcell := fun (W : World) (hb : Below w.heap.size w W) (i : Nat) (x : Ev) (hi : l[i]? = some x) => (And.intro ((hb.cell (p := ⟨b, o + i * 2, none⟩) hbl).trans (hx i x hi).1) ((hb.cell (p := ⟨b, o + i * 2 + 1, none⟩) hbl).trans (hx i x hi).2) : W.cell? ⟨b, o + i * 2, none⟩ = some (.int .i32 x.1) ∧ W.cell? ⟨b, o + i * 2 + 1, none⟩ = some (.int .i32 x.2))
  have HX := Lib.hid hcell
  have HG := Lib.hid hg
  obtain ⟨n, hn⟩ : ∃ n, n = l.length := ⟨_, rfl⟩
  rw [← hn] at hl hn0 ⊢
  have HN := Lib.hid hn
  obtain ⟨x0, hx0⟩ : ∃ x, l[0]? = some x := ⟨_, List.getElem?_eq_getElem (by rw [← HN.out]; exact hn0)⟩
  obtain ⟨g1, g2, g3⟩ := evE_zero (hg x0 (List.mem_of_getElem? hx0))
  have hhr : ∀ j, growN x0.1 (x0.2 + 1) (l.drop 1) = j → headR l = ⟨x0.1, x0.2, j + 1⟩ := fun j hj => by
    cases l with
    | nil => simp at hx0
    | cons y t =>
      simp at hx0
      subst hx0
      unfold headR
      simp only [List.drop_one, List.tail_cons] at hj
      simp only [hj]
  have HH := Lib.hid hhr
  obtain ⟨k, a⟩ := x0
  simp only at g1 g2 g3
  have gk : 1 ≤ k ∧ k ≤ 2 := by omega
  have hb0 := (Below.refl w.heap.size w).alloc (Nat.le_refl _) (.cells #[.int .i64 0, .int .i64 0, .int .i64 0] 56)
  obtain ⟨c0, c1⟩ := hcell _ (Below.refl _ _) 0 _ hx0
  obtain ⟨d0, d1⟩ := hcell _ hb0 0 _ hx0
  rw [Nat.zero_mul, Nat.add_zero] at c0 c1 d0 d1
  have e0 : ∀ z : Obj, (((w.alloc (.cells #[.int .i64 0, .int .i64 0, .int .i64 0] 56)).drew).alloc z).cell? ⟨b, o, none⟩ = some (.int .i32 k) := fun z => by
    rw [World.cell?_alloc_lt _ _ _ (by simp; omega)]; exact d0
  have e1 : ∀ z : Obj, (((w.alloc (.cells #[.int .i64 0, .int .i64 0, .int .i64 0] 56)).drew).alloc z).cell? ⟨b, o + 1, none⟩ = some (.int .i32 a) := fun z => by
    rw [World.cell?_alloc_lt _ _ _ (by simp; omega)]; exact d1
  have wk : IntKind.i64.wrap k = k := IntWalk.i64_in _ (by omega)
  have wa : IntKind.i64.wrap a = a := IntWalk.i64_in _ (by omega)
  have HX0 := Lib.hid hx0
  have hn1 : (0 : Int) < (n : Int) := by omega
  clear hx hg hn hx0 hhr hcell g1
  go_enter Tryz.func40, Tryz.ntmps40
  go_wp2
  go_cut [3] from 4 (fun s3 wx => s3 = .pointer (some ⟨w.heap.size + 1, 0, none⟩) ∧ FrI w k a 0 wx)
  case first =>
    have FI := Lib.hid (FrI.start w k a)
    go_region_with (fail)
    all_goals go_wp2
    all_goals go_meet
    all_goals exact ⟨rfl, FI.out⟩
  case rest =>
    clear hb0 c0 c1 d0 d1 e0 e1
    obtain ⟨rfl, hfi⟩ := hcut
    go_wp2
    go_loopw [43] (fun _ wr => ∃ j : Nat, j + 1 ≤ n ∧ FrI w k a j wr ∧ Hid (growN k (a + 1) (l.drop 1) = j + growN k (a + 1 + j) (l.drop (j + 1)))) (fun _ wr => n - (intOf ((wr.cell? ⟨w.heap.size + 1, 2, none⟩).getD undef)).toNat)
    case atStart => exact ⟨0, by omega, hfi, Lib.hid (by simp)⟩
    case round =>
      clear hfi
      obtain ⟨j, hj, hfi, hgr⟩ := hrel
      have HFI := Lib.hid hfi
      have hbb := hfi.2.2
      have y0 := hfi.c0
      have y1 := hfi.c1
      have y2 := hfi.c2
      have z2 := hfi.frz 2
      have x0 := hfi.r0
      have xf := hfi.rf
      obtain ⟨m0, m1⟩ := HX.out _ hbb 0 _ HX0.out
      rw [Nat.zero_mul, Nat.add_zero] at m0 m1
      have wj : IntKind.i64.wrap ((j : Int) + 1 + 1) = (j : Int) + 1 + 1 := IntWalk.i64_in _ (by omega)
      have wj32 : IntKind.i32.wrap ((j : Int) + 1) = (j : Int) + 1 := IntWalk.i32_in _ (by omega)
      have waj : IntKind.i32.wrap (a + ((j : Int) + 1)) = a + ((j : Int) + 1) := IntWalk.i32_in _ (by omega)
      have hnn : ((j : Int) + 1).toNat = j + 1 := by omega
      clear hfi
      by_cases hlt : j + 1 < n
      · have tl : decide ((j : Int) + 1 < (n : Int)) = true := decide_eq_true (by omega)
        have tl2 : (j : Int) + 1 < (n : Int) := by omega
        obtain ⟨x, hxj⟩ : ∃ x, l[j + 1]? = some x := ⟨_, List.getElem?_eq_getElem (by rw [← HN.out]; omega)⟩
        obtain ⟨q0, q1⟩ := HX.out _ hbb (j + 1) x hxj
        have hev := ev_dec x k (a + ((j : Int) + 1))
        by_cases hx : x = (k, a + ((j : Int) + 1))
        · rw [decide_eq_true hx] at hev
          have GH := Lib.hid (show growN k (a + 1) (l.drop 1) = (j + 1) + growN k (a + 1 + ((j + 1 : Nat) : Int)) (l.drop (j + 1 + 1)) by
            rw [hgr.out, grow_hit hxj (by rw [hx]; congr 1; omega), show a + 1 + (j : Int) + 1 = a + 1 + ((j + 1 : Nat) : Int) by omega]; omega)
          clear hx hxj
          go_wp2
          go_quiet (fail)
          go_wp2
          go_roundw
          case rel => exact ⟨j + 1, by omega, HFI.out.put _ (j + 1) (by omega), GH⟩
          case measure => rw [(HFI.out.put nq (j + 1) (by omega)).c2, y2]; simp [intOf]; omega
        · rw [decide_eq_false hx] at hev
          have GM := Lib.hid (HH.out j (by rw [hgr.out, grow_miss hxj (by intro e; apply hx; rw [e]; congr 1; omega)]; rfl))
          clear hx hxj
          go_wp2
          go_quiet (fail)
          go_wp2
          refine bodyPost_ret (v := runV ⟨k, a, j + 1⟩) (results_cell_row Tryz.results40 _ _ w.heap.size 56 #[.int .i64 k, .int .i64 a, .int .i64 ((j : Int) + 1)] (0, 0) _ rfl (HFI.out.res nq) Tryz.underlying56 rfl (by kernel_rfl)) rfl ⟨by rw [GM.out], HFI.out.resB nq⟩
      · have tl : decide ((j : Int) + 1 < (n : Int)) = false := decide_eq_false (by omega)
        have tl2 : ¬ (j : Int) + 1 < (n : Int) := by omega
        have GM := Lib.hid (HH.out j (by rw [hgr.out, grow_end (by rw [← HN.out]; omega)]; rfl))
        go_wp2
        go_quiet (fail)
        go_wp2
        refine bodyPost_ret (v := runV ⟨k, a, j + 1⟩) (results_cell_row Tryz.results40 _ _ w.heap.size 56 #[.int .i64 k, .int .i64 a, .int .i64 ((j : Int) + 1)] (0, 0) _ rfl (HFI.out.res nq) Tryz.underlying56 rfl (by kernel_rfl)) rfl ⟨by rw [GM.out], HFI.out.resB nq⟩
end Go.Proofs.YtihhgnjkmhdpmaaGreatDoor
