/- from, Events, Since, Cells, Forget. -/
import Derived.Test.YtalnhbjpfnodiaaF
import Derived.Deep.MidRow
namespace Go.Proofs.Ytalnhbjpfnodiaa
open Go.RowKit
/-- An event. -/
def ec (e : Nat × Nat) : Array Value := #[.int .i32 (e.1 : Int), .int .i32 (e.2 : Int)]
abbrev evV (e : Nat × Nat) : Value := .agg (ec e)
theorem ec_size (e : Nat × Nat) : (ec e).size = 2 := rfl
theorem ec_one (e : Nat × Nat) : (ec e).all (·.oneCell') = true := by simp [ec, Value.oneCell']
/-- Block B is a made row of n events. -/
def ERow (W : World) (B n : Nat) (f : Nat → Nat × Nat) : Prop := ∃ cs : Array Value, W.heap[B]? = some (.cells cs 77 (0, 0)) ∧ cs.size = n * 2 ∧ ∀ i, i < n → cs[i * 2]? = some (.int .i32 ((f i).1 : Int)) ∧ cs[i * 2 + 1]? = some (.int .i32 ((f i).2 : Int))
theorem ERow.lt {W : World} {B n : Nat} {f : Nat → Nat × Nat} (h : ERow W B n f) : B < W.heap.size := by
  obtain ⟨cs, h, _⟩ := h; exact (Array.getElem?_eq_some_iff.1 h).1
theorem ERow.below {W W' : World} {B n : Nat} {f : Nat → Nat × Nat} (h : ERow W B n f) (hb : Below W.heap.size W W') : ERow W' B n f := by
  have hl := h.lt
  obtain ⟨cs, h, r⟩ := h
  exact ⟨cs, (hb.block B hl).trans h, r⟩
theorem ERow.congr {W : World} {B n : Nat} {f g : Nat → Nat × Nat} (h : ERow W B n f) (e : ∀ i, i < n → f i = g i) : ERow W B n g := by
  obtain ⟨cs, h, hs, hc⟩ := h
  exact ⟨cs, h, hs, fun i hi => by rw [← e i hi]; exact hc i hi⟩
theorem ERow.there {W : World} {B n : Nat} {f : Nat → Nat × Nat} (h : ERow W B n f) {i : Nat} (hi : i < n) : W.there B (i * 2) 2 := fun j hj => by
  obtain ⟨cs, h, hs, hc⟩ := h
  refine ⟨?_, frozen_blk h _⟩
  rw [cell_blk h]
  match j, hj with
  | 0, _ => rw [Nat.add_zero, (hc i hi).1]; rfl
  | 1, _ => rw [(hc i hi).2]; rfl
theorem ERow.set {W : World} {B n k : Nat} {f : Nat → Nat × Nat} (h : ERow W B n f) (_ : k < n) (q : Nat × Nat) : ERow (W.setCells B (k * 2) (ec q).toList) B n (fun i => if i = k then q else f i) := by
  obtain ⟨cs, h, hs, hc⟩ := h
  have h1 := heap_setCell_same W B (k * 2) _ _ (.int .i32 (q.1 : Int)) h
  have h2 := heap_setCell_same _ B (k * 2 + 1) _ _ (.int .i32 (q.2 : Int)) h1
  refine ⟨_, h2, by simp [hs], fun i hi => ?_⟩
  have h3 := hc i hi
  by_cases e : i = k
  · subst e
    simp only [if_true]
    constructor
    · simp [Array.getElem?_setIfInBounds]; omega
    · simp [Array.getElem?_setIfInBounds]; omega
  · simp only [if_neg e]
    rw [Array.getElem?_setIfInBounds_ne (by omega), Array.getElem?_setIfInBounds_ne (by omega), Array.getElem?_setIfInBounds_ne (by omega), Array.getElem?_setIfInBounds_ne (by omega)]
    exact h3
theorem setCells_below {B : Nat} {a : World} (vs : List Value) : ∀ {W : World} {o g : Nat}, Below B a W → B ≤ g → Below B a (W.setCells g o vs) := by
  induction vs with
  | nil => intro W o g h _; exact h
  | cons v vs ih => intro W o g h hg; exact ih (h.setCell (p := ⟨g, o, none⟩) hg v) hg
theorem info_ev : (Try.prog.info? 77).map (fun i => (i.zero, i.size, i.bytes)) = some (some (.agg (ec (0, 0))), 2, 8) := by kernel_rfl
theorem mk_evs (n : Nat) (hn : n ≤ 2000000000) (W : World) : (Instr.makeSlice 46 (.int .i64 (n : Int)) (.int .i64 (n : Int))).run Try.prog W = .ok (.slice (some ⟨W.heap.size, 0, none⟩) n n) (W.alloc (.cells (madeCells (ec (0, 0)) (n * 2)) 77)) := by
  obtain ⟨i0, hi, hzz⟩ := Option.map_eq_some_iff.1 info_ev
  simp only [Prod.mk.injEq] at hzz
  obtain ⟨hz, hs, hb⟩ := hzz
  have := run_make (P := Try.prog) W 46 77 i0 _ Try.underlying46 hi hz .i64 .i64 n n (by omega) (Int.le_refl _) (by rw [hb]; omega) (by omega)
  rw [hs] at this
  simp only [Int.toNat_natCast, Value.cells] at this
  exact this
theorem ERow.made (W : World) (n : Nat) : ERow (W.alloc (.cells (madeCells (ec (0, 0)) (n * 2)) 77)) W.heap.size n (fun _ => (0, 0)) := by
  refine ⟨_, heap_alloc_new _ _, size_madeCells _ _, fun i hi => ?_⟩
  unfold madeCells
  rw [Array.getElem?_map, Array.getElem?_range, if_pos (by omega), Option.map_some, Array.getElem?_map, Array.getElem?_range, if_pos (by omega), Option.map_some, ec_size, show (i * 2) % 2 = 0 by omega, show (i * 2 + 1) % 2 = 1 by omega]
  exact ⟨rfl, rfl⟩
theorem store2 {W : World} {B o : Nat} (q : Nat × Nat) (h : W.there B o 2) : (storeCells ⟨B, o, none⟩ (ec q).toList 0).run Try.prog W = .ok () (W.setCells B o (ec q).toList) := by
  have := run_storeCells_cells (P := Try.prog) B o (ec q).toList 0 W (fun j hj => by simpa using (h j (by simpa [ec] using hj)).1) (fun j hj => by simpa using (h j (by simpa [ec] using hj)).2)
    (fun v hv => (Array.all_eq_true_iff_forall_mem.1 (ec_one q)) v (by simpa using hv))
  simpa using this
theorem ev_size (q : Nat × Nat) : (Try.prog.info? 77).map (·.size) = some (ec q).size := by kernel_rfl
theorem event_pk (e : Nat × Nat) (z : Nat) (w : World) (hk : e.1 < 3) (ha : e.2 < 65536) (hz : z = pk (some e)) : Calls Try.prog 79 #[.int .u32 (z : Int)] w fun e' w' => e' = .returned (.agg (ec e)) ∧ Below w.heap.size w w' := by
  subst hz
  exact event_any e.1 e.2 w hk ha
section
variable {w : World} {F : Nat → Prop} {p cb : Nat} {pv rv : Value} {pg cs : List Nat} {rs : List Rg} {tr : List (Nat × Nat)}
set_option maxRecDepth 100000 in
theorem from_any (h : ArX w F p cb pv rv pg cs rs tr) (first n : Nat) (hf : first + n = tr.length) :
    Calls Try.prog 62 #[.pointer (some ⟨p, 0, none⟩), .int .i64 (first : Int)] w fun e w' => ∃ g, e = .returned (.slice (some ⟨g, 0, none⟩) n n) ∧ ERow w' g n (fun i => tr.getD (first + i) (0, 0)) ∧ Below w.heap.size w w' := by
  have MK := mk_evs n (by have := h.long; omega) w
  have c1 := h.c1
  have e0 : IntKind.i64.wrap ((tr.length : Int) - (first : Int)) = (n : Int) := by rw [IntKind.wrap_i64]; have := h.long; omega
  have e00 : (tr.length : Int) - (first : Int) = (n : Int) := by omega
  have hl := h.long
  have hr := h.room
  obtain ⟨q0, cq, hpv⟩ := own_shape h.pages
  subst hpv
  have H := Lib.hid h
  clear h
  go_enter Try.func62, Try.ntmps62
  go_wp2
  clear MK e0 e00 c1
  go_loopw [6, 7, 17] (fun _ _ i wr => ∃ k : Nat, k ≤ n ∧ i = .int .i64 (k : Int) ∧ ERow wr w.heap.size n (fun i => if i < k then tr.getD (first + i) (0, 0) else (0, 0)) ∧ Below w.heap.size w wr) (fun _ _ i _ => n - (intOf i).toNat)
  case atStart => exact ⟨0, Nat.zero_le _, rfl, (ERow.made _ _).congr (fun i _ => by simp), (Below.refl _ w).alloc (Nat.le_refl _) _⟩
  case round =>
    obtain ⟨k, hk, rfl, hrow, hb⟩ := hrel
    by_cases hlt : k < n
    · have hltb : decide ((k : Int) < (n : Int)) = true := decide_eq_true (by omega)
      have h1 := H.out.below hb
      obtain ⟨N, hN⟩ : ∃ N, N = first + k := ⟨_, rfl⟩
      obtain ⟨b, hbk⟩ : ∃ b, pg[N / 1024]? = some b := ⟨_, List.getElem?_eq_getElem (by omega)⟩
      obtain ⟨g, hg0, d2, hcap⟩ := own_cell h1.pages (map_get hbk)
      subst hg0
      obtain ⟨ev, hev⟩ : ∃ e, tr[N]? = some e := ⟨_, List.getElem?_eq_getElem (by omega)⟩
      have hgood := h1.good ev (List.mem_of_getElem? hev)
      have hn3 := h1.ncs
      obtain ⟨HP, _⟩ := h1.page _ _ hbk
      have d3 := HP.cell (i := N % 1024) (Nat.mod_lt _ (by decide))
      have d0 := h1.c0
      unfold ptrV at d2
      unfold pkv at d3
      rw [show N / 1024 * 1024 + N % 1024 = N by omega, hev] at d3
      obtain ⟨z, hz⟩ : ∃ z, z = pk (some ev) := ⟨_, rfl⟩
      rw [← hz] at d3
      have EV := Lib.hid (event_pk ev z wr (by omega) (by omega) hz)
      have e1 : IntKind.i64.wrap ((N : Int) / 1024) = (N : Int) / 1024 := by rw [IntKind.wrap_i64]; omega
      have e2 : 0 ≤ (N : Int) / 1024 := by omega
      have e3 : (N : Int) / 1024 < (pg.length : Int) := by omega
      have e4 : ((N : Int) / 1024).toNat = N / 1024 := by omega
      have e5 : (N : Int).tmod 1024 = (N : Int) % 1024 := Int.tmod_eq_emod_of_nonneg (by omega)
      have e6 : 0 ≤ (N : Int) % 1024 := by omega
      have e7 : (N : Int) % 1024 < 1024 := by omega
      have e8 : ((N : Int) % 1024).toNat = N % 1024 := by omega
      have e9 : (first : Int) + (k : Int) = (N : Int) := by omega
      have HN := Lib.hid hN
      have HE := Lib.hid hev
      have HZ := Lib.hid hz
      have HR := Lib.hid hrow
      clear hN hev hz h1 hrow HP hgood hbk
      go_wp2_with (go_at_call 79; (with_reducible refine (EV.out).mono ?_); rintro e w2 ⟨rfl, hb2⟩; have row2 := HR.out.below hb2; have ht := store2 ev (row2.there hlt); have HR2 := Lib.hid row2; clear row2)
      trace_state
      go_roundw
      case rel =>
        refine ⟨k + 1, by omega, by go_num, (HR2.out.set hlt ev).congr (fun j hj => ?_), setCells_below _ (hb.trans (hb2.mono hb.size)) (Nat.le_refl _)⟩
        by_cases e : j = k
        · rw [if_pos e, e, if_pos (by omega), List.getD_eq_getElem?_getD, ← HN.out, HE.out]; rfl
        · rw [if_neg e]
          by_cases e2 : j < k
          · rw [if_pos e2, if_pos (by omega)]
          · rw [if_neg e2, if_neg (by omega)]
      case measure => simp [intOf]; omega
    · obtain rfl : k = n := by omega
      have hltb : decide ((k : Int) < (k : Int)) = false := decide_eq_false (by omega)
      have HR := Lib.hid hrow
      clear hrow
      go_wp2
      go_ret
      exact ⟨_, rfl, HR.out.congr (fun i hi => by rw [if_pos hi]), hb⟩
end
end Go.Proofs.Ytalnhbjpfnodiaa
