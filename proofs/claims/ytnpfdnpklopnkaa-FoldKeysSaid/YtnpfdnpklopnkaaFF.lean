/- Layer 4: a row of sets; each of sets, Sets. -/
import Derived.Test.YtnpfdnpklopnkaaFE
namespace Go.Proofs.Ytnpfdnpklopnkaa
open Go.RowKit
/-- Block B is a made row of n sets. -/
def SRow (W : World) (B n : Nat) (f : Nat → Nat → Bool) : Prop := ∃ cs : Array Value, W.heap[B]? = some (.cells cs 26 (0, 0)) ∧ cs.size = n * 4 ∧ ∀ i, i < n → ∀ j, j < 4 → cs[i * 4 + j]? = some (wv (f i) j)
theorem SRow.lt {W : World} {B n : Nat} {f : Nat → Nat → Bool} (h : SRow W B n f) : B < W.heap.size := by
  obtain ⟨cs, h, _⟩ := h; exact (Array.getElem?_eq_some_iff.1 h).1
theorem SRow.below {W W' : World} {B n : Nat} {f : Nat → Nat → Bool} (h : SRow W B n f) (hb : Below W.heap.size W W') : SRow W' B n f := by
  have hl := h.lt
  obtain ⟨cs, h, r⟩ := h
  exact ⟨cs, (hb.block B hl).trans h, r⟩
theorem SRow.congr {W : World} {B n : Nat} {f g : Nat → Nat → Bool} (h : SRow W B n f) (e : ∀ i, i < n → f i = g i) : SRow W B n g := by
  obtain ⟨cs, h, hs, hc⟩ := h
  exact ⟨cs, h, hs, fun i hi j hj => by rw [← e i hi]; exact hc i hi j hj⟩
theorem SRow.cell {W : World} {B n : Nat} {f : Nat → Nat → Bool} (h : SRow W B n f) {i j : Nat} (hi : i < n) (hj : j < 4) : W.cell? ⟨B, i * 4 + j, none⟩ = some (wv (f i) j) := by
  obtain ⟨cs, h, hs, hc⟩ := h
  rw [cell_of_row _ _ _ _ _ _ h]; exact hc i hi j hj
theorem SRow.there {W : World} {B n : Nat} {f : Nat → Nat → Bool} (h : SRow W B n f) {i : Nat} (hi : i < n) : W.there B (i * 4) 4 := fun j hj => by
  refine ⟨by rw [h.cell hi hj]; rfl, ?_⟩
  obtain ⟨cs, h, _⟩ := h
  exact frozen_of_row _ _ _ _ _ h
theorem SRow.set {W : World} {B n k : Nat} {f : Nat → Nat → Bool} (h : SRow W B n f) (_ : k < n) (q : Nat → Bool) : SRow (W.setCells B (k * 4) (sc q).toList) B n (fun i => if i = k then q else f i) := by
  obtain ⟨cs, h, hs, hc⟩ := h
  have h1 := heap_setCell_same W B (k * 4) _ _ (wv q 0) h
  have h2 := heap_setCell_same _ B (k * 4 + 1) _ _ (wv q 1) h1
  have h3 := heap_setCell_same _ B (k * 4 + 2) _ _ (wv q 2) h2
  have h4 := heap_setCell_same _ B (k * 4 + 3) _ _ (wv q 3) h3
  refine ⟨_, h4, by simp [hs], fun i hi j hj => ?_⟩
  have hij : i * 4 + j < cs.size := by omega
  by_cases e : i = k
  · subst e
    simp only [if_true]
    match j, hj with
    | 0, _ => simp [Array.getElem?_setIfInBounds]; omega
    | 1, _ => simp [Array.getElem?_setIfInBounds]; omega
    | 2, _ => simp [Array.getElem?_setIfInBounds]; omega
    | 3, _ => simp [Array.getElem?_setIfInBounds]; omega
  · simp only [if_neg e]
    rw [Array.getElem?_setIfInBounds_ne (by omega), Array.getElem?_setIfInBounds_ne (by omega), Array.getElem?_setIfInBounds_ne (by omega), Array.getElem?_setIfInBounds_ne (by omega)]
    exact hc i hi j hj
theorem setCells_put (W : World) (B o : Nat) (vs : List Value) : PutAt B W (W.setCells B o vs) := by
  induction vs generalizing W o with
  | nil => exact ⟨rfl, rfl, rfl, rfl, fun _ _ => rfl⟩
  | cons v vs ih =>
    have h := ih (W.setCell ⟨B, o, none⟩ v) (o + 1)
    exact ⟨h.os, h.tape, h.output, h.size.trans (by simp [World.setCell]), fun k hk => (h.block k hk).trans (Below.heap_setCell _ _ _ _ hk)⟩
theorem info_set : (Try.prog.info? 26).map (fun i => (i.zero, i.size, i.bytes)) = some (some (.agg #[.int .u64 0, .int .u64 0, .int .u64 0, .int .u64 0]), 4, 32) := by kernel_rfl
theorem mk_sets (n : Nat) (hn : n ≤ 2000000000) (W : World) : (Instr.makeSlice 31 (.int .i64 (n : Int)) (.int .i64 (n : Int))).run Try.prog W = .ok (.slice (some ⟨W.heap.size, 0, none⟩) n n) (W.alloc (.cells (madeCells (sc fun _ => false) (n * 4)) 26)) := by
  obtain ⟨i0, hi, hzz⟩ := Option.map_eq_some_iff.1 info_set
  simp only [Prod.mk.injEq] at hzz
  obtain ⟨hz, hs, hb⟩ := hzz
  have := run_make (P := Try.prog) W 31 26 i0 _ Try.underlying31 hi hz .i64 .i64 n n (by omega) (Int.le_refl _) (by rw [hb]; omega) (by omega)
  rw [hs] at this
  simp only [Int.toNat_natCast, Value.cells] at this
  rw [← sc_none]
  exact this
theorem SRow.made (W : World) (n : Nat) : SRow (W.alloc (.cells (madeCells (sc fun _ => false) (n * 4)) 26)) W.heap.size n (fun _ _ => false) := by
  refine ⟨_, World.alloc_heap_new _ _, size_madeCells _ _, fun i hi j hj => ?_⟩
  unfold madeCells
  rw [Array.getElem?_map, Array.getElem?_range, if_pos (by omega), Option.map_some, sc_size, show (i * 4 + j) % 4 = j by omega]
  match j, hj with
  | 0, _ => rfl
  | 1, _ => rfl
  | 2, _ => rfl
  | 3, _ => rfl
theorem store4 {W : World} {B o : Nat} (q : Nat → Bool) (h : W.there B o 4) : (storeCells ⟨B, o, none⟩ (sc q).toList 0).run Try.prog W = .ok () (W.setCells B o (sc q).toList) := by
  have := run_storeCells_cells (P := Try.prog) B o (sc q).toList 0 W (fun j hj => by simpa using (h j (by simpa [sc] using hj)).1) (fun j hj => by simpa using (h j (by simpa [sc] using hj)).2)
    (fun v hv => (Array.all_eq_true_iff_forall_mem.1 (sc_one q)) v (by simpa using hv))
  simpa using this
theorem set_size (q : Nat → Bool) : (Try.prog.info? 26).map (·.size) = some (sc q).size := by kernel_rfl
def setsR (s : ByteArray) (k j : Nat) : Nat → Bool := if j < k then bothP (s.data.toList.getD j 0).toNat else fun _ => false
set_option maxHeartbeats 400000 in
set_option maxRecDepth 100000 in
theorem eachS_any (s : ByteArray) (w : World) (hs : s.size ≤ 1000000000) : Calls Try.prog 53 #[.string s, .func (.func 15) #[] #[]] w fun e w' => ∃ B, e = .returned (.slice (some ⟨B, 0, none⟩) s.size s.size) ∧ SRow w' B s.size (setsR s s.size) ∧ Below w.heap.size w w' := by
  have MK := mk_sets s.size (by omega) w
  go_enter Try.func53, Try.ntmps53
  go_wp2
  clear MK
  go_loopw [6, 12] (fun _ i wr => ∃ k : Nat, k ≤ s.size ∧ i = .int .i64 (k : Int) ∧ SRow wr w.heap.size s.size (setsR s k) ∧ Below w.heap.size w wr) (fun _ i _ => s.size - (intOf i).toNat)
  case atStart => exact ⟨0, Nat.zero_le _, rfl, (SRow.made _ _).congr (fun i _ => by simp [setsR]), (Below.refl _ w).alloc (Nat.le_refl _) _⟩
  case round =>
    obtain ⟨k, hk, rfl, hrow, hb⟩ := hrel
    by_cases hlt : k < s.size
    · have hltb : decide ((k : Int) < (s.size : Int)) = true := decide_eq_true (by omega)
      have L := Lib.hid (both_any s[k].toNat wr (UInt8.toNat_lt _))
      have HK := Lib.hid (getD_at s 0 hlt)
      have hs1 := hb.size
      go_wp2_with (go_at_call 15; (with_reducible refine (L.out).mono ?_); rintro e w2 ⟨rfl, hb2⟩; have row2 := hrow.below hb2; have ht := store4 (bothP s[k].toNat) (row2.there hlt); have HR := Lib.hid row2; clear hrow row2)
      go_roundw
      case rel =>
        refine ⟨k + 1, by omega, by go_num, (HR.out.set hlt (bothP s[k].toNat)).congr (fun j hj => ?_), (hb.trans (hb2.mono hb.size)).trans ((setCells_put _ _ _ _).below (Nat.le_refl _))⟩
        unfold setsR
        by_cases e : j = k
        · rw [if_pos e, e, if_pos (by omega), HK.out]
        · rw [if_neg e]
          by_cases e2 : j < k
          · rw [if_pos e2, if_pos (by omega)]
          · rw [if_neg e2, if_neg (by omega)]
      case measure => simp [intOf]; omega
    · obtain rfl : k = s.size := by omega
      have hltb : decide ((s.size : Int) < (s.size : Int)) = false := decide_eq_false (by omega)
      have HR := Lib.hid hrow
      clear hrow
      go_wp2
      go_ret
      exact ⟨_, rfl, HR.out, hb⟩
/-- A slice of sets in memory. -/
def SR (W : World) (v : Value) (ps : List (Nat → Bool)) : Prop :=
  ∃ p c, v = .slice p ps.length c ∧ ps.length ≤ c ∧ ∀ i q, ps[i]? = some q → ∃ b o, p = some ⟨b, o, none⟩ ∧ W.rangeAt b (o + i * 4) (sc q).toList ∧ b < W.heap.size
theorem SR.below {W W' : World} {v : Value} {ps : List (Nat → Bool)} (h : SR W v ps) (hb : Below W.heap.size W W') : SR W' v ps := by
  obtain ⟨p, c, rfl, hc, hx⟩ := h
  refine ⟨p, c, rfl, hc, fun i q hi => ?_⟩
  obtain ⟨b, o, rfl, hr, hl⟩ := hx i q hi
  exact ⟨b, o, rfl, fun j v hv => (hb.cell (p := ⟨b, o + i * 4 + j, none⟩) hl).trans (hr j v hv), Nat.lt_of_lt_of_le hl hb.size⟩
theorem SR.nil (W : World) : SR W (.slice none 0 0) [] := ⟨none, 0, rfl, Nat.le_refl _, fun i q hi => by simp at hi⟩
/-- The sets of the bytes of a string. -/
def setsL (l : List UInt8) : List (Nat → Bool) := l.map fun c => bothP c.toNat
theorem SR.of_row {w : World} {B : Nat} {s : ByteArray} (h : SRow w B s.size (setsR s s.size)) : SR w (.slice (some ⟨B, 0, none⟩) s.size s.size) (setsL s.data.toList) := by
  have hl : (setsL s.data.toList).length = s.size := by unfold setsL; simp
  refine ⟨_, _, by rw [hl], by rw [hl]; exact Nat.le_refl _, fun i q hi => ⟨B, 0, rfl, fun j v hv => ?_, h.lt⟩⟩
  have hin : i < s.size := by have := (List.getElem?_eq_some_iff.1 hi).1; rwa [hl] at this
  have hq : q = setsR s s.size i := by
    unfold setsR
    rw [if_pos hin]
    unfold setsL at hi
    rw [List.getElem?_map] at hi
    obtain ⟨c, hc, rfl⟩ := Option.map_eq_some_iff.1 hi
    rw [List.getD_eq_getElem?_getD, hc]; rfl
  have hj : j < 4 := by have := (List.getElem?_eq_some_iff.1 hv).1; simpa [sc] using this
  rw [Nat.zero_add, h.cell hin hj, ← hq]
  rw [← hv]
  match j, hj with
  | 0, _ => rfl
  | 1, _ => rfl
  | 2, _ => rfl
  | 3, _ => rfl
/-- What Sets returns. -/
def setsE (s : ByteArray) : Int := if 512 < s.size then 3 else 0
def setsV (s : ByteArray) : List (Nat → Bool) := if 512 < s.size then [] else setsL s.data.toList
def SetsPost (w : World) (s : ByteArray) (e : Ending) (w' : World) : Prop := ∃ v, e = .returned (.tuple #[v, .int .i64 (setsE s)]) ∧ SR w' v (setsV s) ∧ Below w.heap.size w w'
theorem sets_any (s : ByteArray) (w : World) (hs : s.size ≤ 1000000000) : Calls Try.prog 24 #[.string s] w (SetsPost w s) := by
  have E := Lib.hid (eachS_any s w hs)
  by_cases h : 512 < s.size
  · have hb1 : decide ((512 : Int) < (s.size : Int)) = true := decide_eq_true (by omega)
    have e1 := Lib.hid (show setsE s = 3 by unfold setsE; rw [if_pos h])
    have e2 := Lib.hid (show setsV s = [] by unfold setsV; rw [if_pos h])
    clear h
    go_enter Try.func24, Try.ntmps24
    go_wp2
    go_ret2
    exact ⟨_, by rw [e1.out]; rfl, by rw [e2.out]; exact SR.nil _, Below.refl _ _⟩
  · have hb1 : decide ((512 : Int) < (s.size : Int)) = false := decide_eq_false (by omega)
    have e1 := Lib.hid (show setsE s = 0 by unfold setsE; rw [if_neg h])
    have e2 := Lib.hid (show setsV s = setsL s.data.toList by unfold setsV; rw [if_neg h])
    clear h
    go_enter Try.func24, Try.ntmps24
    go_wp2_with (go_at_call 53; refine E.out.mono ?_; rintro e w2 ⟨B, rfl, hrow, hb2⟩)
    go_ret2
    exact ⟨_, by rw [e1.out]; rfl, by rw [e2.out]; exact SR.of_row hrow, hb2⟩
end Go.Proofs.Ytnpfdnpklopnkaa
