/- Regions in memory; their places, sorted. -/
import Derived.Test.YtihhgnjkmhdpmaaGreatDoorF
import Derived.Test.YtihhgnjkmhdpmaaGreatDoorG
import Derived.Test.YtihhgnjkmhdpmaaGreatDoorShelf
import Derived.Deep.MidRow
import Derived.Laws.OwnMore
import Derived.StillTailTactics
namespace Go.Proofs.YtihhgnjkmhdpmaaGreatDoor
open Go.RowKit
/-- A region: name, base, size. -/
abbrev Rg := ByteArray × Int × Int
def ok64 (x : Int) : Prop := -9223372036854775808 ≤ x ∧ x ≤ 9223372036854775807
/-- Regions in memory. -/
def RG (W : World) (v : Value) (rs : List Rg) : Prop :=
  (∀ r ∈ rs, ok64 r.2.1 ∧ ok64 r.2.2) ∧ ∃ p c, v = .slice p rs.length c ∧ ∀ i r, rs[i]? = some r → ∃ b o, p = some ⟨b, o, none⟩ ∧ b < W.heap.size ∧ W.cell? ⟨b, o + i * 3, none⟩ = some (.string r.1) ∧ W.cell? ⟨b, o + i * 3 + 1, none⟩ = some (.int .i64 r.2.1) ∧ W.cell? ⟨b, o + i * 3 + 2, none⟩ = some (.int .i64 r.2.2)
theorem RG.below {w w' : World} {v : Value} {rs : List Rg} (h : RG w v rs) (hb : Below w.heap.size w w') : RG w' v rs := by
  obtain ⟨ho, p, c, rfl, hx⟩ := h
  refine ⟨ho, p, c, rfl, fun i x hi => ?_⟩
  obtain ⟨b, o, rfl, h1, h2, h3, h4⟩ := hx i x hi
  exact ⟨b, o, rfl, Nat.lt_of_lt_of_le h1 hb.size, (hb.cell (p := ⟨b, o + i * 3, none⟩) h1).trans h2, (hb.cell (p := ⟨b, o + i * 3 + 1, none⟩) h1).trans h3, (hb.cell (p := ⟨b, o + i * 3 + 2, none⟩) h1).trans h4⟩
theorem RG.nil (W : World) : RG W (.slice none 0 0) [] := ⟨by simp, none, 0, rfl, fun i x h => by simp at h⟩
/-- A place: base, end, index. -/
abbrev Pl := Int × Int × Int
def pc (q : Pl) : List Value := [.int .i64 q.1, .int .i64 q.2.1, .int .i64 q.2.2]
def pca (q : Pl) : Array Value := #[.int .i64 q.1, .int .i64 q.2.1, .int .i64 q.2.2]
theorem cell_blk {w : World} {b : Nat} {c : Array Value} {t : TypeId} (h : w.heap[b]? = some (.cells c t (0, 0))) (i : Nat) : w.cell? ⟨b, i, none⟩ = c[i]? := by simp [World.cell?, h]
theorem frozen_blk {w : World} {b : Nat} {c : Array Value} {t : TypeId} (h : w.heap[b]? = some (.cells c t (0, 0))) (i : Nat) : w.frozen? ⟨b, i, none⟩ = false := by simp [World.frozen?, h]
/-- Block B is a made row of n places. -/
def PRow (W : World) (B n : Nat) (f : Nat → Pl) : Prop := ∃ cs : Array Value, W.heap[B]? = some (.cells cs 84 (0, 0)) ∧ cs.size = n * 3 ∧ ∀ i, i < n → cs[i * 3]? = some (.int .i64 (f i).1) ∧ cs[i * 3 + 1]? = some (.int .i64 (f i).2.1) ∧ cs[i * 3 + 2]? = some (.int .i64 (f i).2.2)
theorem PRow.lt {W : World} {B n : Nat} {f : Nat → Pl} (h : PRow W B n f) : B < W.heap.size := by
  obtain ⟨cs, h, _⟩ := h; exact (Array.getElem?_eq_some_iff.1 h).1
theorem PRow.below {W W' : World} {B n : Nat} {f : Nat → Pl} (h : PRow W B n f) (hb : Below W.heap.size W W') : PRow W' B n f := by
  have hl := h.lt
  obtain ⟨cs, h, r⟩ := h
  exact ⟨cs, (hb.block B hl).trans h, r⟩
theorem PRow.congr {W : World} {B n : Nat} {f g : Nat → Pl} (h : PRow W B n f) (e : ∀ i, i < n → f i = g i) : PRow W B n g := by
  obtain ⟨cs, h, hs, hc⟩ := h
  exact ⟨cs, h, hs, fun i hi => by rw [← e i hi]; exact hc i hi⟩
theorem PRow.there {W : World} {B n : Nat} {f : Nat → Pl} (h : PRow W B n f) {i : Nat} (hi : i < n) : W.there B (i * 3) 3 := fun j hj => by
  obtain ⟨cs, h, hs, hc⟩ := h
  refine ⟨?_, frozen_blk h _⟩
  rw [cell_blk h]
  match j, hj with
  | 0, _ => rw [Nat.add_zero, (hc i hi).1]; rfl
  | 1, _ => rw [(hc i hi).2.1]; rfl
  | 2, _ => rw [(hc i hi).2.2]; rfl
theorem PRow.set {W : World} {B n k : Nat} {f : Nat → Pl} (h : PRow W B n f) (_ : k < n) (q : Pl) : PRow (W.setCells B (k * 3) (pc q)) B n (fun i => if i = k then q else f i) := by
  obtain ⟨cs, h, hs, hc⟩ := h
  have h1 := heap_setCell_same W B (k * 3) _ _ (.int .i64 q.1) h
  have h2 := heap_setCell_same _ B (k * 3 + 1) _ _ (.int .i64 q.2.1) h1
  have h3 := heap_setCell_same _ B (k * 3 + 1 + 1) _ _ (.int .i64 q.2.2) h2
  refine ⟨_, h3, by simp [hs], fun i hi => ?_⟩
  have h4 := hc i hi
  by_cases e : i = k
  · subst e
    simp only [if_true]
    refine ⟨?_, ?_, ?_⟩
    · rw [Array.getElem?_setIfInBounds_ne (by omega), Array.getElem?_setIfInBounds_ne (by omega), Array.getElem?_setIfInBounds_self, if_pos (by omega)]
    · rw [Array.getElem?_setIfInBounds_ne (by omega), Array.getElem?_setIfInBounds_self, if_pos (by rw [Array.size_setIfInBounds]; omega)]
    · rw [show i * 3 + 1 + 1 = i * 3 + 2 by omega, Array.getElem?_setIfInBounds_self, if_pos (by rw [Array.size_setIfInBounds, Array.size_setIfInBounds]; omega)]
  · simp only [if_neg e]
    rw [Array.getElem?_setIfInBounds_ne (by omega), Array.getElem?_setIfInBounds_ne (by omega), Array.getElem?_setIfInBounds_ne (by omega), Array.getElem?_setIfInBounds_ne (by omega), Array.getElem?_setIfInBounds_ne (by omega), Array.getElem?_setIfInBounds_ne (by omega), Array.getElem?_setIfInBounds_ne (by omega), Array.getElem?_setIfInBounds_ne (by omega), Array.getElem?_setIfInBounds_ne (by omega)]
    exact h4
theorem setCells_below {B : Nat} {a : World} (vs : List Value) : ∀ {W : World} {o g : Nat}, Below B a W → B ≤ g → Below B a (W.setCells g o vs) := by
  induction vs with
  | nil => intro W o g h _; exact h
  | cons v vs ih => intro W o g h hg; exact ih (h.setCell (p := ⟨g, o, none⟩) hg v) hg
theorem info_pl : (Tryz.prog.info? 84).map (fun i => (i.zero, i.size, i.bytes)) = some (some (.agg (pca (0, 0, 0))), 3, 24) := by kernel_rfl
theorem mk_pls (n : Nat) (hn : n ≤ 200000000) (W : World) : (Instr.makeSlice 81 (.int .i64 (n : Int)) (.int .i64 (n : Int))).run Tryz.prog W = .ok (.slice (some ⟨W.heap.size, 0, none⟩) n n) (W.alloc (.cells (madeCells (pca (0, 0, 0)) (n * 3)) 84)) := by
  obtain ⟨i0, hi, hzz⟩ := Option.map_eq_some_iff.1 info_pl
  simp only [Prod.mk.injEq] at hzz
  obtain ⟨hz, hs, hb⟩ := hzz
  have := run_make (P := Tryz.prog) W 81 84 i0 _ Tryz.underlying81 hi hz .i64 .i64 n n (by omega) (Int.le_refl _) (by rw [hb]; omega) (by omega)
  rw [hs] at this
  simp only [Int.toNat_natCast, Value.cells] at this
  exact this
theorem PRow.made (W : World) (n : Nat) : PRow (W.alloc (.cells (madeCells (pca (0, 0, 0)) (n * 3)) 84)) W.heap.size n (fun _ => (0, 0, 0)) := by
  refine ⟨_, heap_alloc_new _ _, size_madeCells _ _, fun i hi => ?_⟩
  unfold madeCells
  have e : (pca (0, 0, 0)).size = 3 := rfl
  rw [Array.getElem?_map, Array.getElem?_range, if_pos (by omega), Option.map_some, Array.getElem?_map, Array.getElem?_range, if_pos (by omega), Option.map_some, Array.getElem?_map, Array.getElem?_range, if_pos (by omega), Option.map_some, e, show (i * 3) % 3 = 0 by omega, show (i * 3 + 1) % 3 = 1 by omega, show (i * 3 + 2) % 3 = 2 by omega]
  exact ⟨rfl, rfl, rfl⟩
theorem store3 {W : World} {B o : Nat} (q : Pl) (h : W.there B o 3) : (storeCells ⟨B, o, none⟩ (pc q) 0).run Tryz.prog W = .ok () (W.setCells B o (pc q)) := by
  have := run_storeCells_cells (P := Tryz.prog) B o (pc q) 0 W (fun j hj => by simpa using (h j (by simpa [pc] using hj)).1) (fun j hj => by simpa using (h j (by simpa [pc] using hj)).2)
    (fun v hv => by simp [pc] at hv; rcases hv with rfl | rfl | rfl <;> rfl)
  simpa using this
/-- The places of regions, from index i on. -/
def plc : Nat → List Rg → List Pl
  | _, [] => []
  | i, r :: t => (r.2.1, r.2.1 + r.2.2, (i : Int)) :: plc (i + 1) t
theorem plc_len : ∀ (rs : List Rg) (i : Nat), (plc i rs).length = rs.length
  | [], _ => rfl
  | r :: t, i => by rw [plc, List.length_cons, plc_len t]; rfl
theorem plc_at : ∀ {rs : List Rg} {i j : Nat} {r : Rg}, rs[j]? = some r → (plc i rs)[j]? = some (r.2.1, r.2.1 + r.2.2, ((i + j : Nat) : Int))
  | [], _, _, _, h => by simp at h
  | s :: t, i, 0, r, h => by simp at h; subst h; simp [plc]
  | s :: t, i, j + 1, r, h => by
    simp only [List.getElem?_cons_succ] at h
    rw [plc, List.getElem?_cons_succ, plc_at h]
    congr 4; omega
theorem nani_any (a : Int) (w : World) : Calls Tryz.prog 69 #[.int .i64 a] w fun e w' => e = .returned (.bool false) ∧ w = w' := by
  go_enter Tryz.func69, Tryz.ntmps69
  go_wp2
  go_ret
  exact ⟨rfl, rfl⟩
def cmpZ (a b : Int) : Int := if a < b then -1 else if b < a then 1 else 0
theorem cmpi_any (a b : Int) (w : World) : Calls Tryz.prog 53 #[.int .i64 a, .int .i64 b] w fun e w' => e = .returned (.int .i64 (cmpZ a b)) ∧ w = w' := by
  have A := Lib.hid (fun a w => nani_any a w)
  go_enter Tryz.func53, Tryz.ntmps53
  go_wp2_with (go_at_call 69; refine (A.out _ _).mono ?_; rintro e w' ⟨rfl, rfl⟩)
  all_goals (go_ret; exact ⟨ret_i64 (by unfold cmpZ; split <;> (try split) <;> omega), rfl⟩)
def cmpP (x y : Pl) : Int := cmpZ x.1 y.1
theorem cmpP_lt (x y : Pl) : Go.Proofs.ltOf cmpP x y = decide (x.1 < y.1) := by
  unfold Go.Proofs.ltOf cmpP cmpZ
  by_cases h1 : x.1 < y.1
  · simp [h1]
  · by_cases h2 : y.1 < x.1 <;> simp [h1, h2]
theorem cmpP_swo : Go.Sort.SWO (Go.Proofs.ltOf cmpP) where
  irrefl x := by rw [cmpP_lt]; simp
  trans x y z h1 h2 := by rw [cmpP_lt] at *; simp at *; omega
  ntrans x y z h1 h2 := by rw [cmpP_lt] at *; simp at *; omega
set_option maxHeartbeats 1000000 in
theorem closure_any (x y : Pl) (W : World) : Calls Tryz.prog 52 #[.agg #[.int .i64 x.1, .int .i64 x.2.1, .int .i64 x.2.2], .agg #[.int .i64 y.1, .int .i64 y.2.1, .int .i64 y.2.2]] W fun e w' => e = .returned (.int .i64 (cmpP x y)) ∧ ∃ q os', w' = Go.Sort.grow (W.drewN q) os' := by
  have hcon := Lib.hid (fun W' => cmpi_any x.1 y.1 W')
  have HR := Lib.hid (show cmpP x y = cmpZ x.1 y.1 from rfl)
  generalize cmpZ x.1 y.1 = r at hcon HR
  go_enter Tryz.func52, Tryz.ntmps52
  go_wp2_with (go_at_call 53; refine (hcon.out _).mono ?_; rintro e w' ⟨rfl, rfl⟩)
  go_ret
  exact ⟨by rw [HR.out]; rfl, 0, _, by rw [Go.Sort.alloc_eq_grow, Go.Sort.alloc_eq_grow, Go.Sort.grow_grow]; rfl⟩
end Go.Proofs.YtihhgnjkmhdpmaaGreatDoor
