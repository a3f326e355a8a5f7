/- The law on Check, Count and Cut. -/
import Derived.Test.YtehjncebddoinaaDoorTa
import Derived.Test.YtehjncebddoinaaDoorB
import Derived.Test.YtehjncebddoinaaDoorE
import Derived.Test.YtehjncebddoinaaDoorF
import Derived.Test.YtehjncebddoinaaDoorH2
namespace Go.Proofs.YtehjncebddoinaaDoor
open Go.RowKit
def boxO (x y z : Int) : Obj := .cells #[.int .i64 x, .int .i64 y, .int .i64 z] 23
theorem box_cells (w W : World) (x y z : Int) (h : Below (w.alloc (boxO x y z)).heap.size (w.alloc (boxO x y z)) W) : W.cell? ⟨w.heap.size, 0, none⟩ = some (.int .i64 x) ∧ W.cell? ⟨w.heap.size, 1, none⟩ = some (.int .i64 y) ∧ W.cell? ⟨w.heap.size, 2, none⟩ = some (.int .i64 z) := by
  have hl : w.heap.size < (w.alloc (boxO x y z)).heap.size := by simp
  have hc : ∀ j, (w.alloc (boxO x y z)).cell? ⟨w.heap.size, j, none⟩ = (#[.int .i64 x, .int .i64 y, .int .i64 z] : Array Value)[j]? := fun j => by
    unfold boxO; simp [World.cell?_alloc_new]
  exact ⟨(h.cell (p := ⟨w.heap.size, 0, none⟩) hl).trans (hc 0), (h.cell (p := ⟨w.heap.size, 1, none⟩) hl).trans (hc 1), (h.cell (p := ⟨w.heap.size, 2, none⟩) hl).trans (hc 2)⟩
theorem box_below (w W : World) (o : Obj) (h : Below (w.alloc o).heap.size (w.alloc o) W) : Below w.heap.size w W :=
  ((Below.refl _ _).alloc (Nat.le_refl _) o).trans (h.mono (by simp))
set_option maxHeartbeats 3200000 in
set_option maxRecDepth 100000 in
theorem tchecks_any (va : Value) (a : List Ev) (cells x y z : Int) (w : World) (ha : TR w va a) (hp : P10 w) : Calls Tryd.prog 3 #[va, .int .i64 cells, .agg #[.int .i64 x, .int .i64 y, .int .i64 z]] w (AwPost w) := by
  have hb : Below (w.alloc (boxO x y z)).heap.size (w.alloc (boxO x y z)) (w.alloc (boxO x y z)) := Below.refl _ _
  have HP := Lib.hid (fun W (h : Below (w.alloc (boxO x y z)).heap.size (w.alloc (boxO x y z)) W) => hp.below (box_below _ _ _ h))
  have HB := Lib.hid (fun W (h : Below (w.alloc (boxO x y z)).heap.size (w.alloc (boxO x y z)) W) => box_below _ _ _ h)
  have HA := Lib.hid (fun W (h : Below (w.alloc (boxO x y z)).heap.size (w.alloc (boxO x y z)) W) => ha.below (box_below _ _ _ h))
  have HX := Lib.hid (fun W (h : Below (w.alloc (boxO x y z)).heap.size (w.alloc (boxO x y z)) W) => box_cells w W x y z h)
  have AW := Lib.hid awake_any
  have FA := Lib.hid (far_tr (HA.out _ hb))
  clear hp
  by_cases fa : farB a.length = true
  · rw [fa] at FA
    clear ha fa
    go_enter Tryd.func3, Tryd.ntmps3
    go_wp2_with (go_at_call 8; refine FA.out.mono ?_; rintro e w' ⟨rfl, rfl⟩)
    refine (AW.out _ (HP.out _ hb)).mono ?_
    rintro e w2 ⟨rfl, hb2⟩
    replace hb := hb.trans (hb2.mono hb.size)
    go_wp2
    go_ret
    exact ⟨rfl, HB.out _ hb⟩
  · have fa : farB a.length = false := by simpa using fa
    have la := farB_false fa
    rw [fa] at FA
    have la2 : a.length ≤ 100000000 := by omega
    have K1 := Lib.hid (fun W v (h : TR W v a) => check_any v a cells W h la2)
    have K2 := Lib.hid (fun W v (h : TR W v a) => rcheck_any v a cells W h la2)
    have N1 := Lib.hid (fun W v (h : TR W v a) => count_any v a x W h la2)
    have N2 := Lib.hid (fun W v (h : TR W v a) => rcount_any v a x W h la2)
    have C1 := Lib.hid (fun W v (h : TR W v a) => cut_any v a y z W h la2)
    have C2 := Lib.hid (fun W v (h : TR W v a) => rcut_any v a y z W h la2)
    unfold ChPost at K1 K2
    unfold CtPost at N1 N2
    unfold CuPost at C1 C2
    have HL := Lib.hid (show (cutL a y z).length ≤ 100000000 by unfold cutL; split <;> simp <;> omega)
    have e1 : ((checkP a cells).1 == (checkP a cells).1) = true := by simp
    have e2 : ((checkP a cells).2 == (checkP a cells).2) = true := by simp
    have e3 : (countN a x == countN a x) = true := by simp
    have e4 : (countE x == countE x) = true := by simp
    have e5 : (cutE a y z == cutE a y z) = true := by simp
    clear ha fa la la2
    generalize (checkP a cells).1 = q1 at *
    generalize (checkP a cells).2 = q2 at *
    generalize countN a x = q3 at *
    generalize countE x = q4 at *
    generalize cutE a y z = q5 at *
    generalize cutL a y z = L at *
    go_enter Tryd.func3, Tryd.ntmps3
    have C0 := HX.out _ hb
    obtain ⟨c0, c1, c2⟩ := C0
    go_wp2_with (first
      | (go_at_call 8; refine FA.out.mono ?_; rintro e w' ⟨rfl, rfl⟩)
      | (go_at_call 10; refine (K1.out _ _ (HA.out _ hb)).mono ?_; rintro e w1 ⟨rfl, hb2⟩; replace hb := hb.trans (hb2.mono hb.size); clear hb2)
      | (go_at_call 11; refine (K2.out _ _ (HA.out _ hb)).mono ?_; rintro e w2 ⟨rfl, hb2⟩; replace hb := hb.trans (hb2.mono hb.size); clear hb2 c0 c1 c2; (obtain ⟨c0, c1, c2⟩ := HX.out _ hb))
      | (go_at_call 12; refine (N1.out _ _ (HA.out _ hb)).mono ?_; rintro e w3 ⟨rfl, hb2⟩; replace hb := hb.trans (hb2.mono hb.size); clear hb2 c0 c1 c2; (obtain ⟨c0, c1, c2⟩ := HX.out _ hb))
      | (go_at_call 13; refine (N2.out _ _ (HA.out _ hb)).mono ?_; rintro e w4 ⟨rfl, hb2⟩; replace hb := hb.trans (hb2.mono hb.size); clear hb2 c0 c1 c2; (obtain ⟨c0, c1, c2⟩ := HX.out _ hb))
      | (go_at_call 14; refine (C1.out _ _ (HA.out _ hb)).mono ?_; rintro e w5 ⟨v1, rfl, hi1, hb2⟩; replace hb := hb.trans (hb2.mono hb.size); clear hb2 c0 c1 c2; (obtain ⟨c0, c1, c2⟩ := HX.out _ hb))
      | (go_at_call 15; refine (C2.out _ _ (HA.out _ hb)).mono ?_; rintro e w6 ⟨v2, rfl, hi2, hb2⟩; replace hb := hb.trans (hb2.mono hb.size); have IN := Lib.hid (events_any _ _ L L _ (hi1.below hb2) hi2 HL.out); rw [show decide (L = L) = true from decide_eq_true rfl] at IN; (obtain ⟨p1, k1, rfl⟩ := hi1.len); (obtain ⟨p2, k2, rfl⟩ := hi2.len); clear hb2 hi1 hi2 c0 c1 c2)
      | (go_at_call 16; refine IN.out.mono ?_; rintro e w7 ⟨rfl, d, rfl⟩; replace hb := below_drewN2 hb d)
      | (go_at_call 9; refine (AW.out _ (HP.out _ hb)).mono ?_; rintro e w8 ⟨rfl, hb2⟩; replace hb := hb.trans (hb2.mono hb.size); clear hb2))
    go_ret
    exact ⟨rfl, HB.out _ hb⟩
end Go.Proofs.YtehjncebddoinaaDoor
