/- Layer 3: Add, Drop; the reference's Of, Union, Minus, Meet, All, Not, Sub. -/
import Derived.Test.YtedbhjladpfafaaF
import Derived.Deep.RegionHeld3
namespace Go.Proofs.Ytedbhjladpfafaa
open Go.RowKit
attribute [local go_sem] eq4 guard4
/-- The four cells of a set. -/
def Four (W : World) (B : Nat) (p : Nat → Bool) : Prop := W.cell? ⟨B, 0, none⟩ = some (wv p 0) ∧ W.cell? ⟨B, 1, none⟩ = some (wv p 1) ∧ W.cell? ⟨B, 2, none⟩ = some (wv p 2) ∧ W.cell? ⟨B, 3, none⟩ = some (wv p 3)
theorem SA.four {W : World} {B : Nat} {p : Nat → Bool} (h : SA W B p) : W.cell? ⟨B, 0, none⟩ = some (wv p 0) ∧ W.cell? ⟨B, 1, none⟩ = some (wv p 1) ∧ W.cell? ⟨B, 2, none⟩ = some (wv p 2) ∧ W.cell? ⟨B, 3, none⟩ = some (wv p 3) :=
  ⟨cell_of_row W B 0 _ _ _ h, cell_of_row W B 1 _ _ _ h, cell_of_row W B 2 _ _ _ h, cell_of_row W B 3 _ _ _ h⟩
theorem SA.four_set {W : World} {B : Nat} {p : Nat → Bool} (h : SA W B p) (q : Nat → Bool) :
    SA ((((W.setCell ⟨B, 0, none⟩ (wv q 0)).setCell ⟨B, 1, none⟩ (wv q 1)).setCell ⟨B, 2, none⟩ (wv q 2)).setCell ⟨B, 3, none⟩ (wv q 3)) B q := by
  have h1 := heap_setCell_same W B 0 _ _ (wv q 0) h
  have h2 := heap_setCell_same _ B 1 _ _ (wv q 1) h1
  have h3 := heap_setCell_same _ B 2 _ _ (wv q 2) h2
  exact heap_setCell_same _ B 3 _ _ (wv q 3) h3
theorem four_put (W : World) (B : Nat) (a b c d : Value) : PutAt B W ((((W.setCell ⟨B, 0, none⟩ a).setCell ⟨B, 1, none⟩ b).setCell ⟨B, 2, none⟩ c).setCell ⟨B, 3, none⟩ d) :=
  ⟨rfl, rfl, rfl, by simp [World.setCell], fun k hk => by
    rw [Below.heap_setCell _ _ _ _ hk, Below.heap_setCell _ _ _ _ hk, Below.heap_setCell _ _ _ _ hk, Below.heap_setCell _ _ _ _ hk]⟩
theorem SA.store {W : World} {B : Nat} {p : Nat → Bool} (h : SA W B p) (q : Nat → Bool) : (storeCells ⟨B, 0, none⟩ (sc q).toList 0).run Try.prog W = .ok () (W.setRow B (sc q)) := by
  have := run_storeVar_row (P := Try.prog) W B 26 26 (sc p) (sc q) h (by kernel_rfl) rfl (sc_one q)
  have hi : (Try.prog.info? 26).map (·.size) = some 4 := by kernel_rfl
  cases hq : Try.prog.info? 26 with
  | none => simp [hq] at hi
  | some i =>
    have hs : i.size = 4 := by simpa [hq] using hi
    simpa [storeVar, sizeOf, typeInfo, hq, Value.cells, hs, sc_size] using this
theorem SA.setRow {W : World} {B : Nat} {p : Nat → Bool} (h : SA W B p) (q : Nat → Bool) : SA (W.setRow B (sc q)) B q := setRow_heap W B _ _ _ _ h
theorem BR.one (W : World) (c : Nat) (hc : c < 256) : BR (W.alloc (.cells #[.int .u8 (c : Int)] 5)) (.slice (some ⟨W.heap.size, 0, none⟩) 1 1) [c] :=
  ⟨_, 1, rfl, Nat.le_refl _, fun i x hi => by
    cases i with
    | zero =>
      simp at hi; subst hi
      exact ⟨hc, _, _, rfl, by rw [cell_of_row _ _ _ _ _ _ (heap_alloc_new _ _)]; rfl⟩
    | succ i => simp at hi⟩
theorem ofL_one (p : Nat → Bool) (c : Nat) : ∀ i, i < 256 → (p i || ofL [c] i) = withB p c i := fun i _ => by
  unfold ofL withB; congr 1; rw [Bool.eq_iff_iff]; simp
theorem ofL_less (p : Nat → Bool) (c : Nat) : ∀ i, i < 256 → (p i && !ofL [c] i) = lessB p c i := fun i _ => by
  unfold ofL lessB; congr 2; rw [Bool.eq_iff_iff]; simp
set_option maxHeartbeats 400000 in
set_option maxRecDepth 100000 in
theorem add_any (p : Nat → Bool) (c : Nat) (w : World) (hc : c < 256) : Calls Try.prog 16 #[sv p, .int .u8 (c : Int)] w (SetPost w (withB p c)) := by
  obtain ⟨h1, h2, hb⟩ := two_zero w p
  have OF := Lib.hid (fun W => of_any _ [c] _ (BR.one W c hc) (by simp))
  go_enter Try.func16, Try.ntmps16
  go_wp2
  obtain ⟨W, hW⟩ : ∃ W, W = (w.alloc (setO p)).alloc zeros := ⟨_, rfl⟩
  rw [← hW] at h1 h2 hb ⊢
  clear hW
  have h1a := (h1.drew.alloc (.cells #[.int .u8 (c : Int)] 5))
  go_region_held3 (fun w' => w'.cell? ⟨w.heap.size, 0, none⟩ = some (wv p 0) ∧ w'.cell? ⟨w.heap.size, 1, none⟩ = some (wv p 1) ∧ w'.cell? ⟨w.heap.size, 2, none⟩ = some (wv p 2) ∧ w'.cell? ⟨w.heap.size, 3, none⟩ = some (wv p 3))
    (first | exact h1.four | exact h1a.four | exact s2.four | exact s3.four | exact s4.four)
    (first
      | (go_at_call 10; refine (OF.out W.drew).mono ?_; rintro e w2 ⟨rfl, hb2⟩; have s2 := h1a.below hb2 h1a.lt; have t2 := (h2.drew.alloc (.cells #[.int .u8 (c : Int)] 5)).below hb2 (h2.drew.alloc (.cells #[.int .u8 (c : Int)] 5)).lt)
      | (go_at_call 20; refine (union_any p _ _).mono ?_; rintro e w3 ⟨rfl, hb3⟩; have s3 := s2.below hb3 s2.lt; have t3 := t2.below hb3 t2.lt; have hst := t3.store (fun i => p i || ofL [c] i); have pw := PutAt.setRow w3 (w.heap.size + 1) (sc (fun i => p i || ofL [c] i)); have s4 := pw.sa (by omega) s3; have t4 := t3.setRow (fun i => p i || ofL [c] i)))
  go_wp2
  refine bodyPost_ret (v := sv (withB p c)) (set_result Try.results16 _ _ _ _ rfl (t4.congr (ofL_one p c))) rfl ⟨rfl, ?_⟩
  have b1 : Below w.heap.size w (W.drew.alloc (.cells #[.int .u8 (c : Int)] 5)) := hb.drew.alloc hb.size _
  have b2 := b1.trans (hb2.mono b1.size)
  have b3 := b2.trans (hb3.mono b2.size)
  exact b3.trans (pw.below (by omega))
set_option maxHeartbeats 400000 in
set_option maxRecDepth 100000 in
theorem drop_any (p : Nat → Bool) (c : Nat) (w : World) (hc : c < 256) : Calls Try.prog 18 #[sv p, .int .u8 (c : Int)] w (SetPost w (lessB p c)) := by
  obtain ⟨h1, h2, hb⟩ := two_zero w p
  have OF := Lib.hid (fun W => of_any _ [c] _ (BR.one W c hc) (by simp))
  go_enter Try.func18, Try.ntmps18
  go_wp2
  obtain ⟨W, hW⟩ : ∃ W, W = (w.alloc (setO p)).alloc zeros := ⟨_, rfl⟩
  rw [← hW] at h1 h2 hb ⊢
  clear hW
  have h1a := (h1.drew.alloc (.cells #[.int .u8 (c : Int)] 5))
  go_region_held3 (fun w' => w'.cell? ⟨w.heap.size, 0, none⟩ = some (wv p 0) ∧ w'.cell? ⟨w.heap.size, 1, none⟩ = some (wv p 1) ∧ w'.cell? ⟨w.heap.size, 2, none⟩ = some (wv p 2) ∧ w'.cell? ⟨w.heap.size, 3, none⟩ = some (wv p 3))
    (first | exact h1.four | exact h1a.four | exact s2.four | exact s3.four | exact s4.four)
    (first
      | (go_at_call 10; refine (OF.out W.drew).mono ?_; rintro e w2 ⟨rfl, hb2⟩; have s2 := h1a.below hb2 h1a.lt; have t2 := (h2.drew.alloc (.cells #[.int .u8 (c : Int)] 5)).below hb2 (h2.drew.alloc (.cells #[.int .u8 (c : Int)] 5)).lt)
      | (go_at_call 24; refine (minus_any p _ _).mono ?_; rintro e w3 ⟨rfl, hb3⟩; have s3 := s2.below hb3 s2.lt; have t3 := t2.below hb3 t2.lt; have hst := t3.store (fun i => p i && !ofL [c] i); have pw := PutAt.setRow w3 (w.heap.size + 1) (sc (fun i => p i && !ofL [c] i)); have s4 := pw.sa (by omega) s3; have t4 := t3.setRow (fun i => p i && !ofL [c] i)))
  go_wp2
  refine bodyPost_ret (v := sv (lessB p c)) (set_result Try.results18 _ _ _ _ rfl (t4.congr (ofL_less p c))) rfl ⟨rfl, ?_⟩
  have b1 : Below w.heap.size w (W.drew.alloc (.cells #[.int .u8 (c : Int)] 5)) := hb.drew.alloc hb.size _
  have b2 := b1.trans (hb2.mono b1.size)
  have b3 := b2.trans (hb3.mono b2.size)
  exact b3.trans (pw.below (by omega))
end Go.Proofs.Ytedbhjladpfafaa
