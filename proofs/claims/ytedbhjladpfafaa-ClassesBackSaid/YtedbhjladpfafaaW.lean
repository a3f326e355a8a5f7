/- Layer 3: the law's closed calls. -/
import Derived.Test.YtedbhjladpfafaaV
namespace Go.Proofs.Ytedbhjladpfafaa
open Go.RowKit
theorem BR.lit (W : World) (xs : List Nat) (fr : Nat × Nat) (hx : ∀ x ∈ xs, x < 256) : BR (W.alloc (.cells (xs.map u8n).toArray 5 fr)) (.slice (some ⟨W.heap.size, 0, none⟩) xs.length xs.length) xs :=
  ⟨_, _, rfl, Nat.le_refl _, fun i x hi => ⟨hx x (List.mem_of_getElem? hi), _, _, rfl, by
    rw [cell_of_row _ _ _ _ _ _ (heap_alloc_new _ _)]
    simp [hi, u8n]⟩⟩
/-- The last block of a heap, turned. -/
theorem modify_last (a : Array Obj) (x : Obj) (f : Obj → Obj) : (a.push x).modify a.size f = a.push (f x) := by
  apply Array.ext_getElem?
  intro i
  rw [Array.getElem?_modify]
  by_cases h : a.size = i
  · subst h; simp
  · rw [if_neg h]
    rcases Nat.lt_or_ge i a.size with hi | hi
    · rw [Array.getElem?_push_lt hi, Array.getElem?_push_lt hi]
    · rw [Array.getElem?_eq_none (by simp; omega), Array.getElem?_eq_none (by simp; omega)]
/-- '[]byte(..)' of a new slice of bytes: the same slice; a mark behind its bytes. -/
theorem conv_new (w : World) (C : Array Value) (n c : Nat) : (convert 22 22 (.slice (some ⟨w.heap.size, 0, none⟩) n c)).run Try.prog (w.alloc (.cells C 5)) = .ok (.slice (some ⟨w.heap.size, 0, none⟩) n c) (w.alloc (.cells C 5 (C.size, C.size + 1))) := by
  have hsh : (w.alloc (.cells C 5)).shape? w.heap.size = some (5, C.size) := by
    unfold World.shape?
    rw [heap_alloc_new]
  have hfr : (w.alloc (.cells C 5)).freeze ⟨w.heap.size, C.size, none⟩ 1 = w.alloc (.cells C 5 (C.size, C.size + 1)) := by
    unfold World.freeze
    rw [if_neg (by decide)]
    show ({ w.alloc (.cells C 5) with heap := (w.heap.push (.cells C 5)).modify w.heap.size _ } : World) = _
    rw [modify_last]
    rfl
  simp [convert, run_underlying Try.underlying22, run_underlying Try.underlying5, markStringish, hsh]
  exact hfr
abbrev sA : ByteArray := ⟨#[91, 120, 97, 45, 99, 98, 97, 93]⟩
abbrev sB : ByteArray := ⟨#[91, 99, 45, 97, 97, 93]⟩
abbrev sC : ByteArray := ⟨#[91, 94, 97, 45, 122, 93, 43]⟩
def setA : Nat → Bool := (parseB sA.data.toList).1
def setB : Nat → Bool := (parseB sB.data.toList).1
def setC : Nat → Bool := (prefB sC.data.toList).1
theorem clA : (parseB sA.data.toList).2 = (0, 0) := by decide +kernel
theorem clB : (parseB sB.data.toList).2 = (3, 6) := by decide +kernel
theorem clC : (prefB sC.data.toList).2 = (6, 0) := by decide +kernel
theorem clP1 : (⟨(printB (ofL [99, 97, 98, 48, 120])).toArray⟩ : ByteArray) = ⟨#[91, 48, 97, 45, 99, 120, 93]⟩ := by
  have : printB (ofL [99, 97, 98, 48, 120]) = [91, 48, 97, 45, 99, 120, 93] := by decide +kernel
  rw [this]
theorem clP2 : (⟨(printB setA).toArray⟩ : ByteArray) = ⟨#[91, 97, 45, 99, 120, 93]⟩ := by
  have : printB setA = [91, 97, 45, 99, 120, 93] := by decide +kernel
  rw [this]
theorem pr_eq {r : (Nat → Bool) × Nat × Int} {a : Nat} {b : Int} (h : r.2 = (a, b)) : (.tuple #[sv r.1, .int .i64 (r.2.1 : Int), .int .i64 r.2.2] : Value) = .tuple #[sv r.1, .int .i64 (a : Int), .int .i64 b] := by rw [h]
set_option maxHeartbeats 400000 in
set_option maxRecDepth 100000 in
theorem shown_any (w : World) : Calls Try.prog 9 #[] w fun e w' => e = .returned (.bool true) ∧ Below w.heap.size w w' := by
  have OF := of_any _ [99, 97, 98, 48, 120] _ (BR.lit w [99, 97, 98, 48, 120] (5, 6) (by decide)) (by decide)
  have PA := fun w => (parse_any sA w (by decide)).mono (R' := fun e w' => e = .returned (.tuple #[sv setA, .int .i64 0, .int .i64 0]) ∧ Below w.heap.size w w') (fun _ _ h => ⟨by rw [h.1]; exact congrArg _ (pr_eq clA), h.2⟩)
  have PB := fun w => (parse_any sB w (by decide)).mono (R' := fun e w' => e = .returned (.tuple #[sv setB, .int .i64 3, .int .i64 6]) ∧ Below w.heap.size w w') (fun _ _ h => ⟨by rw [h.1]; exact congrArg _ (pr_eq clB), h.2⟩)
  have PC := fun w => (prefix_any sC w (by decide)).mono (R' := fun e w' => e = .returned (.tuple #[sv setC, .int .i64 6, .int .i64 0]) ∧ Below w.heap.size w w') (fun _ _ h => ⟨by rw [h.1]; exact congrArg _ (pr_eq clC), h.2⟩)
  have RG := fun w => (range_any 5 4 w).mono (R' := fun e w' => e = .returned (.tuple #[sv (rngP 5 4), .int .i64 7]) ∧ Below w.heap.size w w') (fun _ _ h => h)
  have P1 := fun w => (print_any (ofL [99, 97, 98, 48, 120]) w).mono (R' := fun e w' => e = .returned (.string ⟨#[91, 48, 97, 45, 99, 120, 93]⟩) ∧ Below w.heap.size w w') (fun _ _ h => ⟨by rw [h.1, clP1], h.2⟩)
  have P2 := fun w => (print_any setA w).mono (R' := fun e w' => e = .returned (.string ⟨#[91, 97, 45, 99, 120, 93]⟩) ∧ Below w.heap.size w w') (fun _ _ h => ⟨by rw [h.1, clP2], h.2⟩)
  replace OF := Lib.hid OF
  have hcv := conv_new w #[.int .u8 99, .int .u8 97, .int .u8 98, .int .u8 48, .int .u8 120] 5 5
  replace PA := Lib.hid PA
  replace PB := Lib.hid PB
  replace PC := Lib.hid PC
  replace RG := Lib.hid RG
  replace P1 := Lib.hid P1
  replace P2 := Lib.hid P2
  go_enter Try.func9, Try.ntmps9
  go_wp2_with (first
    | (go_at_call 10; refine OF.out.mono ?_; rintro e w2 ⟨rfl, hb2⟩; have y2 := SA.zero w2; have B2 : Below w.heap.size w w2 := ((Below.refl _ w).alloc (Nat.le_refl _) _).trans (hb2.mono (by simp)); clear hb2; have l2 := B2.size)
    | (refine wpList_put rfl _ _ rfl _ rfl _ (ofL [99, 97, 98, 48, 120]) rfl y2 ?_; intro w3 s3 p3; have B3 := (B2.alloc l2 zeros).trans (p3.below l2); clear B2 y2 p3)
    | (go_at_call 38; (with_reducible refine (PA.out _).mono ?_); rintro e w4 ⟨rfl, hb4⟩; have s4' := s3.below hb4 s3.lt; have j4 := s4'.lt; have s4 := s4'.alloc zeros; have B4 := B3.trans (hb4.mono B3.size); clear hb4; have y4 := SA.zero w4; have l4 := B4.size)
    | (refine wpList_put rfl _ _ rfl _ rfl _ setA rfl y4 ?_; intro w5 r5 p5; have s5 := p5.sa (by omega) s4; (have z5 := r5); have B5 := (B4.alloc l4 zeros).trans (p5.below l4); clear B4 y4 p5)
    | (go_at_call 38; (with_reducible refine (PB.out _).mono ?_); rintro e w6 ⟨rfl, hb6⟩; have s6' := s5.below hb6 s5.lt; have j6 := s6'.lt; have s6 := s6'.alloc zeros; have z6' := z5.below hb6 z5.lt; have z6 := z6'.alloc zeros; have k6 := z6'.lt; have B6 := B5.trans (hb6.mono B5.size); clear hb6; have y6 := SA.zero w6; have l6 := B6.size)
    | (refine wpList_put rfl _ _ rfl _ rfl _ setB rfl y6 ?_; intro w7 r7 p7; have s7 := p7.sa (by omega) s6; have z7 := p7.sa (by omega) z6; have B7 := (B6.alloc l6 zeros).trans (p7.below l6); clear B6 y6 p7)
    | (go_at_call 39; (with_reducible refine (PC.out _).mono ?_); rintro e w8 ⟨rfl, hb8⟩; have s8' := s7.below hb8 s7.lt; have j8 := s8'.lt; have s8 := s8'.alloc zeros; have z8' := z7.below hb8 z7.lt; have z8 := z8'.alloc zeros; have k8 := z8'.lt; have B8 := B7.trans (hb8.mono B7.size); clear hb8; have y8 := SA.zero w8; have l8 := B8.size)
    | (refine wpList_put rfl _ _ rfl _ rfl _ setC rfl y8 ?_; intro w9 r9 p9; have s9 := p9.sa (by omega) s8; have z9 := p9.sa (by omega) z8; have B9 := (B8.alloc l8 zeros).trans (p9.below l8); clear B8 y8 p9)
    | (go_at_call 11; (with_reducible refine (RG.out _).mono ?_); rintro e w10 ⟨rfl, hb10⟩; have s10' := s9.below hb10 s9.lt; have j10 := s10'.lt; have s10 := s10'.alloc zeros; have z10' := z9.below hb10 z9.lt; have z10 := z10'.alloc zeros; have k10 := z10'.lt; have B10 := B9.trans (hb10.mono B9.size); clear hb10; have y10 := SA.zero w10; have l10 := B10.size)
    | (refine wpList_put rfl _ _ rfl _ rfl _ (rngP 5 4) rfl y10 ?_; intro w11 r11 p11; have s11 := p11.sa (by omega) s10; have z11 := p11.sa (by omega) z10; have B11 := (B10.alloc l10 zeros).trans (p11.below l10); clear B10 y10 p11)
    | (refine wpList_get rfl _ rfl _ rfl _ s11 ?_)
    | (go_at_call 37; (with_reducible refine (P1.out _).mono ?_); rintro e w20 ⟨rfl, hb20⟩; have z20 := z11.below hb20 z11.lt; have B20 := B11.trans (hb20.mono B11.size); clear hb20)
    | (refine wpList_getG (by rfl) _ rfl _ rfl _ z20 ?_)
    | (go_at_call 37; (with_reducible refine (P2.out _).mono ?_); rintro e w21 ⟨rfl, hb21⟩; have B21 := B20.trans (hb21.mono B20.size); clear hb21)
    )
  go_ret
  exact ⟨rfl, B21⟩
end Go.Proofs.Ytedbhjladpfafaa
