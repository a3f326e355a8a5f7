/- Layer 3: the examples of the document. -/
import Derived.Test.YtodkananajllaaaX
namespace Go.Proofs.Ytodkananajllaaa
open Go.RowKit
attribute [local go_sem] eq4 guard4 eq4z conv_new
theorem kzero (w : World) : Calls Try.prog 37 #[.agg #[.int .u64 0, .int .u64 0, .int .u64 0, .int .u64 0]] w fun e w' => e = .returned (.string ⟨#[91, 93]⟩) ∧ Below w.heap.size w w' := by
  rw [sc_none]
  have : printB (fun _ => false) = [91, 93] := by decide +kernel
  have h := print_any (fun _ => false) w
  rw [this] at h
  exact h
theorem kall (w : World) : Calls Try.prog 37 #[sv allS] w fun e w' => e = .returned (.string ⟨#[91, 94, 93]⟩) ∧ Below w.heap.size w w' := by
  have : printB allS = [91, 94, 93] := by decide +kernel
  have h := print_any allS w
  rw [this] at h
  exact h
theorem kless (w : World) : Calls Try.prog 37 #[sv (lessB allS 32)] w fun e w' => e = .returned (.string ⟨#[91, 94, 92, 120, 50, 48, 93]⟩) ∧ Below w.heap.size w w' := by
  have : printB (lessB allS 32) = [91, 94, 92, 120, 50, 48, 93] := by decide +kernel
  have h := print_any (lessB allS 32) w
  rw [this] at h
  exact h
theorem kmark (w : World) : Calls Try.prog 37 #[sv (ofL [45, 94])] w fun e w' => e = .returned (.string ⟨#[91, 92, 45, 92, 94, 93]⟩) ∧ Below w.heap.size w w' := by
  have : printB (ofL [45, 94]) = [91, 92, 45, 92, 94, 93] := by decide +kernel
  have h := print_any (ofL [45, 94]) w
  rw [this] at h
  exact h
theorem kab (w : World) : Calls Try.prog 37 #[sv (ofL [97, 98])] w fun e w' => e = .returned (.string ⟨#[91, 97, 98, 93]⟩) ∧ Below w.heap.size w w' := by
  have : printB (ofL [97, 98]) = [91, 97, 98, 93] := by decide +kernel
  have h := print_any (ofL [97, 98]) w
  rw [this] at h
  exact h
abbrev kp1T : ByteArray := ⟨#[91, 97]⟩
theorem kp1 (w : World) : Calls Try.prog 38 #[.string kp1T] w fun e w' => e = .returned (.tuple #[sv (parseB kp1T.data.toList).1, .int .i64 2, .int .i64 6]) ∧ Below w.heap.size w w' := by
  have : (parseB kp1T.data.toList).2 = (2, 6) := by decide +kernel
  exact (parse_any kp1T w (by decide)).mono fun _ _ h => ⟨by rw [h.1]; exact congrArg _ (pr_eq this), h.2⟩
abbrev kp2T : ByteArray := ⟨#[91, 97, 93, 98]⟩
theorem kp2 (w : World) : Calls Try.prog 38 #[.string kp2T] w fun e w' => e = .returned (.tuple #[sv (parseB kp2T.data.toList).1, .int .i64 3, .int .i64 6]) ∧ Below w.heap.size w w' := by
  have : (parseB kp2T.data.toList).2 = (3, 6) := by decide +kernel
  exact (parse_any kp2T w (by decide)).mono fun _ _ h => ⟨by rw [h.1]; exact congrArg _ (pr_eq this), h.2⟩
abbrev kp3T : ByteArray := ⟨#[91, 97, 32, 98, 93]⟩
theorem kp3 (w : World) : Calls Try.prog 38 #[.string kp3T] w fun e w' => e = .returned (.tuple #[sv (parseB kp3T.data.toList).1, .int .i64 2, .int .i64 6]) ∧ Below w.heap.size w w' := by
  have : (parseB kp3T.data.toList).2 = (2, 6) := by decide +kernel
  exact (parse_any kp3T w (by decide)).mono fun _ _ h => ⟨by rw [h.1]; exact congrArg _ (pr_eq this), h.2⟩
theorem kall' (w : World) : Calls Try.prog 37 #[.agg #[wv allS 0, wv allS 1, wv allS 2, wv allS 3]] w fun e w' => e = .returned (.string ⟨#[91, 94, 93]⟩) ∧ Below w.heap.size w w' := kall w
theorem eq4l (w : World) (p q : Nat → Bool) : (Op.equalIn 10000 26 (.agg #[wv p 0, wv p 1, wv p 2, wv p 3]) (.agg (sc q))).run Try.prog w = .ok (eqS p q) w := eq4 w p q
attribute [local go_sem] eq4l
theorem of1 (X : World) : Calls Try.prog 10 #[.slice (some ⟨X.heap.size, 0, none⟩) 3 3] (X.alloc (.cells #[.int .u8 97, .int .u8 98, .int .u8 99] 5 (3, 4))) fun e w' => e = .returned (sv (ofL [97, 98, 99])) ∧ Below (X.alloc (.cells #[.int .u8 97, .int .u8 98, .int .u8 99] 5 (3, 4))).heap.size (X.alloc (.cells #[.int .u8 97, .int .u8 98, .int .u8 99] 5 (3, 4))) w' :=
  of_any _ [97, 98, 99] _ (BR.lit X [97, 98, 99] (3, 4) (by decide)) (by decide)
theorem of2 (X : World) : Calls Try.prog 10 #[.slice (some ⟨X.heap.size, 0, none⟩) 2 2] (X.alloc (.cells #[.int .u8 45, .int .u8 94] 5 (2, 3))) fun e w' => e = .returned (sv (ofL [45, 94])) ∧ Below (X.alloc (.cells #[.int .u8 45, .int .u8 94] 5 (2, 3))).heap.size (X.alloc (.cells #[.int .u8 45, .int .u8 94] 5 (2, 3))) w' :=
  of_any _ [45, 94] _ (BR.lit X [45, 94] (2, 3) (by decide)) (by decide)
theorem of3 (X : World) : Calls Try.prog 10 #[.slice (some ⟨X.heap.size, 0, none⟩) 2 2] (X.alloc (.cells #[.int .u8 97, .int .u8 98] 5 (2, 3))) fun e w' => e = .returned (sv (ofL [97, 98])) ∧ Below (X.alloc (.cells #[.int .u8 97, .int .u8 98] 5 (2, 3))).heap.size (X.alloc (.cells #[.int .u8 97, .int .u8 98] 5 (2, 3))) w' :=
  of_any _ [97, 98] _ (BR.lit X [97, 98] (2, 3) (by decide)) (by decide)
theorem abc_any (w : World) : Calls Try.prog 11 #[.int .i64 97, .int .i64 99] w fun e w' => e = .returned (.tuple #[sv (rngP 97 99), .int .i64 0]) ∧ Below w.heap.size w w' := range_any 97 99 w
theorem kabc : eqS (rngP 97 99) (ofL [97, 98, 99]) = true := by decide +kernel
set_option maxHeartbeats 1600000 in
set_option maxRecDepth 100000 in
theorem known_any (w : World) : Calls Try.prog 8 #[] w fun e w' => e = .returned (.bool true) ∧ Below w.heap.size w w' := by
  have RA := Lib.hid ran_any
  have RB := Lib.hid abc_any
  have SH := Lib.hid shown_any
  have e1 := kabc
  go_enter Try.func8, Try.ntmps8
  go_wp2_with (first
    | (go_at_call 11; (with_reducible refine (RA.out _).mono ?_); rintro e w2 ⟨rfl, hb2⟩; have z2 := SA.zero w2; have B2 := hb2; have l2 := B2.size; clear hb2)
    | (refine wpList_put rfl _ _ rfl _ rfl _ allS rfl z2 ?_; (intro w3 x3 p3; have B3 := (B2.alloc l2 zeros).trans (p3.below l2); clear z2 B2 p3))
    | (go_at_call 11; (with_reducible refine (RB.out _).mono ?_); rintro e w4 ⟨rfl, hb4⟩; have x4' := x3.below hb4 x3.lt; have j4 := x4'.lt; have x4 := x4'.alloc zeros; have z4 := SA.zero w4; have B4 := B3.trans (hb4.mono B3.size); have l4 := B4.size; clear hb4 B3)
    | (refine wpList_put rfl _ _ rfl _ rfl _ (rngP 97 99) rfl z4 ?_; (intro w5 y5 p5; have x5 := p5.sa (by omega) x4; have B5 := (B4.alloc l4 zeros).trans (p5.below l4); clear z4 B4 p5))
    )
  have S0 : St w5 w2.heap.size w4.heap.size allS (rngP 97 99) w5 := ⟨x5, y5, ⟨x5.lt, y5.lt⟩, Below.refl _ w5⟩
  have S3 := S0.drew
  go_region_held (fun w' => w'.cell? ⟨w2.heap.size, 0, none⟩ = some (wv allS 0) ∧ w'.cell? ⟨w2.heap.size, 1, none⟩ = some (wv allS 1) ∧ w'.cell? ⟨w2.heap.size, 2, none⟩ = some (wv allS 2) ∧ w'.cell? ⟨w2.heap.size, 3, none⟩ = some (wv allS 3) ∧
      w'.cell? ⟨w4.heap.size, 0, none⟩ = some (wv (rngP 97 99) 0) ∧ w'.cell? ⟨w4.heap.size, 1, none⟩ = some (wv (rngP 97 99) 1) ∧ w'.cell? ⟨w4.heap.size, 2, none⟩ = some (wv (rngP 97 99) 2) ∧ w'.cell? ⟨w4.heap.size, 3, none⟩ = some (wv (rngP 97 99) 3))
    (first | (with_reducible exact (S13).eight) | (with_reducible exact (S13.alloc _).eight) | (with_reducible exact (S12).eight) | (with_reducible exact (S12.alloc _).eight) | (with_reducible exact (S11).eight) | (with_reducible exact (S11.alloc _).eight) | (with_reducible exact (S10).eight) | (with_reducible exact (S10.alloc _).eight) | (with_reducible exact (S9).eight) | (with_reducible exact (S9.alloc _).eight) | (with_reducible exact (S8).eight) | (with_reducible exact (S8.alloc _).eight) | (with_reducible exact (S7).eight) | (with_reducible exact (S7.alloc _).eight) | (with_reducible exact (S6).eight) | (with_reducible exact (S6.alloc _).eight) | (with_reducible exact (S5).eight) | (with_reducible exact (S5.alloc _).eight) | (with_reducible exact (S3).eight) | (with_reducible exact (S3.alloc _).eight))
    (first
      | (go_at_call 37; (with_reducible refine (kall' _).mono ?_); rintro e v5 ⟨rfl, hb⟩; have S5 := St.below (S3) hb; clear hb)
      | (go_at_call 37; (with_reducible refine (kzero _).mono ?_); rintro e v6 ⟨rfl, hb⟩; have S6 := St.below (S5) hb; clear hb)
      | (go_at_call 18; refine (drop_any allS 32 _ (by decide)).mono ?_; rintro e v7 ⟨rfl, hb⟩; have S7 := St.below (S6) hb; clear hb)
      | (go_at_call 37; (with_reducible refine (kless _).mono ?_); rintro e v8 ⟨rfl, hb⟩; have S8 := St.below (S7) hb; clear hb)
      | (go_at_call 10; (with_reducible refine (of1 _).mono ?_); rintro e v9 ⟨rfl, hb⟩; have S9 := St.below (S8.alloc _) hb; clear hb)
      | (go_at_call 10; (with_reducible refine (of2 _).mono ?_); rintro e v10 ⟨rfl, hb⟩; have S10 := St.below (S9.alloc _) hb; clear hb)
      | (go_at_call 37; (with_reducible refine (kmark _).mono ?_); rintro e v11 ⟨rfl, hb⟩; have S11 := St.below (S10) hb; clear hb)
      | (go_at_call 10; (with_reducible refine (of3 _).mono ?_); rintro e v12 ⟨rfl, hb⟩; have S12 := St.below (S11.alloc _) hb; clear hb)
      | (go_at_call 37; (with_reducible refine (kab _).mono ?_); rintro e v13 ⟨rfl, hb⟩; have S13 := St.below (S12) hb; clear hb))
  all_goals
    have B13 : Below w.heap.size w v13 := B5.trans (S13.bel.mono B5.size)
    clear S0 S3 S5 S6 S7 S8 S9 S10 S11 S12 S13 x5 y5 x3 x4
    go_wp2_with (first
      | (go_at_call 38; (with_reducible refine (kp1 _).mono ?_); rintro e w20 ⟨rfl, hb⟩; have C20 := B13.trans (hb.mono B13.size); have l20 := C20.size; have z20 := SA.zero w20; clear hb)
      | (refine wpList_put rfl _ _ rfl _ rfl _ _ rfl z20 ?_; intro w21 x21 p21; have C21 := (C20.alloc l20 zeros).trans (p21.below l20); clear z20)
      | (go_at_call 38; (with_reducible refine (kp2 _).mono ?_); rintro e w22 ⟨rfl, hb⟩; have C22 := C21.trans (hb.mono C21.size); have l22 := C22.size; have z22 := SA.zero w22; clear hb)
      | (refine wpList_put rfl _ _ rfl _ rfl _ _ rfl z22 ?_; intro w23 x23 p23; have C23 := (C22.alloc l22 zeros).trans (p23.below l22); clear z22)
      | (go_at_call 38; (with_reducible refine (kp3 _).mono ?_); rintro e w24 ⟨rfl, hb⟩; have C24 := C23.trans (hb.mono C23.size); have l24 := C24.size; have z24 := SA.zero w24; clear hb)
      | (refine wpList_put rfl _ _ rfl _ rfl _ _ rfl z24 ?_; intro w25 x25 p25; have C25 := (C24.alloc l24 zeros).trans (p25.below l24); clear z24)
      | (go_at_call 9; refine (SH.out _).mono ?_; rintro e w26 ⟨rfl, hb⟩; have C26 := C25.trans (hb.mono C25.size))
      )
    go_ret
    exact ⟨rfl, C26⟩
end Go.Proofs.Ytodkananajllaaa
