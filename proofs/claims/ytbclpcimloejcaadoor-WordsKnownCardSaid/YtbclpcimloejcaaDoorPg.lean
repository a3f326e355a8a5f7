/- Layer 1: the examples of the document. -/
import Derived.Test.YtbclpcimloejcaaDoorPf
namespace Go.Proofs.YtbclpcimloejcaaDoor
open Go.RowKit
theorem k1 (w : World) (hw : LW w) : Calls Tryd.prog 15 #[.string ⟨#[48, 48, 55]⟩, .int .i64 0, .int .i64 10] w fun e w' => e = .returned (.tuple #[.int .i64 0, .int .i64 6]) ∧ Below w.heap.size w w' := by
  have h := int_any ⟨#[48, 48, 55]⟩ 0 10 (by decide) (by decide) w hw (by decide)
  rw [show intV (⟨#[48, 48, 55]⟩ : ByteArray).data.toList 0 10 = 0 by decide +kernel, show intE (⟨#[48, 48, 55]⟩ : ByteArray).data.toList 0 10 = 6 by decide +kernel] at h
  exact h
theorem k2 (w : World) (hw : LW w) : Calls Tryd.prog 15 #[.string ⟨#[45, 48]⟩, .int .i64 0, .int .i64 10] w fun e w' => e = .returned (.tuple #[.int .i64 0, .int .i64 6]) ∧ Below w.heap.size w w' := by
  have h := int_any ⟨#[45, 48]⟩ 0 10 (by decide) (by decide) w hw (by decide)
  rw [show intV (⟨#[45, 48]⟩ : ByteArray).data.toList 0 10 = 0 by decide +kernel, show intE (⟨#[45, 48]⟩ : ByteArray).data.toList 0 10 = 6 by decide +kernel] at h
  exact h
theorem k3 (w : World) (hw : LW w) : Calls Tryd.prog 15 #[.string ⟨#[49, 50]⟩, .int .i64 0, .int .i64 10] w fun e w' => e = .returned (.tuple #[.int .i64 0, .int .i64 7]) ∧ Below w.heap.size w w' := by
  have h := int_any ⟨#[49, 50]⟩ 0 10 (by decide) (by decide) w hw (by decide)
  rw [show intV (⟨#[49, 50]⟩ : ByteArray).data.toList 0 10 = 0 by decide +kernel, show intE (⟨#[49, 50]⟩ : ByteArray).data.toList 0 10 = 7 by decide +kernel] at h
  exact h
theorem k4 (w : World) (hw : LW w) : Calls Tryd.prog 10 #[.string ⟨#[34, 92, 120, 52, 49, 34]⟩] w fun e w' => e = .returned (.tuple #[.string ⟨(unqT (⟨#[34, 92, 120, 52, 49, 34]⟩ : ByteArray).data.toList).toArray⟩, .int .i64 6]) ∧ Below w.heap.size w w' := by
  have h := unquote_any ⟨#[34, 92, 120, 52, 49, 34]⟩ w hw (by decide)
  rw [show unqE (⟨#[34, 92, 120, 52, 49, 34]⟩ : ByteArray).data.toList = 6 by decide +kernel] at h
  exact h
theorem k5 (w : World) (hw : LW w) : Calls Tryd.prog 10 #[.string ⟨#[34, 92, 120, 55, 70, 34]⟩] w fun e w' => e = .returned (.tuple #[.string ⟨(unqT (⟨#[34, 92, 120, 55, 70, 34]⟩ : ByteArray).data.toList).toArray⟩, .int .i64 6]) ∧ Below w.heap.size w w' := by
  have h := unquote_any ⟨#[34, 92, 120, 55, 70, 34]⟩ w hw (by decide)
  rw [show unqE (⟨#[34, 92, 120, 55, 70, 34]⟩ : ByteArray).data.toList = 6 by decide +kernel] at h
  exact h
theorem k6 (w : World) (hw : LW w) : Calls Tryd.prog 10 #[.string ⟨#[34, 97]⟩] w fun e w' => e = .returned (.tuple #[.string ⟨(unqT (⟨#[34, 97]⟩ : ByteArray).data.toList).toArray⟩, .int .i64 6]) ∧ Below w.heap.size w w' := by
  have h := unquote_any ⟨#[34, 97]⟩ w hw (by decide)
  rw [show unqE (⟨#[34, 97]⟩ : ByteArray).data.toList = 6 by decide +kernel] at h
  exact h
theorem k7 (w : World) (hw : LW w) : Calls Tryd.prog 7 #[.string ⟨#[97, 32, 32, 98]⟩] w fun e w' => e = .returned (.tuple #[.slice none 0 0, .int .i64 6]) ∧ Below w.heap.size w w' := by
  refine (split_any ⟨#[97, 32, 32, 98]⟩ w hw (by decide)).mono fun e w' h => ?_
  obtain ⟨hb, v, rfl, h2⟩ := h
  have e1 : spE (⟨#[97, 32, 32, 98]⟩ : ByteArray).data.toList = 6 := by decide +kernel
  have e2 : v = .slice none 0 0 := h2.2 (by decide +kernel)
  exact ⟨by rw [e1, e2], hb⟩
theorem k8 (w : World) (hw : LW w) : Calls Tryd.prog 7 #[.string ⟨#[]⟩] w fun e w' => e = .returned (.tuple #[.slice none 0 0, .int .i64 0]) ∧ Below w.heap.size w w' := by
  refine (split_any ⟨#[]⟩ w hw (by decide)).mono fun e w' h => ?_
  obtain ⟨hb, v, rfl, h2⟩ := h
  have e1 : spE (⟨#[]⟩ : ByteArray).data.toList = 0 := by decide +kernel
  have e2 : v = .slice none 0 0 := (h2.1 (by decide +kernel)).2.2 (by decide +kernel)
  exact ⟨by rw [e1, e2], hb⟩
theorem k9 (w : World) (hw : LW w) : Calls Tryd.prog 12 #[.slice none 0 0] w fun e w' => e = .returned (.tuple #[.string ⟨#[45]⟩, .int .i64 0]) ∧ Below w.heap.size w w' := by
  have h := list_any (.slice none 0 0) [] w hw ⟨none, 0, rfl, fun i z h => by simp at h⟩ (by decide)
  unfold ListPost at h
  rw [show listS [] = [45] by decide +kernel, show listE [] = 0 by decide +kernel] at h
  exact h
theorem k10 (w : World) (hw : LW w) : Calls Tryd.prog 13 #[.string ⟨#[49, 45, 51, 44, 52]⟩] w fun e w' => e = .returned (.tuple #[.slice none 0 0, .int .i64 6]) ∧ Below w.heap.size w w' := by
  have e1 : parseLE ⟨#[49, 45, 51, 44, 52]⟩ = 6 := by decide +kernel
  have h := parse_bad ⟨#[49, 45, 51, 44, 52]⟩ w hw (by decide) (by rw [e1]; decide)
  rw [e1] at h
  exact h
theorem k11 (w : World) (hw : LW w) : Calls Tryd.prog 13 #[.string ⟨#[51, 45, 51]⟩] w fun e w' => e = .returned (.tuple #[.slice none 0 0, .int .i64 6]) ∧ Below w.heap.size w w' := by
  have e1 : parseLE ⟨#[51, 45, 51]⟩ = 6 := by decide +kernel
  have h := parse_bad ⟨#[51, 45, 51]⟩ w hw (by decide) (by rw [e1]; decide)
  rw [e1] at h
  exact h
theorem k12 (w : World) (hw : LW w) : Calls Tryd.prog 13 #[.string ⟨#[50, 44, 49]⟩] w fun e w' => e = .returned (.tuple #[.slice none 0 0, .int .i64 6]) ∧ Below w.heap.size w w' := by
  have e1 : parseLE ⟨#[50, 44, 49]⟩ = 6 := by decide +kernel
  have h := parse_bad ⟨#[50, 44, 49]⟩ w hw (by decide) (by rw [e1]; decide)
  rw [e1] at h
  exact h
theorem k13 (w : World) (hw : LW w) : Calls Tryd.prog 13 #[.string ⟨#[48, 45, 54, 48, 48]⟩] w fun e w' => e = .returned (.tuple #[.slice none 0 0, .int .i64 3]) ∧ Below w.heap.size w w' := by
  have e1 : parseLE ⟨#[48, 45, 54, 48, 48]⟩ = 3 := by decide +kernel
  have h := parse_bad ⟨#[48, 45, 54, 48, 48]⟩ w hw (by decide) (by rw [e1]; decide)
  rw [e1] at h
  exact h
theorem k14 (w : World) : Calls Tryd.prog 17 #[.string ⟨#[87, 101, 98]⟩] w fun e w' => e = .returned (.bool false) ∧ w = w' := by
  have h := name_any ⟨#[87, 101, 98]⟩ w (by decide)
  rw [show nameL (⟨#[87, 101, 98]⟩ : ByteArray).data.toList = false by decide +kernel] at h
  exact h
theorem k15 (w : World) : Calls Tryd.prog 17 #[.string ⟨#[97, 97, 97, 97, 97, 97, 97, 97, 97, 97, 97, 97, 97, 97, 97, 97, 97]⟩] w fun e w' => e = .returned (.bool false) ∧ w = w' := by
  have h := name_any ⟨#[97, 97, 97, 97, 97, 97, 97, 97, 97, 97, 97, 97, 97, 97, 97, 97, 97]⟩ w (by decide)
  rw [show nameL (⟨#[97, 97, 97, 97, 97, 97, 97, 97, 97, 97, 97, 97, 97, 97, 97, 97, 97]⟩ : ByteArray).data.toList = false by decide +kernel] at h
  exact h
set_option maxHeartbeats 3200000 in
set_option maxRecDepth 100000 in
theorem known_any (w : World) (hw : LW w) : Calls Tryd.prog 4 #[] w fun e w' => e = .returned (.bool true) ∧ Below w.heap.size w w' := by
  have K1 := Lib.hid (fun W (h : Below w.heap.size w W) => k1 W (hw.below h))
  have K2 := Lib.hid (fun W (h : Below w.heap.size w W) => k2 W (hw.below h))
  have K3 := Lib.hid (fun W (h : Below w.heap.size w W) => k3 W (hw.below h))
  have K4 := Lib.hid (fun W (h : Below w.heap.size w W) => k4 W (hw.below h))
  have K5 := Lib.hid (fun W (h : Below w.heap.size w W) => k5 W (hw.below h))
  have K6 := Lib.hid (fun W (h : Below w.heap.size w W) => k6 W (hw.below h))
  have K7 := Lib.hid (fun W (h : Below w.heap.size w W) => k7 W (hw.below h))
  have K8 := Lib.hid (fun W (h : Below w.heap.size w W) => k8 W (hw.below h))
  have K9 := Lib.hid (fun W (h : Below w.heap.size w W) => k9 W (hw.below h))
  have K10 := Lib.hid (fun W (h : Below w.heap.size w W) => k10 W (hw.below h))
  have K11 := Lib.hid (fun W (h : Below w.heap.size w W) => k11 W (hw.below h))
  have K12 := Lib.hid (fun W (h : Below w.heap.size w W) => k12 W (hw.below h))
  have K13 := Lib.hid (fun W (h : Below w.heap.size w W) => k13 W (hw.below h))
  have K14 := Lib.hid k14
  have K15 := Lib.hid k15
  have SH := Lib.hid (fun W (h : Below w.heap.size w W) => shown_any W (hw.below h))
  generalize unqT (⟨#[34, 92, 120, 52, 49, 34]⟩ : ByteArray).data.toList = t4 at *
  generalize unqT (⟨#[34, 92, 120, 55, 70, 34]⟩ : ByteArray).data.toList = t5 at *
  generalize unqT (⟨#[34, 97]⟩ : ByteArray).data.toList = t6 at *
  have hb := Below.refl w.heap.size w
  clear hw
  go_enter Tryd.func4, Tryd.ntmps4
  go_wp2_with (first
    | (go_at_call 15; first | ((with_reducible refine (K1.out _ hb).mono ?_); rintro e w2 ⟨rfl, hb2⟩; replace hb := hb.trans (hb2.mono hb.size); clear hb2) | ((with_reducible refine (K2.out _ hb).mono ?_); rintro e w2 ⟨rfl, hb2⟩; replace hb := hb.trans (hb2.mono hb.size); clear hb2) | ((with_reducible refine (K3.out _ hb).mono ?_); rintro e w2 ⟨rfl, hb2⟩; replace hb := hb.trans (hb2.mono hb.size); clear hb2))
    | (go_at_call 10; first | ((with_reducible refine (K4.out _ hb).mono ?_); rintro e w2 ⟨rfl, hb2⟩; replace hb := hb.trans (hb2.mono hb.size); clear hb2) | ((with_reducible refine (K5.out _ hb).mono ?_); rintro e w2 ⟨rfl, hb2⟩; replace hb := hb.trans (hb2.mono hb.size); clear hb2) | ((with_reducible refine (K6.out _ hb).mono ?_); rintro e w2 ⟨rfl, hb2⟩; replace hb := hb.trans (hb2.mono hb.size); clear hb2))
    | (go_at_call 7; first | ((with_reducible refine (K7.out _ hb).mono ?_); rintro e w2 ⟨rfl, hb2⟩; replace hb := hb.trans (hb2.mono hb.size); clear hb2) | ((with_reducible refine (K8.out _ hb).mono ?_); rintro e w2 ⟨rfl, hb2⟩; replace hb := hb.trans (hb2.mono hb.size); clear hb2))
    | (go_at_call 12; first | ((with_reducible refine (K9.out _ hb).mono ?_); rintro e w2 ⟨rfl, hb2⟩; replace hb := hb.trans (hb2.mono hb.size); clear hb2))
    | (go_at_call 13; first | ((with_reducible refine (K10.out _ hb).mono ?_); rintro e w2 ⟨rfl, hb2⟩; replace hb := hb.trans (hb2.mono hb.size); clear hb2) | ((with_reducible refine (K11.out _ hb).mono ?_); rintro e w2 ⟨rfl, hb2⟩; replace hb := hb.trans (hb2.mono hb.size); clear hb2) | ((with_reducible refine (K12.out _ hb).mono ?_); rintro e w2 ⟨rfl, hb2⟩; replace hb := hb.trans (hb2.mono hb.size); clear hb2) | ((with_reducible refine (K13.out _ hb).mono ?_); rintro e w2 ⟨rfl, hb2⟩; replace hb := hb.trans (hb2.mono hb.size); clear hb2))
    | (go_at_call 17; first | ((with_reducible refine (K14.out _).mono ?_); rintro e w2 ⟨rfl, rfl⟩) | ((with_reducible refine (K15.out _).mono ?_); rintro e w2 ⟨rfl, rfl⟩))
    | (go_at_call 6; (with_reducible refine (SH.out _ hb).mono ?_); rintro e w2 ⟨rfl, hb2⟩; replace hb := hb.trans (hb2.mono hb.size); clear hb2)
    )
  go_ret
  exact ⟨rfl, hb⟩
end Go.Proofs.YtbclpcimloejcaaDoor
