/- Layer 1: shown. -/
import Derived.Test.YtoapfldmkpobmaaGreatDoorY
namespace Go.Proofs.YtoapfldmkpobmaaGreatDoor
open Go.RowKit
def shL : List UInt8 := [103, 101, 116, 32, 47, 32, 34, 97, 32, 98, 34]
def shI : List Item := [⟨[103, 101, 116], false, true⟩, ⟨[47], false, true⟩, ⟨[97, 32, 98], true, true⟩]
theorem sh1 : fAll shL = shI := by kernel_rfl
theorem sh2 : spE shL = 0 := by kernel_rfl
theorem sh3 : intV [45, 49, 50] (-20) 20 = -12 ∧ intE [45, 49, 50] (-20) 20 = 0 := by constructor <;> kernel_rfl
theorem sh4 : listE [1, 2, 3, 5, 8, 9] = 0 := by kernel_rfl
theorem sh5 : listS [1, 2, 3, 5, 8, 9] = [49, 45, 51, 44, 53, 44, 56, 45, 57] := by kernel_rfl
theorem sh6 : unqT [34, 97, 92, 110, 92, 120, 48, 48, 92, 34, 34] = [97, 10, 0, 34] ∧ unqE [34, 97, 92, 110, 92, 120, 48, 48, 92, 34, 34] = 0 := by constructor <;> kernel_rfl
theorem sh7 : nameL [119, 101, 98, 45, 49] = true := by kernel_rfl
theorem sh8 : sameL shI shI = true := by kernel_rfl
theorem FSl.below {w W : World} {v : Value} {xs : List Item} (h : FSl w v xs) (hb : Below w.heap.size w W) : FSl W v xs := by
  obtain ⟨p, c, rfl, hv⟩ := h
  refine ⟨p, c, rfl, fun i x hx => ?_⟩
  obtain ⟨b, o, hp, hc, hd⟩ := hv i x hx
  exact ⟨b, o, hp, (hb.cell (cell_in hc)).trans hc, (hb.cell (cell_in hd)).trans hd⟩
theorem fm_at : ∀ (xs : List Item) (i : Nat) (x : Item), xs[i]? = some x → (xs.flatMap encF)[i * 2]? = some (.string ⟨x.s.toArray⟩) ∧ (xs.flatMap encF)[i * 2 + 1]? = some (.bool x.q)
  | [], i, x, h => by simp at h
  | y :: r, 0, x, h => by simp at h; subst h; simp [encF]
  | y :: r, i + 1, x, h => by
    have := fm_at r i x (by simpa using h)
    rw [List.flatMap_cons, show (i + 1) * 2 = i * 2 + 2 by omega, show i * 2 + 2 + 1 = i * 2 + 1 + 2 by omega]
    simpa [encF] using this
/-- A row of one's own holds the fields. -/
theorem FSl.of_own {w : World} {base : Nat} {v : Value} {xs : List Item} (h : w.ownsRow base 39 2 v xs.length (xs.flatMap encF)) : FSl w v xs := by
  have hc := fun g (hg : v.ownBlock = some g) => h.cells (g := g) hg
  rcases h.2 with ⟨rfl, h0⟩ | ⟨g, cap, cur, rfl, hb, hgg, hcap, _⟩
  · refine ⟨none, 0, by rw [h0], fun i x hx => ?_⟩
    rw [List.eq_nil_of_length_eq_zero h0] at hx; simp at hx
  · refine ⟨_, cap, rfl, fun i x hx => ⟨g, 0, rfl, ?_⟩⟩
    obtain ⟨a, b⟩ := fm_at xs i x hx
    have h1 := hc g rfl _ _ a
    have h2 := hc g rfl _ _ b
    have ad : ∀ j, w.cell? ((⟨g, 0, none⟩ : Addr).add j) = w.cell? ⟨g, 0 + j, none⟩ := fun j => by cases j <;> simp [Addr.add]
    rw [ad] at h1 h2
    exact ⟨h1, by rw [Nat.add_assoc]; exact h2⟩
theorem sh_lits (w : World) : FSl (w.alloc (.cells #[.string ⟨#[103, 101, 116]⟩, .bool false, .string ⟨#[47]⟩, .bool false, .string ⟨#[97, 32, 98]⟩, .bool true] 39)) (.slice (some ⟨w.heap.size, 0, none⟩) 3 3) shI := by
  refine ⟨_, 3, rfl, fun i x hx => ⟨_, 0, rfl, ?_⟩⟩
  match i, hx with
  | 0, hx => simp [shI] at hx; subst hx; simp
  | 1, hx => simp [shI] at hx; subst hx; simp
  | 2, hx => simp [shI] at hx; subst hx; simp
  | i + 3, hx => simp [shI] at hx
theorem sh_ints (w : World) : ISl (w.alloc (.cells #[.int .i64 1, .int .i64 2, .int .i64 3, .int .i64 5, .int .i64 8, .int .i64 9] 3)) (.slice (some ⟨w.heap.size, 0, none⟩) 6 6) [1, 2, 3, 5, 8, 9] := by
  refine ⟨_, 6, rfl, fun i x hx => ⟨_, 0, rfl, ?_⟩⟩
  match i, hx with
  | 0, hx => simp at hx; subst hx; simp
  | 1, hx => simp at hx; subst hx; simp
  | 2, hx => simp at hx; subst hx; simp
  | 3, hx => simp at hx; subst hx; simp
  | 4, hx => simp at hx; subst hx; simp
  | 5, hx => simp at hx; subst hx; simp
  | i + 6, hx => simp at hx
set_option maxRecDepth 100000 in
theorem shown_any (w : World) (hw : LW w) : Calls Tryz.prog 4 #[] w fun e w' => e = .returned (.bool true) ∧ Below w.heap.size w w' := by
  have C1 := Lib.hid (show Calls Tryz.prog 10 #[.string ⟨#[103, 101, 116, 32, 47, 32, 34, 97, 32, 98, 34]⟩] w fun e w' => Below w.heap.size w w' ∧ ∃ v, e = .returned (.tuple #[v, .int .i64 0]) ∧ FSl w' v shI from
    (split_any ⟨#[103, 101, 116, 32, 47, 32, 34, 97, 32, 98, 34]⟩ w hw (by decide)).mono (by
      rintro e w' ⟨hb, v, he, ho, _⟩
      have e1 : spE (⟨#[103, 101, 116, 32, 47, 32, 34, 97, 32, 98, 34]⟩ : ByteArray).data.toList = 0 := sh2
      have e2 : fAll (⟨#[103, 101, 116, 32, 47, 32, 34, 97, 32, 98, 34]⟩ : ByteArray).data.toList = shI := sh1
      rw [e1] at he
      have ho := (ho e1).1
      rw [e2] at ho
      exact ⟨hb, v, he, FSl.of_own ho⟩))
  have C2 := Lib.hid (fun w' (h : Below w.heap.size w w') => show Calls Tryz.prog 11 #[.string ⟨#[45, 49, 50]⟩, .int .i64 (-20), .int .i64 20] w' fun e w2 => e = .returned (.tuple #[.int .i64 (-12), .int .i64 0]) ∧ Below w'.heap.size w' w2 from
    (int_any ⟨#[45, 49, 50]⟩ (-20) 20 (by omega) (by omega) w' (hw.below h) (by decide)).mono (by
      rintro e w2 ⟨rfl, hb⟩
      have e1 : intV (⟨#[45, 49, 50]⟩ : ByteArray).data.toList (-20) 20 = -12 := sh3.1
      have e2 : intE (⟨#[45, 49, 50]⟩ : ByteArray).data.toList (-20) 20 = 0 := sh3.2
      rw [e1, e2]; exact ⟨rfl, hb⟩))
  have C3 := Lib.hid (fun w' (h : Below w.heap.size w w') => show Calls Tryz.prog 5 #[.slice (some ⟨w'.heap.size, 0, none⟩) 6 6] (w'.alloc (.cells #[.int .i64 1, .int .i64 2, .int .i64 3, .int .i64 5, .int .i64 8, .int .i64 9] 3)) fun e w2 => e = .returned (.tuple #[.string ⟨#[49, 45, 51, 44, 53, 44, 56, 45, 57]⟩, .int .i64 0]) ∧ Below w'.heap.size w' w2 from
    (list_any _ _ _ (hw.below (h.alloc h.size _)) (sh_ints w') (by decide)).mono (by
      rintro e w2 ⟨rfl, hb⟩
      rw [sh4, sh5]; exact ⟨rfl, ((Below.refl _ w').alloc (Nat.le_refl _) _).trans (hb.mono (by simp))⟩))
  have C4 := Lib.hid (fun w' (h : Below w.heap.size w w') => show Calls Tryz.prog 12 #[.string ⟨#[34, 97, 92, 110, 92, 120, 48, 48, 92, 34, 34]⟩] w' fun e w2 => e = .returned (.tuple #[.string ⟨#[97, 10, 0, 34]⟩, .int .i64 0]) ∧ Below w'.heap.size w' w2 from
    (unquote_any ⟨#[34, 97, 92, 110, 92, 120, 48, 48, 92, 34, 34]⟩ w' (hw.below h) (by decide)).mono (by
      rintro e w2 ⟨rfl, hb⟩
      have e1 : unqT (⟨#[34, 97, 92, 110, 92, 120, 48, 48, 92, 34, 34]⟩ : ByteArray).data.toList = [97, 10, 0, 34] := sh6.1
      have e2 : unqE (⟨#[34, 97, 92, 110, 92, 120, 48, 48, 92, 34, 34]⟩ : ByteArray).data.toList = 0 := sh6.2
      rw [e1, e2]; exact ⟨rfl, hb⟩))
  have C5 := Lib.hid (fun w' v (h : FSl w' v shI) => show Calls Tryz.prog 13 #[v, .slice (some ⟨w'.heap.size, 0, none⟩) 3 3] (w'.alloc (.cells #[.string ⟨#[103, 101, 116]⟩, .bool false, .string ⟨#[47]⟩, .bool false, .string ⟨#[97, 32, 98]⟩, .bool true] 39)) fun e w2 => e = .returned (.bool true) ∧ Below w'.heap.size w' w2 from
    (same_any v _ shI shI _ (h.below ((Below.refl _ w').alloc (Nat.le_refl _) _)) (sh_lits w') (by decide)).mono (by
      rintro e w2 ⟨rfl, d, rfl⟩
      rw [sh8]; exact ⟨rfl, below_drewN ((Below.refl _ w').alloc (Nat.le_refl _) _) _⟩))
  have C6 := Lib.hid (fun w' => show Calls Tryz.prog 14 #[.string ⟨#[119, 101, 98, 45, 49]⟩] w' fun e w2 => e = .returned (.bool true) ∧ w' = w2 from
    (name_any ⟨#[119, 101, 98, 45, 49]⟩ w' (by decide)).mono (by
      rintro e w2 ⟨rfl, rfl⟩
      have e1 : nameL (⟨#[119, 101, 98, 45, 49]⟩ : ByteArray).data.toList = true := sh7
      rw [e1]; exact ⟨rfl, rfl⟩))
  clear hw
  go_enter Tryz.func4, Tryz.ntmps4
  go_wp2_with (first
    | (go_at_call 10; refine C1.out.mono ?_; rintro e w1 ⟨hb1, v, rfl, hf1⟩; have hf := Lib.hid hf1; clear hf1)
    | (go_at_call 11; refine (C2.out _ hb1).mono ?_; rintro e w2 ⟨rfl, hb2⟩; have hb12 := hb1.trans (hb2.mono hb1.size))
    | (go_at_call 5; refine (C3.out _ hb12).mono ?_; rintro e w3 ⟨rfl, hb3⟩; have hb13 := hb12.trans (hb3.mono hb12.size))
    | (go_at_call 12; refine (C4.out _ hb13).mono ?_; rintro e w4 ⟨rfl, hb4⟩; have hb14 := hb13.trans (hb4.mono hb13.size); have hf4 := Lib.hid (hf.out.below (hb2.trans ((hb3.trans (hb4.mono hb3.size)).mono hb2.size))))
    | (go_at_call 13; refine (C5.out _ _ hf4.out).mono ?_; rintro e w5 ⟨rfl, hb5⟩; have hb15 := hb14.trans (hb5.mono hb14.size))
    | (go_at_call 14; refine (C6.out _).mono ?_; rintro e w6 ⟨rfl, rfl⟩))
  go_ret
  exact ⟨rfl, hb15⟩
end Go.Proofs.YtoapfldmkpobmaaGreatDoor
