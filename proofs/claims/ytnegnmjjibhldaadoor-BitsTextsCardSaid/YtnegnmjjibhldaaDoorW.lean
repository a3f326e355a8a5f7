/- Layer 2: the examples of the document, walked. -/
import Derived.Test.YtnegnmjjibhldaaDoorV
namespace Go.Proofs.YtnegnmjjibhldaaDoor
open Go.RowKit
abbrev x2 : List Nat := [13835058055282163712, 9223372036854775808]
abbrev x3 : List Nat := [1, 1]
theorem wf2 : Wf x2 := by intro x hx; simp at hx; omega
theorem wf3 : Wf x3 := by intro x hx; simp at hx; omega
theorem pr2 (v : Value) (w : World) (h : URow w v x2) : Calls Tryd.prog 7 #[v] w fun e w' => e = .returned (.tuple #[.string ⟨#[56, 48, 48, 48, 48, 48, 48, 48, 48, 48, 48, 48, 48, 48, 48, 48, 46, 99, 48, 48, 48, 48, 48, 48, 48, 48, 48, 48, 48, 48, 48, 48, 48]⟩, .int .i64 0]) ∧ Below w.heap.size w w' :=
  (print_any v x2 w h wf2).mono fun _ _ ⟨he, hb⟩ => ⟨he.trans (by rw [show (⟨(printL x2).toArray⟩ : ByteArray) = ⟨#[56, 48, 48, 48, 48, 48, 48, 48, 48, 48, 48, 48, 48, 48, 48, 48, 46, 99, 48, 48, 48, 48, 48, 48, 48, 48, 48, 48, 48, 48, 48, 48, 48]⟩ by kernel_rfl, show chk x2.length = 0 by kernel_rfl]), hb⟩
theorem pr3 (v : Value) (w : World) (h : URow w v x3) : Calls Tryd.prog 7 #[v] w fun e w' => e = .returned (.tuple #[.string ⟨#[48, 48, 48, 48, 48, 48, 48, 48, 48, 48, 48, 48, 48, 48, 48, 49, 46, 48, 48, 48, 48, 48, 48, 48, 48, 48, 48, 48, 48, 48, 48, 48, 49]⟩, .int .i64 0]) ∧ Below w.heap.size w w' :=
  (print_any v x3 w h wf3).mono fun _ _ ⟨he, hb⟩ => ⟨he.trans (by rw [show (⟨(printL x3).toArray⟩ : ByteArray) = ⟨#[48, 48, 48, 48, 48, 48, 48, 48, 48, 48, 48, 48, 48, 48, 48, 49, 46, 48, 48, 48, 48, 48, 48, 48, 48, 48, 48, 48, 48, 48, 48, 48, 49]⟩ by kernel_rfl, show chk x3.length = 0 by kernel_rfl]), hb⟩
theorem bk0 (v : Value) (w : World) (h : URow w v x0) : Calls Tryd.prog 13 #[v, .bool true] w fun e w' => ∃ u, e = .returned (.tuple #[u, .bool true, .int .i64 0]) ∧ URow w' u x2 ∧ Below w.heap.size w w' :=
  (back_any v x0 true w h wf0).mono fun _ _ ⟨u, he, hr, hb⟩ => ⟨u, he.trans (by rw [show backO x0 = true by kernel_rfl, show chk x0.length = 0 by kernel_rfl]), by rwa [show backR x0 true = x2 by kernel_rfl] at hr, hb⟩
theorem gt63 (v : Value) (w : World) (h : URow w v x0) : Calls Tryd.prog 14 #[v, .int .i64 63] w fun e w' => e = .returned (.tuple #[.bool true, .int .i64 0]) ∧ Below w.heap.size w w' :=
  (get_any v x0 63 w h wf0 (by simp)).mono fun _ _ ⟨he, d, hb⟩ => ⟨he.trans (by rw [show getB x0 63 = true by kernel_rfl, show getE x0.length 63 = 0 by kernel_rfl]), by rw [hb]; exact below_drewN w d⟩
theorem gt128 (v : Value) (w : World) (h : URow w v x0) : Calls Tryd.prog 14 #[v, .int .i64 128] w fun e w' => e = .returned (.tuple #[.bool false, .int .i64 7]) ∧ Below w.heap.size w w' :=
  (get_any v x0 128 w h wf0 (by simp)).mono fun _ _ ⟨he, d, hb⟩ => ⟨he.trans (by rw [show getB x0 128 = false by kernel_rfl, show getE x0.length 128 = 7 by kernel_rfl]), by rw [hb]; exact below_drewN w d⟩
theorem st0 (v : Value) (w : World) (h : URow w v x0) : Calls Tryd.prog 15 #[v, .int .i64 63, .bool false] w fun e w' => ∃ u, e = .returned (.tuple #[u, .int .i64 0]) ∧ URow w' u x3 ∧ Below w.heap.size w w' :=
  (set_any v x0 63 false w h wf0 (by simp)).mono fun _ _ ⟨u, he, hr, hb⟩ => ⟨u, he.trans (by rw [show getE x0.length 63 = 0 by kernel_rfl]), by rwa [show setR x0 63 false = x3 by kernel_rfl] at hr, hb⟩
theorem on0 (v : Value) (w : World) (h : URow w v x0) : Calls Tryd.prog 16 #[v] w fun e w' => ∃ u, e = .returned (.tuple #[u, .int .i64 0]) ∧ IRow w' u [0, 63, 64] ∧ Below w.heap.size w w' :=
  (ones_any v x0 w h wf0).mono fun _ _ ⟨u, he, hr, hb⟩ => ⟨u, he.trans (by rw [show chk x0.length = 0 by kernel_rfl]), by rwa [show onesR x0 = [0, 63, 64] by kernel_rfl] at hr, hb⟩
theorem urow1 (w : World) (a : Nat) : URow (w.alloc (.cells #[.int .u64 (a : Int)] 42)) (.slice (some ⟨w.heap.size, 0, none⟩) 1 1) [a] := by
  refine ⟨_, 1, rfl, by simp, fun i x hi => ⟨w.heap.size, 0, rfl, ?_⟩⟩
  rw [cell_of_row _ _ _ _ _ (0, 0) (World.alloc_heap_new w _)]
  rcases i with _ | i
  · cases hi; rfl
  · simp at hi
theorem and0 (v : Value) (w : World) (h : URow w v x0) : Calls Tryd.prog 17 #[v, .slice (some ⟨w.heap.size, 0, none⟩) 1 1] (w.alloc (.cells #[.int .u64 1] 42)) fun e w' => ∃ u, e = .returned (.tuple #[u, .int .i64 6]) ∧ Below w.heap.size w w' :=
  (and_any v _ x0 [1] _ (h.below ((Below.refl _ w).alloc (Nat.le_refl _) _)) (urow1 w 1) wf0 (by intro x hx; simp at hx; omega)).mono fun _ _ ⟨u, he, _, hb⟩ => ⟨u, he.trans (by rw [show pairE x0.length [1].length = 6 by kernel_rfl]), ((Below.refl _ w).alloc (Nat.le_refl _) _).trans (hb.mono (by simp))⟩
theorem of9 (w : World) : Calls Tryd.prog 12 #[.int .i64 9, .slice none 0 0] w fun e w' => ∃ u, e = .returned (.tuple #[u, .int .i64 3]) ∧ Below w.heap.size w w' :=
  (of_any 9 _ [] w (IRow.none w) (by simp)).mono fun _ _ ⟨u, he, _, hb⟩ => ⟨u, he.trans (by rw [show ofE 9 [] = 3 by kernel_rfl]), hb⟩
theorem of00 (w : World) : Calls Tryd.prog 12 #[.int .i64 0, .slice none 0 0] w fun e w' => ∃ u, e = .returned (.tuple #[u, .int .i64 6]) ∧ Below w.heap.size w w' :=
  (of_any 0 _ [] w (IRow.none w) (by simp)).mono fun _ _ ⟨u, he, _, hb⟩ => ⟨u, he.trans (by rw [show ofE 0 [] = 6 by kernel_rfl]), hb⟩
theorem pa1 (w : World) (h : ML w) : Calls Tryd.prog 9 #[.string ⟨#[48, 48, 48, 48, 48, 48, 48, 48, 48, 48, 48, 48, 48, 48, 102, 102]⟩] w fun e w' => ∃ u, e = .returned (.tuple #[u, .int .i64 0]) ∧ URow w' u [255] ∧ Below w.heap.size w w' :=
  (parse_any ⟨#[48, 48, 48, 48, 48, 48, 48, 48, 48, 48, 48, 48, 48, 48, 102, 102]⟩ w h (by decide)).mono fun _ _ ⟨u, he, hr, hb⟩ => ⟨u, he.trans (by rw [show parseE (⟨#[48, 48, 48, 48, 48, 48, 48, 48, 48, 48, 48, 48, 48, 48, 102, 102]⟩ : ByteArray).data.toList = 0 by kernel_rfl]), by rwa [show parseR (⟨#[48, 48, 48, 48, 48, 48, 48, 48, 48, 48, 48, 48, 48, 48, 102, 102]⟩ : ByteArray).data.toList = [255] by kernel_rfl] at hr, hb⟩
theorem pa2 (w : World) (h : ML w) : Calls Tryd.prog 9 #[.string ⟨#[102, 102]⟩] w fun e w' => ∃ u, e = .returned (.tuple #[u, .int .i64 6]) ∧ Below w.heap.size w w' :=
  (parse_any ⟨#[102, 102]⟩ w h (by decide)).mono fun _ _ ⟨u, he, _, hb⟩ => ⟨u, he.trans (by rw [show parseE (⟨#[102, 102]⟩ : ByteArray).data.toList = 6 by kernel_rfl]), hb⟩
theorem pa3 (w : World) (h : ML w) : Calls Tryd.prog 9 #[.string ⟨#[48, 48, 48, 48, 48, 48, 48, 48, 48, 48, 48, 48, 48, 48, 70, 70]⟩] w fun e w' => ∃ u, e = .returned (.tuple #[u, .int .i64 6]) ∧ Below w.heap.size w w' :=
  (parse_any ⟨#[48, 48, 48, 48, 48, 48, 48, 48, 48, 48, 48, 48, 48, 48, 70, 70]⟩ w h (by decide)).mono fun _ _ ⟨u, he, _, hb⟩ => ⟨u, he.trans (by rw [show parseE (⟨#[48, 48, 48, 48, 48, 48, 48, 48, 48, 48, 48, 48, 48, 48, 70, 70]⟩ : ByteArray).data.toList = 6 by kernel_rfl]), hb⟩
theorem ints0 (v : Value) (w : World) (h : IRow w v [0, 63, 64]) : Calls Tryd.prog 18 #[v, .slice (some ⟨w.heap.size, 0, none⟩) 3 3] (w.alloc (.cells #[.int .i64 0, .int .i64 63, .int .i64 64] 3)) fun e w' => e = .returned (.bool true) ∧ Below w.heap.size w w' :=
  (ints_yes v _ _ _ (h.below ((Below.refl _ w).alloc (Nat.le_refl _) _)) (irow3 w 0 63 64) (by simp)).mono fun _ _ ⟨he, hb⟩ => ⟨he, ((Below.refl _ w).alloc (Nat.le_refl _) _).trans (hb.mono (by simp))⟩
theorem same0 (v : Value) (w : World) (h : URow w v [255]) : Calls Tryd.prog 11 #[v, .slice (some ⟨w.heap.size, 0, none⟩) 1 1] (w.alloc (.cells #[.int .u64 255] 42)) fun e w' => e = .returned (.bool true) ∧ Below w.heap.size w w' :=
  (same_yes v _ _ _ (h.below ((Below.refl _ w).alloc (Nat.le_refl _) _)) (urow1 w 255) (by simp)).mono fun _ _ ⟨he, hb⟩ => ⟨he, ((Below.refl _ w).alloc (Nat.le_refl _) _).trans (hb.mono (by simp))⟩
set_option maxHeartbeats 800000 in
set_option maxRecDepth 100000 in
theorem known_any (w : World) (hm : ML w) : Calls Tryd.prog 4 #[] w fun e w' => e = .returned (.bool true) ∧ Below w.heap.size w w' := by
  have OF := Lib.hid (of0 w)
  have AW := Lib.hid (fun w' => awake_any w')
  have PM := Lib.hid (fun w' (h : Below w.heap.size w w') => hm.below h)
  clear hm
  go_enter Tryd.func4, Tryd.ntmps4
  go_wp2_with (first
    | (go_at_call 12; first
      | ((with_reducible refine OF.out.mono ?_); rintro e w1 ⟨v, rfl, rv, hb⟩)
      | ((with_reducible refine (of9 _).mono ?_); rintro e w1 ⟨u9, rfl, hb2⟩; have hb := hb.trans (hb2.mono hb.size); (try have rv := rv.below hb2); (try have rl := rl.below hb2); (try have rx := rx.below hb2))
      | ((with_reducible refine (of00 _).mono ?_); rintro e w1 ⟨u0, rfl, hb2⟩; have hb := hb.trans (hb2.mono hb.size); (try have rv := rv.below hb2); (try have rl := rl.below hb2); (try have rx := rx.below hb2)))
    | (go_at_call 13; refine (bk0 _ _ rv).mono ?_; rintro e w1 ⟨u, rfl, ru, hb2⟩; have hb := hb.trans (hb2.mono hb.size); (try have rv := rv.below hb2))
    | (go_at_call 7; first
      | ((with_reducible refine (pr2 _ _ ru).mono ?_); rintro e w1 ⟨rfl, hb2⟩; have hb := hb.trans (hb2.mono hb.size); (try have rv := rv.below hb2); (try have ru := ru.below hb2); (try have rs := rs.below hb2))
      | ((with_reducible refine (pr3 _ _ rs).mono ?_); rintro e w1 ⟨rfl, hb2⟩; have hb := hb.trans (hb2.mono hb.size); (try have rv := rv.below hb2); (try have ru := ru.below hb2); (try have rs := rs.below hb2)))
    | (go_at_call 14; first
      | ((with_reducible refine (gt63 _ _ rv).mono ?_); rintro e w1 ⟨rfl, hb2⟩; have hb := hb.trans (hb2.mono hb.size); (try have rv := rv.below hb2); (try have ru := ru.below hb2); (try have rs := rs.below hb2))
      | ((with_reducible refine (gt128 _ _ rv).mono ?_); rintro e w1 ⟨rfl, hb2⟩; have hb := hb.trans (hb2.mono hb.size); (try have rv := rv.below hb2); (try have ru := ru.below hb2); (try have rs := rs.below hb2)))
    | (go_at_call 15; refine (st0 _ _ rv).mono ?_; rintro e w1 ⟨s, rfl, rs, hb2⟩; have hb := hb.trans (hb2.mono hb.size); (try have rv := rv.below hb2); (try have ru := ru.below hb2))
    | (go_at_call 16; refine (on0 _ _ rv).mono ?_; rintro e w1 ⟨l, rfl, rl, hb2⟩; have hb := hb.trans (hb2.mono hb.size); (try have rv := rv.below hb2))
    | (go_at_call 17; refine (and0 _ _ rv).mono ?_; rintro e w1 ⟨a, rfl, hb2⟩; have hb := hb.trans (hb2.mono hb.size); (try have rv := rv.below hb2); (try have rl := rl.below hb2))
    | (go_at_call 9; first
      | ((with_reducible refine (pa1 _ (PM.out _ hb)).mono ?_); rintro e w1 ⟨x, rfl, rx, hb2⟩; have hb := hb.trans (hb2.mono hb.size); (try have rl := rl.below hb2))
      | ((with_reducible refine (pa2 _ (PM.out _ hb)).mono ?_); rintro e w1 ⟨x', rfl, hb2⟩; have hb := hb.trans (hb2.mono hb.size); (try have rl := rl.below hb2); (try have rx := rx.below hb2))
      | ((with_reducible refine (pa3 _ (PM.out _ hb)).mono ?_); rintro e w1 ⟨x'', rfl, hb2⟩; have hb := hb.trans (hb2.mono hb.size); (try have rl := rl.below hb2); (try have rx := rx.below hb2)))
    | (go_at_call 18; refine (ints0 _ _ rl).mono ?_; rintro e w1 ⟨rfl, hb2⟩; have hb := hb.trans (hb2.mono hb.size); (try have rx := rx.below hb2))
    | (go_at_call 11; refine (same0 _ _ rx).mono ?_; rintro e w1 ⟨rfl, hb2⟩; have hb := hb.trans (hb2.mono hb.size))
    | (go_at_call 6; refine (AW.out _).mono ?_; rintro e w4 ⟨rfl, hb2⟩; have hb := hb.trans (hb2.mono hb.size)))
  go_ret
  exact ⟨rfl, hb⟩
end Go.Proofs.YtnegnmjjibhldaaDoor
