/- Layer 3: appendRun, Print. -/
import Derived.Test.YtedbhjladpfafaaN
namespace Go.Proofs.Ytedbhjladpfafaa
open Go.RowKit
theorem textB_len (c : Nat) : (textB c).length ≤ 4 := by unfold textB; split <;> (try split) <;> simp
/-- The string of a run. -/
def runT (lo hi : Nat) : List UInt8 := textB lo ++ (if lo = hi then [] else (if 1 < hi - lo then [45] else []) ++ textB hi)
theorem runT_len (lo hi : Nat) : (runT lo hi).length ≤ 9 := by
  have h1 := textB_len lo
  have h2 := textB_len hi
  unfold runT
  rw [List.length_append]
  split
  · simp; omega
  · rw [List.length_append]
    split <;> simp <;> omega
theorem cast_own {B n n' : Nat} {v : Value} {w : World} {xs ys : List UInt8} (h : w.ownsRow B 5 1 v n (xs.map u8v)) (hx : xs = ys) (hn : n = n') : w.ownsRow B 5 1 v n' (ys.map u8v) := by
  subst hn; subst hx; exact h
theorem AppPost.cast {B n n' : Nat} {xs ys : List UInt8} {w w' : World} {e : Ending} (h : AppPost B n xs w e w') (hx : xs = ys) (hn : n = n') : AppPost B n' ys w e w' := by
  subst hn; subst hx; exact h
set_option maxHeartbeats 800000 in
set_option maxRecDepth 100000 in
theorem appR_any (B n : Nat) (v : Value) (xs : List UInt8) (lo up : Nat) (w : World) (hlh : lo ≤ up) (hc : up < 256) (hown : w.ownsRow B 5 1 v n (xs.map u8v)) (hB : B ≤ w.heap.size) (hn : n ≤ 100000000) :
    Calls Try.prog 49 #[v, .int .u8 (lo : Int), .int .u8 (up : Int)] w (AppPost B (n + (runT lo up).length) (xs ++ runT lo up) w) := by
  obtain ⟨i0, hi, hz0, hz1, hz2⟩ := info_parts info_u8
  have A1 := Lib.hid (appB_any B n v xs lo w (by omega) hown hB (by omega))
  have l1 := textB_len lo
  by_cases he : lo = up
  · subst he
    have hr : runT lo lo = textB lo := by simp [runT]
    rw [hr]
    clear hown l1
    go_enter Try.func49, Try.ntmps49
    go_wp2_with (first | (go_at_call 53; refine A1.out.mono ?_; rintro e w1 ⟨v1, rfl, hown1, hb1, hk1⟩))
    go_ret
    exact ⟨v1, rfl, hown1, hb1, hk1⟩
  · have heb : ((lo : Int) == (up : Int)) = false := beq_eq_false_iff_ne.2 (by omega)
    have hs : IntKind.u8.wrap ((up : Int) - (lo : Int)) = (up : Int) - lo := by rw [IntKind.wrap_u8]; omega
    have A2 := Lib.hid (fun m v ys w h1 h2 h3 => appB_any B m v ys up w hc h1 h2 h3)
    by_cases hd : 1 < up - lo
    · have hdb : decide ((1 : Int) < (up : Int) - lo) = true := decide_eq_true (by omega)
      have hr := Lib.hid (show runT lo up = textB lo ++ ([45] ++ textB up) by unfold runT; rw [if_neg he, if_pos hd])
      clear hown he hd
      go_enter Try.func49, Try.ntmps49
      go_wp2_with (first
        | (go_at_call 53; (with_reducible refine A1.out.mono ?_); rintro e w1 ⟨v1, rfl, hown1, hb1, hk1⟩)
        | (at_builtin; refine wpList_append_own _ rfl _ _ 22 rfl _ 5 i0 (.int .u8 0) 1 1 Try.underlying22 hi hz0 hz1 hz2 rfl (by decide) _ _ _ rfl (hown1.alloc _) ⟨w1.heap.size, 0, none⟩ ([45]).length ([45]).length (([45]).map u8v) rfl rfl (new_cells_at _ w1.heap.size (by simp) [45]) (u8v_one _) ?c3 ?c4 ?c5 ?_)
        )
      case c3 => simp [maxLen]; omega
      case c4 => simp; omega
      case c5 => have := hb1.size; simp; omega
      intro v2 w2 hown2' hgrow _
      have hown2 : w2.ownsRow B 5 1 v2 (n + (textB lo).length + 1) ((xs ++ textB lo).map u8v ++ [45].map u8v) := by simpa using hown2'
      obtain ⟨v2', e2, own2, hb2, hk2⟩ := app_post (xs := xs ++ textB lo) (ys := [45]) hown1 (Nat.le_trans hB hb1.size) hown2 hgrow
      cases e2
      have A3 := Lib.hid (A2.out _ v2 _ w2 own2 (Nat.le_trans hB (hb1.trans hb2).size) (by simp; omega))
      clear hown1 hown2 hown2' hgrow own2 l1
      go_wp2_with (first | (go_at_call 53; refine A3.out.mono ?_; rintro e w3 ⟨v3, rfl, hown3, hb3, hk3⟩))
      go_ret
      refine ⟨v3, rfl, cast_own hown3 (by rw [hr.out]; simp) (by rw [hr.out]; simp; omega), (hb1.trans hb2).trans hb3, (hk1.trans hk2).trans hk3⟩
    · have hdb : decide ((1 : Int) < (up : Int) - lo) = false := decide_eq_false (by omega)
      have hr := Lib.hid (show runT lo up = textB lo ++ textB up by unfold runT; rw [if_neg he, if_neg hd, List.nil_append])
      clear hown he hd
      go_enter Try.func49, Try.ntmps49
      go_wp2_with (first
        | (go_at_call 53; (with_reducible refine A1.out.mono ?_); rintro e w1 ⟨v1, rfl, hown1, hb1, hk1⟩; have A3 := Lib.hid (A2.out _ v1 _ w1 hown1 (Nat.le_trans hB hb1.size) (by omega)))
        | (go_at_call 53; refine A3.out.mono ?_; rintro e w3 ⟨v3, rfl, hown3, hb3, hk3⟩))
      go_ret
      refine ⟨v3, rfl, cast_own hown3 (by rw [hr.out]; simp) (by rw [hr.out]; simp; omega), hb1.trans hb3, hk1.trans hk3⟩
end Go.Proofs.Ytedbhjladpfafaa
