/- Layer 3: the reference's List, Count. -/
import Derived.Test.YtedbhjladpfafaaCo
namespace Go.Proofs.Ytedbhjladpfafaa
open Go.RowKit
set_option maxHeartbeats 800000 in
set_option maxRecDepth 100000 in
theorem rlist_any (p : Nat → Bool) (w : World) : Calls Try.prog 33 #[sv p] w (LiPost w (listB p)) := by
  obtain ⟨i0, hi, hz0, hz1, hz2⟩ := info_parts info_u8
  have g1 := SA.new w p
  go_enter Try.func33, Try.ntmps33
  go_wp2
  go_loopw [3, 4] (fun v i wr => ∃ k n : Nat, k ≤ 256 ∧ n ≤ k ∧ i = .int .i64 (k : Int) ∧ wr.ownsRow w.heap.size 5 1 v n (((List.range k).filter p).map u8n) ∧ SA wr w.heap.size p ∧ Below w.heap.size w wr) (fun _ i _ => 256 - (intOf i).toNat)
  case atStart => exact ⟨0, 0, Nat.zero_le _, Nat.le_refl _, rfl, World.ownsRow_nil _ _ _ _, g1, (Below.refl _ w).alloc (Nat.le_refl _) _⟩
  case round =>
    obtain ⟨k, n, hk, hnk, rfl, ho, hS, hB⟩ := hrel
    by_cases hlt : k < 256
    · have hltb : decide ((k : Int) < 256) = true := decide_eq_true (by omega)
      have hu8 : IntKind.u8.wrap (k : Int) = k := by rw [IntKind.wrap_u8]; omega
      have HA := fun w => rhas_any p k w hlt
      rcases hp : p k with _ | _
      · simp only [hp] at HA
        replace HA := Lib.hid HA
        have HF := Lib.hid (upto_no hp)
        clear hp
        go_wp2_with (first
          | (refine wpList_get rfl _ rfl _ rfl _ hS ?_)
          | (go_at_call 15; refine (HA.out _).mono ?_; rintro e w2 ⟨rfl, hb2⟩))
        go_roundw
        case rel => exact ⟨k + 1, n, by omega, by omega, by go_num, by rw [HF.out]; exact own_from ho (grown_of hb2) (fun r e => by cases e) (n0 := 0), hS.below hb2 hS.lt, hB.trans (hb2.mono hB.size)⟩
        case measure => simp [intOf]; omega
      · simp only [hp] at HA
        replace HA := Lib.hid HA
        have HF := Lib.hid (upto_yes hp)
        clear hp
        go_wp2_with (first
          | (refine wpList_get rfl _ rfl _ rfl _ hS ?_)
          | (go_at_call 15; refine (HA.out _).mono ?_; rintro e w2 ⟨rfl, hb2⟩; have o2 := own_from ho (grown_of hb2) (fun r e => by cases e) (n0 := 0); have s2 := hS.below hb2 hS.lt; have B2 := hB.trans (hb2.mono hB.size); have l2 := B2.size; clear ho hS hB)
          | (at_builtin; refine wpList_append_own _ rfl _ _ 22 rfl w.heap.size 5 i0 (.int .u8 0) 1 1 Try.underlying22 hi hz0 hz1 hz2 rfl (by decide) _ n _ rfl (o2.alloc _) ⟨w2.heap.size, 0, none⟩ 1 1 [.int .u8 (k : Int)] rfl rfl (cell_one_new _ _ _) (by simp [Value.oneCell']) (by simp only [maxLen]; omega) (by omega) (by simp; omega) ?_; intro v' w4 hown' hgrow _)
          )
        go_roundw
        case rel => exact ⟨k + 1, n + 1, by omega, by omega, by go_num, by rw [HF.out, List.map_append]; exact hown', app_keep o2 hgrow _ _ _ _ (by decide) s2, (B2.alloc l2 _).grown hgrow (by simp; omega) (fun j hj => (o2.lt j hj).1)⟩
        case measure => simp [intOf]; omega
    · obtain rfl : k = 256 := by omega
      have hB' := hB
      clear hB
      go_wp2
      go_ret
      have hn : n = (listB p).length := by have := ho.1; simp at this; unfold listB; omega
      subst hn
      exact ⟨_, rfl, BR.own ho (listB_lt p), hB'⟩
theorem rcount_any (p : Nat → Bool) (w : World) : Calls Try.prog 31 #[sv p] w fun e w' => e = .returned (.int .i64 ((listB p).length : Nat)) ∧ Below w.heap.size w w' := by
  have g1 := SA.new w p
  have RL := Lib.hid (fun w => rlist_any p w)
  go_enter Try.func31, Try.ntmps31
  go_wp2_with (first
    | (refine wpList_get rfl _ rfl _ rfl _ g1 ?_)
    | (go_at_call 33; refine (RL.out _).mono ?_; rintro e w2 ⟨v, rfl, ⟨pp, cc, rfl, _, _⟩, hb2⟩))
  go_ret
  exact ⟨rfl, ((Below.refl _ w).alloc (Nat.le_refl _) _).trans (hb2.mono (by simp))⟩
end Go.Proofs.Ytedbhjladpfafaa
