/- What is asked before the steps of rows. -/
import Derived.Test.YtalnhbjpfnodiaaZc
namespace Go.Proofs.Ytalnhbjpfnodiaa
open Go.RowKit
theorem over_any (x y k : Int) (w : World) (hx : 0 ≤ x ∧ x ≤ 65536) (hy : 0 ≤ y ∧ y ≤ 65536) (hk : 1 ≤ k ∧ k ≤ 64) : Calls Try.prog 94 #[.int .i64 x, .int .i64 y, .int .i64 k] w fun e w' => e = .returned (.bool (decide (x < y + k ∧ y < x + k))) ∧ w = w' := by
  obtain ⟨yk, hyk⟩ : ∃ z, z = y + k := ⟨_, rfl⟩
  obtain ⟨xk, hxk⟩ : ∃ z, z = x + k := ⟨_, rfl⟩
  have e1 : IntKind.i64.wrap (y + k) = yk := by rw [IntKind.wrap_i64]; omega
  have e2 : IntKind.i64.wrap (x + k) = xk := by rw [IntKind.wrap_i64]; omega
  rw [← hyk, ← hxk]
  clear hyk hxk hx hy hk
  by_cases h1 : x < yk
  · have t1 : decide (x < yk) = true := decide_eq_true h1
    have HD : Hid (decide (x < yk ∧ y < xk) = decide (y < xk)) := Lib.hid (decide_eq_decide.2 ⟨fun h => h.2, fun h => ⟨h1, h⟩⟩)
    obtain ⟨b, hb⟩ : ∃ b, b = decide (x < yk ∧ y < xk) := ⟨_, rfl⟩
    rw [← hb] at HD ⊢
    clear hb
    go_enter Try.func94, Try.ntmps94
    go_wp2
    go_ret
    exact ⟨by rw [HD.out]; rfl, rfl⟩
  · have t1 : decide (x < yk) = false := decide_eq_false h1
    have HD : Hid (decide (x < yk ∧ y < xk) = false) := Lib.hid (decide_eq_false fun h => h1 h.1)
    obtain ⟨b, hb⟩ : ∃ b, b = decide (x < yk ∧ y < xk) := ⟨_, rfl⟩
    rw [← hb] at HD ⊢
    clear hb
    go_enter Try.func94, Try.ntmps94
    go_wp2
    go_ret
    exact ⟨by rw [HD.out]; rfl, rfl⟩
def ckR (m : Nat) (f : Int → Int) (rm x y k : Int) : Int := if isM m then (if k < 1 ∨ 64 < k then 7 else if hasF f [x, y] = 0 then (if x < y + k ∧ y < x + k then 2 else rm) else hasF f [x, y]) else 2
theorem cells_xy (w : World) (x y : Int) (t : TypeId) : ∀ (i : Nat) (v : Int), [x, y][i]? = some v → (w.alloc (.cells #[.int .i64 x, .int .i64 y] t)).cell? ⟨w.heap.size, i, none⟩ = some (.int .i64 v)
  | 0, v, h => by cases h; exact cell_blk (heap_alloc_new w _) 0
  | 1, v, h => by cases h; exact cell_blk (heap_alloc_new w _) 1
  | n + 2, v, h => by simp at h
theorem hasF_two {f : Int → Int} {x y : Int} (h : hasF f [x, y] = 0) : f x = 0 ∧ f y = 0 := by
  unfold hasF at h
  split at h
  · rename_i h1
    unfold hasF at h
    split at h
    · rename_i h2; exact ⟨h1, h2⟩
    · rename_i h2; exact absurd h h2
  · rename_i h1; exact absurd h h1
set_option maxRecDepth 100000 in
set_option maxHeartbeats 4000000 in
theorem rows_any (P : Value) (f : Int → Int) (rm : Int) (m st : Nat) (x y k : Int) (w : World) (hm : m < 2 ^ 64) (hst : st ≤ 4) (hx : i64R x) (hy : i64R y) (hf : ∀ x, f x = 0 → 0 ≤ x ∧ x ≤ 65536)
    (ha : 1 ≤ k ∧ k ≤ 64 → ∀ W, Below w.heap.size w W → ∀ x, i64R x → Calls Try.prog 59 #[P, .int .i64 x, .int .i64 k] W fun e w' => e = .returned (.int .i64 (f x)) ∧ W = w')
    (hrm : 1 ≤ k ∧ k ≤ 64 → ∀ W, Below w.heap.size w W → Calls Try.prog 55 #[P, .int .i64 ((st : Int) * k)] W fun e w' => e = .returned (.int .i64 rm) ∧ W = w') :
    Calls Try.prog 86 #[P, .int .u64 (m : Int), .int .i64 x, .int .i64 y, .int .i64 k, .int .i64 (st : Int)] w fun e w' => e = .returned (.int .i64 (ckR m f rm x y k)) ∧ Below w.heap.size w w' := by
  have IS := Lib.hid (fun w => is_any m w hm)
  have B0 := Below.refl w.heap.size w
  by_cases hM : isM m
  · rw [decide_eq_true hM] at IS
    by_cases hk1 : k < 1
    · have t1 : decide (k < 1) = true := decide_eq_true hk1
      have HK : Hid (ckR m f rm x y k = 7) := Lib.hid (by unfold ckR; rw [if_pos hM, if_pos (.inl hk1)])
      clear ha hrm hM hx hy hf
      go_enter Try.func86, Try.ntmps86
      go_wp2_with (first
        | (go_at_call 93; (with_reducible refine (IS.out _).mono ?_); rintro e w' ⟨rfl, rfl⟩))
      go_ret
      exact ⟨by rw [HK.out]; rfl, B0⟩
    · have t1 : decide (k < 1) = false := decide_eq_false hk1
      by_cases hk2 : 64 < k
      · have t2 : decide (k > 64) = true := decide_eq_true hk2
        have t2' : decide (64 < k) = true := decide_eq_true hk2
        have HK : Hid (ckR m f rm x y k = 7) := Lib.hid (by unfold ckR; rw [if_pos hM, if_pos (.inr hk2)])
        clear ha hrm hM hx hy hf
        go_enter Try.func86, Try.ntmps86
        go_wp2_with (first
          | (go_at_call 93; (with_reducible refine (IS.out _).mono ?_); rintro e w' ⟨rfl, rfl⟩))
        go_ret
        exact ⟨by rw [HK.out]; rfl, B0⟩
      · have t2 : decide (k > 64) = false := decide_eq_false hk2
        have t2' : decide (64 < k) = false := decide_eq_false hk2
        have HK : Hid (ckR m f rm x y k = if hasF f [x, y] = 0 then (if x < y + k ∧ y < x + k then 2 else rm) else hasF f [x, y]) := Lib.hid (by unfold ckR; rw [if_pos hM, if_neg (by omega)])
        have hkk : 1 ≤ k ∧ k ≤ 64 := by omega
        have KK := Lib.hid hkk
        have HA := Lib.hid (ha hkk)
        have RO := Lib.hid (hrm hkk)
        have HF := Lib.hid hf
        have HX := Lib.hid hx
        have HY := Lib.hid hy
        have HC := Lib.hid (cells_xy w x y 3)
        obtain ⟨sk, hsk⟩ : ∃ z, z = (st : Int) * k := ⟨_, rfl⟩
        rw [← hsk] at RO
        have e1 : IntKind.i64.wrap ((st : Int) * k) = sk := by
          rw [IntKind.wrap_i64]
          have : st = 0 ∨ st = 1 ∨ st = 2 ∨ st = 3 ∨ st = 4 := by omega
          rcases this with rfl | rfl | rfl | rfl | rfl <;> omega
        clear ha hrm hM hkk hsk hf hx hy hk1 hk2
        have B1 : Hid (Below w.heap.size w (w.alloc (.cells #[.int .i64 x, .int .i64 y] 3))) := Lib.hid (B0.alloc (Nat.le_refl _) _)
        go_enter Try.func86, Try.ntmps86
        go_wp2_with (first
          | (go_at_call 93; (with_reducible refine (IS.out _).mono ?_); rintro e w' ⟨rfl, rfl⟩))
        obtain ⟨W1, hW1⟩ : ∃ W, W = w.alloc (.cells #[.int .i64 x, .int .i64 y] 3) := ⟨_, rfl⟩
        rw [← hW1] at B1 HC ⊢
        clear hW1
        go_loopw [29] (fun i wr => ∃ j : Nat, j ≤ 2 ∧ i = .int .i64 (j : Int) ∧ wr = W1 ∧ Hid (hasF f [x, y] = hasF f ([x, y].drop j))) (fun i _ => 2 - (intOf i).toNat)
        case atStart => exact ⟨0, Nat.zero_le _, rfl, rfl, Lib.hid rfl⟩
        case round =>
          obtain ⟨j, hj, rfl, rfl, hd⟩ := hrel
          by_cases hlt : j < 2
          · have t3 : decide ((j : Int) < 2) = true := decide_eq_true (by omega)
            have t3' : (j : Int) < 2 := by omega
            obtain ⟨v, hv⟩ : ∃ v, [x, y][j]? = some v := ⟨_, List.getElem?_eq_getElem hlt⟩
            have x0 := HC.out j v hv
            have hvr : i64R v := by
              have := List.mem_of_getElem? hv
              simp at this
              rcases this with rfl | rfl
              · exact HX.out
              · exact HY.out
            have A0 := Lib.hid (HA.out _ B1.out v hvr)
            obtain ⟨z, hz⟩ : ∃ z, z = f v := ⟨_, rfl⟩
            rw [← hz] at A0
            by_cases hz0 : z = 0
            · have HD := Lib.hid (hd.out.trans (hasF_zero hv (hz ▸ hz0)))
              subst hz0
              clear hv hz hd hvr
              go_wp2_with (first
                | (go_at_call 59; (with_reducible refine (A0.out).mono ?_); rintro e w' ⟨rfl, rfl⟩))
              go_roundw
              case rel => exact ⟨j + 1, by omega, by go_num, by trivial, HD⟩
              case measure => simp [intOf]; omega
            · have HD := Lib.hid (hd.out.trans (hasF_hit hv (hz ▸ hz0)))
              rw [← hz] at HD
              have t4 : (z != 0) = true := by rw [bne_iff_ne]; exact hz0
              have Z0 := Lib.hid hz0
              clear hv hz hd hz0 hvr
              go_wp2_with (first
                | (go_at_call 59; (with_reducible refine (A0.out).mono ?_); rintro e w' ⟨rfl, rfl⟩))
              go_ret
              exact ⟨by rw [HK.out, HD.out, if_neg Z0.out]; rfl, B1.out⟩
          · obtain rfl : j = 2 := by omega
            have t3 : decide (((2 : Nat) : Int) < 2) = false := rfl
            have HD : Hid (hasF f [x, y] = 0) := Lib.hid hd.out
            obtain ⟨f1, f2⟩ := hasF_two HD.out
            have OV := Lib.hid (over_any x y k wr (HF.out x f1) (HF.out y f2) KK.out)
            clear hd f1 f2
            by_cases ho : x < y + k ∧ y < x + k
            · rw [decide_eq_true ho] at OV
              have HO := Lib.hid ho
              clear ho
              go_wp2_with (first
                | (go_at_call 94; (with_reducible refine (OV.out).mono ?_); rintro e w' ⟨rfl, rfl⟩))
              go_ret
              exact ⟨by rw [HK.out, HD.out, if_pos rfl, if_pos HO.out]; rfl, B1.out⟩
            · rw [decide_eq_false ho] at OV
              have HO := Lib.hid ho
              clear ho
              go_wp2_with (first
                | (go_at_call 94; (with_reducible refine (OV.out).mono ?_); rintro e w' ⟨rfl, rfl⟩)
                | (go_at_call 55; (with_reducible refine (RO.out _ B1.out).mono ?_); rintro e w' ⟨rfl, rfl⟩))
              go_ret
              exact ⟨by rw [HK.out, HD.out, if_pos rfl, if_neg HO.out]; rfl, B1.out⟩
  · rw [decide_eq_false hM] at IS
    have HK : Hid (ckR m f rm x y k = 2) := Lib.hid (if_neg hM)
    clear ha hrm hM hx hy hf
    go_enter Try.func86, Try.ntmps86
    go_wp2_with (first
      | (go_at_call 93; (with_reducible refine (IS.out _).mono ?_); rintro e w' ⟨rfl, rfl⟩))
    go_ret
    exact ⟨by rw [HK.out]; rfl, B0⟩
end Go.Proofs.Ytalnhbjpfnodiaa
