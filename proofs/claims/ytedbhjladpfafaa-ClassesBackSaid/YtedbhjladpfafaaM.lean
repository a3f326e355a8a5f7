/- Layer 3: OnesCount64, Count. -/
import Derived.Test.YtedbhjladpfafaaL
import Derived.Test.YtedbhjladpfafaaPop
import Derived.Laws.Bits128
namespace Go.Proofs.Ytedbhjladpfafaa
open Go.RowKit
theorem and_lit (x k : Nat) (hx : x < 2 ^ 64) (hk : k < 2 ^ 64) : bits .and .u64 (x : Int) (k : Int) = ((x &&& k : Nat) : Int) := u64_and_nat x k hx hk
theorem wrap_in {n : Nat} (h : n < 2 ^ 64) : IntKind.u64.wrap (n : Int) = n := by rw [IntKind.wrap_u64]; omega
theorem ones_any (x : Nat) (w : World) (hx : x < 2 ^ 64) : Calls Try.prog 47 #[.int .u64 (x : Int)] w fun e w' => e = .returned (.int .i64 ((pc 64 x : Nat) : Int)) ∧ w' = w := by
  obtain ⟨y, hy, hyl, hp, hp64⟩ := pop_all x hx
  obtain ⟨a, ha⟩ : ∃ a, x / 2 &&& 6148914691236517205 = a := ⟨_, rfl⟩
  obtain ⟨b, hb⟩ : ∃ b, x &&& 6148914691236517205 = b := ⟨_, rfl⟩
  have e1 : bits .and .u64 ((x : Int) / 2) 6148914691236517205 = (a : Int) := by rw [← ha]; exact and_lit (x / 2) 6148914691236517205 (by omega) (by decide)
  have e2 : bits .and .u64 (x : Int) 6148914691236517205 = (b : Int) := by rw [← hb]; exact and_lit x 6148914691236517205 hx (by decide)
  have la : a ≤ 6148914691236517205 := by rw [← ha]; exact Nat.and_le_right
  have lb : b ≤ 6148914691236517205 := by rw [← hb]; exact Nat.and_le_right
  obtain ⟨s, hs⟩ : ∃ s, s = a + b := ⟨_, rfl⟩
  have hs' : s1 x 6148914691236517205 = s := by unfold s1; rw [ha, hb, hs]
  have w1 : IntKind.u64.wrap ((a : Int) + (b : Int)) = (s : Int) := by rw [hs]; exact wrap_in (by omega)
  obtain ⟨c, hc⟩ : ∃ c, s / 4 &&& 3689348814741910323 = c := ⟨_, rfl⟩
  obtain ⟨d, hd⟩ : ∃ d, s &&& 3689348814741910323 = d := ⟨_, rfl⟩
  have e3 : bits .and .u64 ((s : Int) / 4) 3689348814741910323 = (c : Int) := by rw [← hc]; exact and_lit (s / 4) 3689348814741910323 (by omega) (by decide)
  have e4 : bits .and .u64 (s : Int) 3689348814741910323 = (d : Int) := by rw [← hd]; exact and_lit s 3689348814741910323 (by omega) (by decide)
  have lc : c ≤ 3689348814741910323 := by rw [← hc]; exact Nat.and_le_right
  have ld : d ≤ 3689348814741910323 := by rw [← hd]; exact Nat.and_le_right
  obtain ⟨t, ht⟩ : ∃ t, t = c + d := ⟨_, rfl⟩
  have ht' : s2 s 3689348814741910323 = t := by unfold s2; rw [hc, hd, ht]
  have w2 : IntKind.u64.wrap ((c : Int) + (d : Int)) = (t : Int) := by rw [ht]; exact wrap_in (by omega)
  obtain ⟨u, hu⟩ : ∃ u, u = t / 16 + t := ⟨_, rfl⟩
  have w3 : IntKind.u64.wrap ((t : Int) / 16 + (t : Int)) = (u : Int) := by rw [hu]; exact wrap_in (n := t / 16 + t) (by omega)
  have e5 : bits .and .u64 (u : Int) 1085102592571150095 = (y : Int) := by
    rw [← hy, hs', ht']
    unfold s3
    rw [← hu]
    exact and_lit u 1085102592571150095 (by omega) (by decide)
  obtain ⟨z1, h1⟩ : ∃ z, z = y + y / 256 := ⟨_, rfl⟩
  obtain ⟨z2, h2⟩ : ∃ z, z = z1 + z1 / 65536 := ⟨_, rfl⟩
  obtain ⟨z3, h3⟩ : ∃ z, z = z2 + z2 / 4294967296 := ⟨_, rfl⟩
  have b1 : z1 < 2 ^ 61 := by omega
  have b2 : z2 < 2 ^ 62 := by omega
  have b3 : z3 < 2 ^ 63 := by omega
  have w4 : IntKind.u64.wrap ((y : Int) + (y : Int) / 256) = (z1 : Int) := by rw [h1]; exact wrap_in (n := y + y / 256) (by omega)
  have w5 : IntKind.u64.wrap ((z1 : Int) + (z1 : Int) / 65536) = (z2 : Int) := by rw [h2]; exact wrap_in (n := z1 + z1 / 65536) (by omega)
  have w6 : IntKind.u64.wrap ((z2 : Int) + (z2 : Int) / 4294967296) = (z3 : Int) := by rw [h3]; exact wrap_in (n := z2 + z2 / 4294967296) (by omega)
  have w7 : IntKind.i64.wrap (z3 : Int) = (z3 : Int) := IntWalk.i64_in _ (by omega)
  have e6 : bits .and .i64 (z3 : Int) 127 = ((pc 64 x : Nat) : Int) := by rw [i64_and127, ← hp, ← h1, ← h2, ← h3]; rfl
  clear ha hb la lb hs hs' hc hd lc ld ht ht' hu h1 h2 h3 b1 b2 b3 hy hp hyl
  go_enter Try.func47, Try.ntmps47
  go_wp2
  go_ret
  exact ⟨rfl, rfl⟩
/-- How many bytes of word j are in p. -/
def cnt (p : Nat → Bool) (j : Nat) : Nat := pc 64 (wd p j)
theorem cnt_eq (p : Nat → Bool) (j : Nat) : cnt p j = ((List.range 64).filter fun k => p (64 * j + k)).length := by
  unfold cnt pc
  congr 1
  apply List.filter_congr
  intro k hk
  rw [wd_bit _ _ _ (List.mem_range.1 hk)]
theorem cnt_all (p : Nat → Bool) : cnt p 0 + cnt p 1 + cnt p 2 + cnt p 3 = (listB p).length := by
  unfold listB
  rw [cnt_eq, cnt_eq, cnt_eq, cnt_eq, show (256 : Nat) = 64 + (64 + (64 + 64)) from rfl, filter_add, filter_add, filter_add]
  simp only [Nat.mul_zero, Nat.zero_add, Nat.mul_one, Nat.reduceAdd, Nat.reduceMul, ← Nat.add_assoc]
theorem cnt_le (p : Nat → Bool) (j : Nat) : cnt p j ≤ 64 := by
  rw [cnt_eq]
  have := List.length_filter_le (fun k => p (64 * j + k)) (List.range 64)
  simpa using this
def upC (p : Nat → Bool) : Nat → Nat
  | 0 => 0
  | k + 1 => upC p k + cnt p k
theorem upC_le (p : Nat → Bool) : ∀ k, upC p k ≤ 64 * k
  | 0 => by simp [upC]
  | k + 1 => by have := upC_le p k; have := cnt_le p k; simp only [upC]; omega
theorem sx0 (p : Nat → Bool) (w : World) : (Instr.index 26 (.agg (sc p)) (.int .i64 0)).run Try.prog w = .ok (.int .u64 ((wd p 0 : Nat) : Int)) w := by kernel_rfl
theorem sx1 (p : Nat → Bool) (w : World) : (Instr.index 26 (.agg (sc p)) (.int .i64 1)).run Try.prog w = .ok (.int .u64 ((wd p 1 : Nat) : Int)) w := by kernel_rfl
theorem sx2 (p : Nat → Bool) (w : World) : (Instr.index 26 (.agg (sc p)) (.int .i64 2)).run Try.prog w = .ok (.int .u64 ((wd p 2 : Nat) : Int)) w := by kernel_rfl
theorem sx3 (p : Nat → Bool) (w : World) : (Instr.index 26 (.agg (sc p)) (.int .i64 3)).run Try.prog w = .ok (.int .u64 ((wd p 3 : Nat) : Int)) w := by kernel_rfl
theorem ix_any (p : Nat → Bool) (k : Nat) (h : k < 4) (w : World) : (Instr.index 26 (.agg (sc p)) (.int .i64 (k : Int))).run Try.prog w = .ok (.int .u64 ((wd p k : Nat) : Int)) w := by
  match k, h with
  | 0, _ => exact sx0 p w
  | 1, _ => exact sx1 p w
  | 2, _ => exact sx2 p w
  | 3, _ => exact sx3 p w
theorem count_any (p : Nat → Bool) (w : World) : Calls Try.prog 30 #[sv p] w fun e w' => e = .returned (.int .i64 ((listB p).length : Nat)) ∧ Below w.heap.size w w' := by
  have g1 := SA.new w p
  have IX := Lib.hid (fun k h w => ix_any p k h w)
  have ON := Lib.hid (fun k w => ones_any (wd p k) w (wd_lt p k))
  have HL := Lib.hid (cnt_all p)
  go_enter Try.func30, Try.ntmps30
  go_wp2_with (first
    | (refine wpList_get rfl _ rfl _ rfl _ g1 ?_)
    )
  go_loopw [3, 5, 7] (fun s _ i wr => ∃ k : Nat, k ≤ 4 ∧ i = .int .i64 k ∧ s = .int .i64 (upC p k : Nat) ∧ wr = w.alloc (setO p)) (fun _ _ i _ => 4 - (intOf i).toNat)
  case atStart => exact ⟨0, Nat.zero_le _, rfl, rfl, rfl⟩
  case round =>
    obtain ⟨k, hk, rfl, rfl, rfl⟩ := hrel
    by_cases hlt : k < 4
    · have hltb : decide ((k : Int) < 4) = true := decide_eq_true (by omega)
      have hix := IX.out k hlt
      have hc := cnt_le p k
      have hu := upC_le p k
      have hw := IntWalk.i64_in ((upC p k : Int) + (cnt p k : Int)) (by omega)
      have ON := Lib.hid (fun w => show Calls Try.prog 47 #[.int .u64 ((wd p k : Nat) : Int)] w fun e w' => e = .returned (.int .i64 ((cnt p k : Nat) : Int)) ∧ w' = w from ON.out k w)
      go_wp2_with (first
        | (go_at_call 47; refine (ON.out _).mono ?_; rintro e w2 ⟨rfl, rfl⟩)
        )
      go_roundw
      case rel => exact ⟨k + 1, by omega, by go_num, by simp only [upC]; push_cast; rfl, by first | rfl | trivial⟩
      case measure => simp [intOf]; omega
    · obtain rfl : k = 4 := by omega
      go_wp2
      go_ret
      refine ⟨ret_int ?_, (Below.refl _ w).alloc (Nat.le_refl _) _⟩
      rw [← HL.out]
      simp only [upC]; simp
end Go.Proofs.Ytedbhjladpfafaa
