/- The network's iterator; Sort of the program. -/
import Derived.Test.YtalnhbjpfnodiaaYg
import Derived.Deep.QuietTactic
namespace Go.Proofs.Ytalnhbjpfnodiaa
open Go.RowKit Go.Shelf
attribute [local go_sem] Oper.semAt_some
theorem network_any (k : Int) (w : World) : Calls Try.prog 60 #[.int .i64 k] w fun e w' => e = .returned (.func (.func 78) #[] #[.pointer (some ⟨w.heap.size, 0, none⟩)]) ∧ w' = w.alloc (.cells #[.int .i64 k] 3) := by
  go_enter Try.func60, Try.ntmps60
  go_wp2
  go_ret
  exact ⟨rfl, rfl⟩
theorem net_head {j : Nat} (h : 0 < j) : netK j = List.range' 0 j ++ netK (j - 1) := by
  cases j with
  | zero => omega
  | succ j => rw [netK]; rfl
theorem range_head {i m : Nat} (h : i < m) : List.range' i (m - i) = i :: List.range' (i + 1) (m - (i + 1)) := by
  rw [show m - i = (m - (i + 1)) + 1 by omega, List.range'_succ]
set_option maxHeartbeats 1600000 in
set_option maxRecDepth 100000 in
theorem network_iter {m l : Nat} {W : World} (hm : 2 ≤ m) {B M : Nat} (J : List Nat → World → Prop) (hM1 : 1 ≤ M) (hM2 : M ≤ 16)
    (hJ : ∀ (d : List Nat) (W : World), J d W → W.cell? ⟨B, 0, none⟩ = some (.int .i64 (M : Int)))
    (hY : ∀ (d : List Nat) (i : Nat) (r : List Nat) (W : World), netK (M - 1) = d ++ i :: r → J d W → YieldAt Fence.wide (m - 1) Try.prog l #[.int .i64 (i : Int), .int .i64 ((i : Int) + 1)] W fun e W' => e = .returned (.bool true) ∧ J (d ++ [i]) W')
    (h0 : J [] W) :
    CallsIn Fence.wide m Try.prog 78 (#[.func (.yield l) #[] #[]] ++ #[.pointer (some ⟨B, 0, none⟩)]) W fun e W' => (∃ v, e = .returned v) ∧ J (netK (M - 1)) W' := by
  refine callsIn_of_wp Try.func78 rfl trivial ?_ rfl
  simp only [Try.ntmps78, List.size_toArray, List.length_cons, List.length_nil, Nat.reduceAdd, Nat.reduceSub, Array.replicate_succ, Array.replicate_zero, List.push_toArray, List.append_toArray, List.nil_append, List.cons_append]
  have c7 := hJ [] W h0
  have H0 := Lib.hid h0
  have HJ := Lib.hid hJ
  have HY := Lib.hid hY
  have e0 : IntKind.i64.wrap ((M : Int) - 1) = ((M - 1 : Nat) : Int) := by rw [IntKind.wrap_i64]; omega
  obtain ⟨n, hn⟩ : ∃ n, n = M - 1 := ⟨_, rfl⟩
  rw [← hn] at e0 HY ⊢
  have hn16 : n ≤ 15 := by omega
  clear h0 hJ hY hn
  gi_wp2
  gi_loopw [7] (fun q wr => ∃ (k : Nat) (d : List Nat), k ≤ n ∧ q = .int .i64 (k : Int) ∧ Hid (netK n = d ++ netK (n - k)) ∧ Hid (J d wr)) (fun q _ => n - (intOf q).toNat)
  case atStart => exact ⟨0, [], Nat.zero_le _, rfl, Lib.hid rfl, H0⟩
  case round =>
    obtain ⟨k, d, hk, rfl, hd, hj⟩ := hrel
    clear c7 H0
    by_cases hlt : k < n
    · have t1 : decide ((k : Int) < (n : Int)) = true := decide_eq_true (by omega)
      have t1n : decide (k < n) = true := decide_eq_true hlt
      have c7 := HJ.out _ _ hj.out
      obtain ⟨g, hg⟩ : ∃ g, g = n - k := ⟨_, rfl⟩
      have e2 : IntKind.i64.wrap ((n : Int) - (k : Int)) = (g : Int) := by rw [hg, IntKind.wrap_i64]; omega
      have e3 : IntKind.i64.wrap ((k : Int) + 1) = ((k + 1 : Nat) : Int) := by rw [IntKind.wrap_i64]; omega
      have HG := Lib.hid hg
      have g1 : 1 ≤ g := by omega
      have g2 : g ≤ 15 := by omega
      have HD := Lib.hid (show netK n = d ++ (List.range' 0 (g - 0) ++ netK (g - 1)) by rw [hd.out, ← hg, net_head g1]; rfl)
      clear hd hg
      gi_wp2
      gi_loopw [14] (fun q wr => ∃ (i : Nat) (d : List Nat), i ≤ g ∧ q = .int .i64 (i : Int) ∧ Hid (netK n = d ++ (List.range' i (g - i) ++ netK (g - 1))) ∧ Hid (J d wr)) (fun q _ => g - (intOf q).toNat)
      case atStart => exact ⟨0, d, Nat.zero_le _, rfl, HD, hj⟩
      case round =>
        clear HD hj c7 d
        obtain ⟨i, d, hi, rfl, hd, hj⟩ := hrel
        by_cases hlt2 : i < g
        · have t2 : decide ((i : Int) < (g : Int)) = true := decide_eq_true (by omega)
          have t2n : decide (i < g) = true := decide_eq_true hlt2
          obtain ⟨r, hr⟩ : ∃ r, r = List.range' (i + 1) (g - (i + 1)) ++ netK (g - 1) := ⟨_, rfl⟩
          have HD2 := Lib.hid (show netK n = d ++ i :: r by rw [hd.out, range_head hlt2, hr]; rfl)
          have HD3 := Lib.hid (show netK n = (d ++ [i]) ++ (List.range' (i + 1) (g - (i + 1)) ++ netK (g - 1)) by rw [HD2.out, ← hr]; simp)
          obtain ⟨fn, tmps, assign, body, hy, hR⟩ := HY.out d i r _ HD2.out hj.out
          have e4 : IntKind.i64.wrap ((i : Int) + 1) = (i : Int) + 1 := by rw [IntKind.wrap_i64]; omega
          clear hr hd hj
          gi_wp2
          refine ⟨fun _ => by omega, ?_⟩
          refine hR.mono ?_
          clear hy hR
          rintro e W3 ⟨rfl, hJ3⟩
          have Q3 := Lib.hid hJ3
          clear hJ3
          gi_wp2
          go_roundw
          case rel => exact ⟨i + 1, _, by omega, by go_num, HD3, Q3⟩
          case measure => simp [intOf]; omega
        · obtain rfl : i = g := by omega
          have t2 : decide ((i : Int) < (i : Int)) = false := decide_eq_false (by omega)
          have HD2 := Lib.hid (show netK n = d ++ netK (n - (k + 1)) by rw [hd.out, Nat.sub_self, HG.out, show n - k - 1 = n - (k + 1) by omega]; rfl)
          clear hd
          gi_wp2
          go_roundw
          case rel => exact ⟨k + 1, d, by omega, by go_num, HD2, hj⟩
          case measure => simp [intOf]; omega
    · obtain rfl : k = n := by omega
      have t1 : decide ((k : Int) < (k : Int)) = false := decide_eq_false (by omega)
      have HD := Lib.hid (show netK k = d by rw [hd.out, Nat.sub_self, netK, List.append_nil])
      clear hd
      gi_wp2
      go_end0
      exact ⟨⟨_, rfl⟩, by rw [HD.out]; exact hj.out⟩
end Go.Proofs.Ytalnhbjpfnodiaa
