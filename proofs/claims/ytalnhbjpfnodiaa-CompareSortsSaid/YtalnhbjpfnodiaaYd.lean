/- The iterator over the cells of two rows; one arena beside other blocks. -/
import Derived.Test.YtalnhbjpfnodiaaYc
import Derived.Test.YtalnhbjpfnodiaaYr
import Derived.RangeFuncNested
import Derived.RangeFuncBound
import Derived.RangeFuncCalls
import Derived.RangeFuncLeaves
import Derived.RangeFuncWrites
import Derived.RangeFuncBox
import Derived.RangeFuncGives
import Derived.Shelf.Abstract
import Derived.Shelf.RegionOpen
import Derived.OwnWalkIn
import Derived.TacticsInMore
import Derived.LoopNIn
import Derived.LoopIn
namespace Go.Proofs.Ytalnhbjpfnodiaa
open Go.RowKit Go.Shelf
attribute [local go_sem] Oper.semAt_some
/-- An arena, as it is between two steps of a call that began in the world w, beside the blocks X. -/
structure Bs (w : World) (F X : Nat → Prop) (p : Nat) (cs : List Nat) (rs : List Rg) (tr : List (Nat × Nat)) (W : World) : Prop where
  ex : ∃ G, (∀ j, G j → (F j ∨ w.heap.size ≤ j) ∧ ¬ X j) ∧ Ar W G p cs rs tr
  kept : Kept F w W
  xlt : ∀ k, X k → k < W.heap.size
section
variable {w W W' : World} {F X X' : Nat → Prop} {p f : Nat} {cs c2 : List Nat} {rs r2 : List Rg} {tr t2 : List (Nat × Nat)} {args : Array Value} {r : Ending}
theorem Bs.start (h : Ar w F p cs rs tr) : Bs w F (fun _ => False) p cs rs tr w := ⟨⟨F, fun _ h => ⟨.inl h, fun h => h⟩, h⟩, Kept.refl _ _, fun _ h => h.elim⟩
theorem Bs.done (h : Bs w F X p cs rs tr W) : Step w F p cs rs tr W := by
  obtain ⟨⟨G, hg, ha⟩, hk, _⟩ := h
  exact ⟨G, fun k hk => (hg k hk).1, ha, hk⟩
theorem Bs.beside (h : Bs w F X p cs rs tr W) (hb : Below W.heap.size W W') (hX : ∀ k, X' k → k < W'.heap.size ∧ (X k ∨ W.heap.size ≤ k)) : Bs w F X' p cs rs tr W' := by
  obtain ⟨⟨G, hg, ha⟩, hk, hx⟩ := h
  have la := ha.lt
  refine ⟨⟨G, fun j hj => ⟨(hg j hj).1, fun h3 => ?_⟩, ha.below hb⟩, hk.trans (Kept.of_below (F := fun _ => False) hb) (fun _ h => h.elim), fun k hk => (hX k hk).1⟩
  rcases (hX j h3).2 with h4 | h4
  · exact (hg j hj).2 h4
  · have := la j hj; omega
theorem Bs.below (h : Bs w F X p cs rs tr W) (hb : Below W.heap.size W W') : Bs w F X p cs rs tr W' := h.beside hb fun k hk => ⟨Nat.lt_of_lt_of_le (h.xlt k hk) hb.size, .inl hk⟩
/-- Blocks of X that are the call's own are changed. -/
theorem Bs.put {Y : Nat → Prop} (h : Bs w F X p cs rs tr W) (hk : Kept Y W W') (hY : ∀ k, Y k → X k ∧ w.heap.size ≤ k) : Bs w F X p cs rs tr W' := by
  obtain ⟨⟨G, hg, ha⟩, hk0, hx⟩ := h
  exact ⟨⟨G, hg, ha.kept hk fun i hi hy => (hg i hi).2 (hY i hy).1⟩, hk0.trans hk fun i hi => .inr (hY i hi).2, fun k h => Nat.lt_of_lt_of_le (hx k h) hk.size⟩
theorem bs_act (h : Bs w F X p cs rs tr W) (hc : ∀ G, Ar W G p cs rs tr → Calls Try.prog f args W fun e W' => e = r ∧ Step W G p c2 r2 t2 W') : Calls Try.prog f args W fun e W' => e = r ∧ Bs w F X p c2 r2 t2 W' ∧ ∀ k, X k → W'.heap[k]? = W.heap[k]? := by
  obtain ⟨⟨G, hg, ha⟩, hk, hx⟩ := h
  refine (hc G ha).mono ?_
  rintro e W' ⟨rfl, G', e', a', k'⟩
  have hs := hk.size
  refine ⟨rfl, ⟨⟨G', fun j hj => ?_, a'⟩, hk.trans k' fun i hi => (hg i hi).1, fun k h => Nat.lt_of_lt_of_le (hx k h) k'.size⟩, fun k h => k'.block k (hx k h) fun h2 => (hg k h2).2 h⟩
  rcases e' j hj with h4 | h4
  · exact hg j h4
  · exact ⟨.inr (by omega), fun h5 => by have := hx j h5; omega⟩
end
set_option maxHeartbeats 1600000 in
set_option maxRecDepth 100000 in
theorem loaded_iter {m l : Nat} {W : World} (hm : 2 ≤ m) {p B4 B5 B6 B7 a b n : Nat} (u v : Nat → Nat) (J J1 M : Nat → World → Prop) (hn : n ≤ 64) (ha : a + n ≤ 65536) (hb : b + n ≤ 65536)
    (hJ : ∀ k W, J k W → W.cell? ⟨B4, 0, none⟩ = some (.pointer (some ⟨p, 0, none⟩)) ∧ W.cell? ⟨B5, 0, none⟩ = some (.int .i64 (a : Int)) ∧ W.cell? ⟨B6, 0, none⟩ = some (.int .i64 (b : Int)) ∧ W.cell? ⟨B7, 0, none⟩ = some (.int .i64 (n : Int)))
    (hJ1 : ∀ k W, J1 k W → W.cell? ⟨B4, 0, none⟩ = some (.pointer (some ⟨p, 0, none⟩)) ∧ W.cell? ⟨B6, 0, none⟩ = some (.int .i64 (b : Int)))
    (h1 : ∀ k W, k < n → J k W → Calls Try.prog 76 #[.pointer (some ⟨p, 0, none⟩), .int .i64 ((a + k : Nat) : Int)] W fun e W' => e = .returned (.tuple #[.int .u64 (u k : Int), .int .i64 0]) ∧ J1 k W')
    (h2 : ∀ k W, k < n → J1 k W → Calls Try.prog 76 #[.pointer (some ⟨p, 0, none⟩), .int .i64 ((b + k : Nat) : Int)] W fun e W' => e = .returned (.tuple #[.int .u64 (v k : Int), .int .i64 0]) ∧ M k W')
    (hY : ∀ k W, k < n → M k W → YieldAt Fence.wide (m - 1) Try.prog l #[.int .u64 (u k : Int), .int .u64 (v k : Int)] W fun e W' => e = .returned (.bool true) ∧ J (k + 1) W')
    (h0 : J 0 W) :
    CallsIn Fence.wide m Try.prog 85 (#[.func (.yield l) #[] #[]] ++ #[.pointer (some ⟨B7, 0, none⟩), .pointer (some ⟨B4, 0, none⟩), .pointer (some ⟨B5, 0, none⟩), .pointer (some ⟨B6, 0, none⟩)]) W fun e W' => (∃ v, e = .returned v) ∧ J n W' := by
  refine callsIn_of_wp Try.func85 rfl trivial ?_ rfl
  simp only [Try.ntmps85, List.size_toArray, List.length_cons, List.length_nil, Nat.reduceAdd, Nat.reduceSub, Array.replicate_succ, Array.replicate_zero, List.push_toArray, List.append_toArray, List.nil_append, List.cons_append]
  have c7 := (hJ 0 W h0).2.2.2
  have H0 := Lib.hid h0
  have HJ := Lib.hid hJ
  have HJ1 := Lib.hid hJ1
  have HL1 := Lib.hid (fun k W hk hj => (callsIn_wide (n := m - 1)).2 (h1 k W hk hj))
  have HL2 := Lib.hid (fun k W hk hj => (callsIn_wide (n := m - 1)).2 (h2 k W hk hj))
  have HY := Lib.hid hY
  clear h0 hJ hJ1 h1 h2 hY
  gi_wp2
  gi_loopw [12] (fun q wr => ∃ k : Nat, k ≤ n ∧ q = .int .i64 (k : Int) ∧ Hid (J k wr)) (fun q _ => n - (intOf q).toNat)
  case atStart => exact ⟨0, Nat.zero_le _, rfl, H0⟩
  case round =>
    obtain ⟨k, hk, rfl, hj⟩ := hrel
    clear c7 H0
    by_cases hlt : k < n
    · have t1 : decide ((k : Int) < (n : Int)) = true := decide_eq_true (by omega)
      have t1n : decide (k < n) = true := decide_eq_true hlt
      obtain ⟨c4, c5, c6, c7⟩ := HJ.out k wr hj.out
      have e1 : IntKind.i64.wrap ((a : Int) + (k : Int)) = ((a + k : Nat) : Int) := by rw [IntKind.wrap_i64]; omega
      have e2 : IntKind.i64.wrap ((b : Int) + (k : Int)) = ((b + k : Nat) : Int) := by rw [IntKind.wrap_i64]; omega
      obtain ⟨ak, hak⟩ : ∃ z, z = a + k := ⟨_, rfl⟩
      obtain ⟨bk, hbk⟩ : ∃ z, z = b + k := ⟨_, rfl⟩
      have C1 := Lib.hid (HL1.out k wr hlt hj.out)
      have C2 := Lib.hid (fun W h => HL2.out k W hlt h)
      have CY := Lib.hid (fun W h => HY.out k W hlt h)
      have CJ := Lib.hid (fun W h => HJ1.out k W h)
      rw [← hak] at e1 C1
      rw [← hbk] at e2 C2
      obtain ⟨uk, huk⟩ : ∃ z, z = u k := ⟨_, rfl⟩
      obtain ⟨vk, hvk⟩ : ∃ z, z = v k := ⟨_, rfl⟩
      rw [← huk] at C1
      simp only [← hvk] at C2
      simp only [← huk, ← hvk] at CY
      clear hak hbk huk hvk
      gi_wp2_with (first
        | (gi_at_call 76; (with_reducible refine C1.out.mono ?_); rintro e w1 ⟨rfl, hj1⟩; have Q1 := Lib.hid hj1; obtain ⟨d4, d6⟩ := CJ.out _ hj1; clear hj1)
        | (refine ⟨trivial, ?_⟩; gi_at_call 76; (with_reducible refine C1.out.mono ?_); rintro e w1 ⟨rfl, hj1⟩; have Q1 := Lib.hid hj1; obtain ⟨d4, d6⟩ := CJ.out _ hj1; clear hj1)
        | (refine ⟨trivial, fun _ => by omega, ?_⟩; gi_at_call 76; (with_reducible refine C1.out.mono ?_); rintro e w1 ⟨rfl, hj1⟩; have Q1 := Lib.hid hj1; obtain ⟨d4, d6⟩ := CJ.out _ hj1; clear hj1)
        | (gi_at_call 76; (with_reducible refine (C2.out _ Q1.out).mono ?_); rintro e w2 ⟨rfl, hM⟩; obtain ⟨fn, tmps, assign, body, hy, hR⟩ := CY.out _ hM; clear hM)
        | (refine ⟨trivial, ?_⟩; gi_at_call 76; (with_reducible refine (C2.out _ Q1.out).mono ?_); rintro e w2 ⟨rfl, hM⟩; obtain ⟨fn, tmps, assign, body, hy, hR⟩ := CY.out _ hM; clear hM)
        | (refine ⟨trivial, fun _ => by omega, ?_⟩; gi_at_call 76; (with_reducible refine (C2.out _ Q1.out).mono ?_); rintro e w2 ⟨rfl, hM⟩; obtain ⟨fn, tmps, assign, body, hy, hR⟩ := CY.out _ hM; clear hM))
      refine ⟨fun _ => by omega, ?_⟩
      refine hR.mono ?_
      clear hy hR
      rintro e W3 ⟨rfl, hJ3⟩
      have Q3 := Lib.hid hJ3
      clear hJ3
      gi_wp2
      go_roundw
      case rel => exact ⟨k + 1, by omega, by go_num, Q3⟩
      case measure => simp [intOf]; omega
    · obtain rfl : k = n := by omega
      have t1 : decide ((k : Int) < (k : Int)) = false := decide_eq_false (by omega)
      gi_wp2
      go_end0
      exact ⟨⟨_, rfl⟩, hj.out⟩
end Go.Proofs.Ytalnhbjpfnodiaa
