/- Two rows in one arena: what CompareRows builds. -/
import Derived.Test.YtalnhbjpfnodiaaYl
import Derived.Test.YtalnhbjpfnodiaaZv
import Derived.Deep.RegionLaw
namespace Go.Proofs.Ytalnhbjpfnodiaa
open Go.RowKit
theorem step_append_run {P : Program} {ops : Array Oper} {o : Oper} {a : Act} (w : World) {K : Act → World → Prop} {Q : Exit → Act → World → Prop} {E : Prop} (hgd : o.guard = none) (s x : Operand) (t1 t2 : TypeId)
    (ho : o.op = .call { callee := .builtin .append, args := #[s, x], argTypes := #[t1, t2] }) (v1 v2 : Value) (hs : a.eval s = v1) (hx : a.eval x = v2) {v' : Value} {w' : World}
    (hr : (Builtin.append_ #[t1, t2] o.type #[v1, v2]).run P w = .ok v' w') (h : K (a.put o.dst v') w') :
    if Region.wanted o (yielded ops a.tmps) = true then Oper.wp P o a w K Q else E := by
  have hw : Region.wanted o (yielded ops a.tmps) = true := by simp [Region.wanted, hgd]
  rw [if_pos hw]
  unfold Oper.wp execOp
  simp only [ho, resolve, invoke, builtin, Sem.run_bind, Sem.run_pure, Result.andThen_ok, List.map_toArray, List.map_cons, List.map_nil, hs, hx, hr]
  exact h
theorem URow.src {W : World} {q : Option Addr} {n c : Nat} {xs : List Nat} (hv : URow W (.slice q n c) xs) (h0 : 0 < xs.length) : ∃ b o, q = some ⟨b, o, none⟩ ∧ b < W.heap.size ∧ ∀ i x, xs[i]? = some x → W.cell? ⟨b, o + i, none⟩ = some (.int .u64 (x : Nat)) := by
  obtain ⟨q', c', e, _, hx⟩ := hv
  cases e
  obtain ⟨b, o, e, h1⟩ := hx 0 (xs[0]'h0) (List.getElem?_eq_getElem h0)
  subst e
  refine ⟨b, o, rfl, World.block_lt_of_cell? W _ h1, fun i x hi => ?_⟩
  obtain ⟨b', o', e, h⟩ := hx i x hi
  cases e; exact h
theorem run_two (W : World) (q1 q2 : Option Addr) (c1 c2 n : Nat) (xs ys : List Nat) (hx : n = xs.length) (hy : n = ys.length) (hvx : URow W (.slice q1 n c1) xs) (hvy : URow W (.slice q2 n c2) ys) (h1 : 1 ≤ n) (h2 : n ≤ 64) :
    ∃ v1 w1 v2 w2, (Builtin.append_ #[27, 27] 27 #[.slice (some ⟨W.heap.size, 0, none⟩) 0 0, .slice q1 n c1]).run Try.prog (W.alloc (.cells #[] 22)) = .ok v1 w1 ∧
      (Builtin.append_ #[27, 27] 27 #[v1, .slice q2 n c2]).run Try.prog w1 = .ok v2 w2 ∧ URow w2 v2 (xs ++ ys) ∧ Below W.heap.size W w2 := by
  obtain ⟨v1, w1, r1, o1, b1⟩ := run_clone W 27 q1 c1 n xs hx hvx (by omega)
  obtain ⟨i0, hi, hz0, hz1, hz2⟩ := info_parts u64_info
  have ht := Try.underlying27
  obtain ⟨b, o, rfl, hlt, hc⟩ := hvy.src (by omega)
  have hc2 : ∀ j u, (ys.map u64v)[j]? = some u → w1.cell? ((⟨b, o, none⟩ : Addr).add j) = some u := fun j u h => (b1.cell (by rw [show ((⟨b, o, none⟩ : Addr).add j).block = b by unfold Addr.add; split <;> simp_all]; exact hlt)).trans (URow.cells hc j u h)
  obtain ⟨v2, w2, r2, o2, g2, _⟩ := run_append_own (P := Try.prog) w1 W.heap.size 27 27 22 i0 (.int .u64 0) 1 8 ht hi hz0 hz1 hz2 rfl (by decide) v1 n (xs.map u64v) o1 ⟨b, o, none⟩ n c2 (ys.map u64v) (by simp; omega) hc2 (u64v_one _) (by simp only [maxLen]; omega) (by omega) b1.size
  refine ⟨v1, w1, v2, w2, r1, r2, URow.of_own (b0 := W.heap.size) (n := n + n) ?_, b1.grown g2 b1.size (fun j e => (World.ownsRow.lt o1 j e).1)⟩
  rw [List.map_append]
  exact o2
theorem ordS_congr {u u' v v' : Nat → Nat} {n : Nat} (hu : ∀ i, i < n → u i = u' i) (hv : ∀ i, i < n → v i = v' i) : ∀ k, k ≤ n → ordS u v k = ordS u' v' k
  | 0, _ => rfl
  | k + 1, h => by rw [ordS, ordS, ordS_congr hu hv k (by omega), hu k (by omega), hv k (by omega)]
theorem ordS_le (u v : Nat → Nat) : ∀ k, ordS u v k ≤ 2
  | 0 => Nat.zero_le _
  | k + 1 => by
    rw [ordS]
    split
    · split
      · decide
      · split <;> decide
    · exact ordS_le u v k
def swO (o : Nat) : Nat := if o = 1 then 2 else if o = 2 then 1 else 0
theorem swO_zero {o : Nat} (h : o ≤ 2) : swO o = 0 ↔ o = 0 := by
  have : o = 0 ∨ o = 1 ∨ o = 2 := by omega
  rcases this with rfl | rfl | rfl <;> simp [swO]
theorem ordS_swap (u v : Nat → Nat) : ∀ k, ordS v u k = swO (ordS u v k)
  | 0 => rfl
  | k + 1 => by
    have h2 := ordS_le u v k
    rw [ordS, ordS, ordS_swap u v k]
    by_cases h0 : ordS u v k = 0
    · rw [if_pos ((swO_zero h2).2 h0), if_pos h0]
      by_cases h1 : u k < v k
      · rw [if_neg (by omega), if_pos h1, if_pos h1]; rfl
      · by_cases h3 : v k < u k
        · rw [if_pos h3, if_neg h1, if_pos h3]; rfl
        · rw [if_neg h3, if_neg h1, if_neg h1, if_neg h3]; rfl
    · rw [if_neg (fun h => h0 ((swO_zero h2).1 h)), if_neg h0]
theorem ordS_keep {u v : Nat → Nat} {k : Nat} (h : ¬ ordS u v k = 0) : ∀ j, ordS u v (k + j) = ordS u v k
  | 0 => rfl
  | j + 1 => by rw [show k + (j + 1) = (k + j) + 1 by omega, ordS, ordS_keep h j, if_neg h]
theorem ltO_val {o : Nat} (h : o ≤ 2) : (if decide (valO o < 0) then onesN else 0) = ltO o ∧ (if decide (valO o > 0) then onesN else 0) = ltO (swO o) ∧ (if (valO o == 0) then onesN else 0) = eqO o := by
  have : o = 0 ∨ o = 1 ∨ o = 2 := by omega
  rcases this with rfl | rfl | rfl <;> decide
theorem cmE_good {N t a b j : Nat} (h1 : 1 ≤ j) (h2 : j ≤ 64) (ha : a + j ≤ N) (hb : b + j ≤ N) (ht : t + 2 * j ≤ 8388608) : cmE N t (a : Int) (b : Int) (j : Int) = 0 := by
  have e1 : hasE N (a : Int) (j : Int) = 0 := by unfold hasE; rw [if_neg (by omega)]
  have e2 : hasE N (b : Int) (j : Int) = 0 := by unfold hasE; rw [if_neg (by omega)]
  have e3 : ckQ (fun v => hasE N v (j : Int)) (a : Int) (b : Int) (j : Int) = 0 := by
    unfold ckQ; rw [if_neg (by omega), hasF_one, if_pos e1]; exact e2
  unfold cmE
  rw [if_pos e3]
  unfold roomE
  rw [if_neg (by omega), if_neg (by omega)]
/-- The cells of two rows, one behind the other. -/
theorem two_cells {xs ys : List Nat} {n : Nat} (hx : n = xs.length) (hy : n = ys.length) (h1 : 1 ≤ n) : (arC (xs ++ ys)).length = n + n ∧ (arT (xs ++ ys)).length = n + n ∧ (∀ i, i < n → (arC (xs ++ ys)).getD i 0 = xs.getD i 0) ∧ (∀ i, i < n → (arC (xs ++ ys)).getD (n + i) 0 = ys.getD i 0) := by
  have hl : (xs ++ ys).length = n + n := by simp; omega
  have hC : arC (xs ++ ys) = xs ++ ys := by
    unfold arC padC arN
    rw [hl, show max (n + n) 1 = n + n by omega, Nat.sub_self, List.replicate_zero, List.append_nil, ← hl, List.take_length]
  refine ⟨by rw [hC, hl], by unfold arT; rw [padT_len, hl], fun i hi => ?_, fun i hi => ?_⟩
  · rw [hC, List.getD_eq_getElem?_getD, List.getD_eq_getElem?_getD, List.getElem?_append_left (by omega)]
  · rw [hC, List.getD_eq_getElem?_getD, List.getD_eq_getElem?_getD, List.getElem?_append_right (by omega), show n + i - xs.length = i by omega]
/-- LessRows and EqualRows of both rows. -/
theorem two_ords {xs ys : List Nat} {n : Nat} (hx : n = xs.length) (hy : n = ys.length) (h1 : 1 ≤ n) : cmO (arC (xs ++ ys)) (0 : Nat) (n : Int) (n : Int) = ordS (fun i => xs.getD i 0) (fun i => ys.getD i 0) n ∧ cmO (arC (xs ++ ys)) (n : Int) (0 : Nat) (n : Int) = swO (ordS (fun i => xs.getD i 0) (fun i => ys.getD i 0) n) := by
  obtain ⟨_, _, h3, h4⟩ := two_cells hx hy h1
  constructor
  · unfold cmO
    simp only [Int.toNat_natCast]
    exact ordS_congr (fun i hi => by rw [Nat.zero_add]; exact h3 i hi) (fun i hi => h4 i hi) n (Nat.le_refl _)
  · rw [← ordS_swap]
    unfold cmO
    simp only [Int.toNat_natCast]
    exact ordS_congr (fun i hi => h4 i hi) (fun i hi => by rw [Nat.zero_add]; exact h3 i hi) n (Nat.le_refl _)
end Go.Proofs.Ytalnhbjpfnodiaa
