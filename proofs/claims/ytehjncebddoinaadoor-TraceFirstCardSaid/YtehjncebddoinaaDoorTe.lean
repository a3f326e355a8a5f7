/- The law on the first difference. -/
import Derived.Test.YtehjncebddoinaaDoorTa
import Derived.Test.YtehjncebddoinaaDoorN
namespace Go.Proofs.YtehjncebddoinaaDoor
open Go.RowKit
attribute [local go_sem] guardEv
section
variable {a : Act} {w : World}
theorem quiet_ev {o : Oper} {K : Act → Prop} {n : Nat} (x : Operand) (ho : o.op = .load 43 x) (b f : Nat) (hx : a.eval x = .pointer (some ⟨b, f, none⟩)) (c d : Int) (hc : w.cell? ⟨b, f, none⟩ = some (.int .i32 c)) (hd : w.cell? ⟨b, f + 1, none⟩ = some (.int .i32 d)) (hB : b < n)
    (h : K (a.put o.dst (.agg #[.int .i32 c, .int .i32 d]))) : o.quiet Tryd.prog a (fun w' => Below n w w') K :=
  ⟨_, fun w' hw => by
    have hc' := (hw.cell (p := ⟨b, f, none⟩) hB).trans hc
    have hd' := (hw.cell (p := ⟨b, f + 1, none⟩) hB).trans hd
    unfold Oper.quietAt execOp
    rw [ho]
    simp only [hx]
    go_simp, h⟩
end
theorem TR.cut {W : World} {p : Option Addr} {n c k : Nat} {l : List Ev} (h : TR W (.slice p n c) l) (hk : k ≤ n) : TR W (.slice p k c) (l.take k) := by
  obtain ⟨ho, q, c', e, hc, hx⟩ := h
  cases e
  refine ⟨fun x hx => ho x (List.mem_of_mem_take hx), p, c, by rw [List.length_take, Nat.min_eq_left hk], by rw [List.length_take]; omega, fun i x hi => hx i x ?_⟩
  rw [List.getElem?_take] at hi
  split at hi
  · exact hi
  · cases hi
set_option maxHeartbeats 1600000 in
set_option maxRecDepth 100000 in
theorem tfirst_any (va : Value) (a : List Ev) (vb : Value) (b : List Ev) (w : World) (ha : TR w va a) (hb0 : TR w vb b) (hp : P10 w) : Calls Tryd.prog 6 #[va, vb] w (AwPost w) := by
  have hb := Below.refl w.heap.size w
  have HP := Lib.hid (fun W (h : Below w.heap.size w W) => hp.below h)
  have AW := Lib.hid awake_any
  have FA := Lib.hid (far_tr ha)
  have FB := Lib.hid (far_tr hb0)
  clear hp
  by_cases fa : farB a.length = true
  · rw [fa] at FA
    clear fa
    clear ha hb0
    go_enter Tryd.func6, Tryd.ntmps6
    go_wp2_with (first
      | (go_at_call 8; (first | (with_reducible refine FA.out.mono ?_) | (with_reducible refine FB.out.mono ?_)); rintro e w' ⟨rfl, rfl⟩)
      | (go_at_call 9; (with_reducible refine (AW.out _ (HP.out _ hb)).mono ?_); rintro e w1 ⟨rfl, hb2⟩; replace hb := hb.trans (hb2.mono hb.size); clear hb2))
    go_ret
    exact ⟨rfl, hb⟩
  have fa : farB a.length = false := by simpa using fa
  have la := farB_false fa
  rw [fa] at FA
  by_cases fb : farB b.length = true
  · rw [fb] at FB
    clear fa fb la
    clear ha hb0
    go_enter Tryd.func6, Tryd.ntmps6
    go_wp2_with (first
      | (go_at_call 8; (first | (with_reducible refine FA.out.mono ?_) | (with_reducible refine FB.out.mono ?_)); rintro e w' ⟨rfl, rfl⟩)
      | (go_at_call 9; (with_reducible refine (AW.out _ (HP.out _ hb)).mono ?_); rintro e w1 ⟨rfl, hb2⟩; replace hb := hb.trans (hb2.mono hb.size); clear hb2))
    go_ret
    exact ⟨rfl, hb⟩
  have fb : farB b.length = false := by simpa using fb
  have lb := farB_false fb
  rw [fb] at FB
  clear fa fb
  have D1 := Lib.hid (fun W (h : Below w.heap.size w W) => differ_any va vb a b W (ha.below h) (hb0.below h) (by omega) (by omega))
  have D2 := Lib.hid (fun W (h : Below w.heap.size w W) => differ_any vb va b a W (hb0.below h) (ha.below h) (by omega) (by omega))
  have D3 := Lib.hid (fun W (h : Below w.heap.size w W) => differ_any va va a a W (ha.below h) (ha.below h) (by omega) (by omega))
  have SE := Lib.hid (fun W (h : Below w.heap.size w W) => events_any va vb a b W (ha.below h) (hb0.below h) (by omega))
  rw [← diff_comm a b] at D2
  rw [diff_self a] at D3
  by_cases hab : a = b
  · subst hab
    rw [diff_self a] at D1 D2
    rw [show decide (a = a) = true from decide_eq_true rfl] at SE
    have G1 := Lib.hid (fun W (h : Below w.heap.size w W) => digest_any va a W (ha.below h) (by omega))
    have G2 := Lib.hid (fun W (h : Below w.heap.size w W) => digest_any vb a W (hb0.below h) (by omega))
    generalize digP a = D at *
    clear ha hb0 la lb
    go_enter Tryd.func6, Tryd.ntmps6
    go_wp2_with (first
      | (go_at_call 8; (first | (with_reducible refine FA.out.mono ?_) | (with_reducible refine FB.out.mono ?_)); rintro e w' ⟨rfl, rfl⟩)
      | (go_at_call 17; (first | (with_reducible refine (D1.out _ hb).mono ?_) | (with_reducible refine (D2.out _ hb).mono ?_) | (with_reducible refine (D3.out _ hb).mono ?_)); rintro e w1 ⟨rfl, hb2⟩; replace hb := hb.trans (hb2.mono hb.size); clear hb2)
      | (go_at_call 16; (with_reducible refine (SE.out _ hb).mono ?_); rintro e w1 ⟨rfl, d, rfl⟩; replace hb := below_drewN2 hb d)
      | (go_at_call 19; (first | (with_reducible refine (G1.out _ hb).mono ?_) | (with_reducible refine (G2.out _ hb).mono ?_)); rintro e w1 ⟨rfl, hb2⟩; replace hb := hb.trans (hb2.mono hb.size); clear hb2)
      | (go_at_call 9; (with_reducible refine (AW.out _ (HP.out _ hb)).mono ?_); rintro e w1 ⟨rfl, hb2⟩; replace hb := hb.trans (hb2.mono hb.size); clear hb2))
    go_ret
    exact ⟨rfl, hb⟩
  · rw [show decide (a = b) = false from decide_eq_false hab] at SE
    obtain ⟨k, hk⟩ : ∃ k, k = lcp a b := ⟨_, rfl⟩
    have hdk : diffP a b = (k : Int) := by
      have hne : ¬ diffP a b = -1 := fun h => hab (diff_eq.1 h)
      unfold diffP at hne ⊢
      split
      · rename_i h; rw [if_pos h] at hne; exact absurd rfl hne
      · rw [hk]
    rw [hdk] at D1 D2
    obtain ⟨hka, hkb⟩ := lcp_le a b
    rw [← hk] at hka hkb
    have hkab : ¬ (k = a.length ∧ k = b.length) := by
      intro h
      refine hab (diff_eq.1 ?_)
      unfold diffP
      rw [if_pos (by rw [← hk]; exact h)]
    have hst := lcp_take a b
    rw [← hk] at hst
    have hnx : ∀ x y, a[k]? = some x → b[k]? = some y → x ≠ y := by rw [hk]; exact fun x y => lcp_ne
    have G1 : Hid True := Lib.hid trivial
    have G2 : Hid True := Lib.hid trivial
    obtain ⟨p1, c1, rfl⟩ := ha.len
    obtain ⟨p2, c2, rfl⟩ := hb0.len
    have S2 := Lib.hid (fun W (h : Below w.heap.size w W) => events_any _ _ _ _ W ((ha.below h).cut hka) ((hb0.below h).cut hkb) (by rw [List.length_take]; omega))
    rw [show decide (a.take k = b.take k) = true from decide_eq_true hst] at S2
    have hca := ha.2
    have hcb := hb0.2
    obtain ⟨q1, d1, e1, hc1, hx⟩ := hca
    obtain ⟨q2, d2, e2, hc2, hy⟩ := hcb
    cases e1
    cases e2
    obtain ⟨n, hn⟩ : ∃ n, n = a.length := ⟨_, rfl⟩
    obtain ⟨m, hm⟩ : ∃ m, m = b.length := ⟨_, rfl⟩
    rw [← hn] at hka hkab FA D1 D2 D3 SE la hc1 ⊢
    rw [← hm] at hkb hkab FB D1 D2 SE lb hc2 ⊢
    have HX := Lib.hid hx
    have HY := Lib.hid hy
    have HN := Lib.hid hn
    have HM := Lib.hid hm
    have HNX := Lib.hid hnx
    have tneg : decide ((k : Int) < 0) = false := decide_eq_false (by omega)
    have tm1 : ((k : Int) == -1) = false := by rw [beq_eq_false_iff_ne]; omega
    have v1 : decide ((n : Int) < (k : Int)) = false := decide_eq_false (by omega)
    have u1 : decide (n < k) = false := decide_eq_false (by omega)
    have v2 : decide ((m : Int) < (k : Int)) = false := decide_eq_false (by omega)
    have u2 : decide (m < k) = false := decide_eq_false (by omega)
    clear ha hb0 hx hy hn hm hnx hst hdk hk hab la lb
    have kc1 : k ≤ c1 := by omega
    have kc2 : k ≤ c2 := by omega
    have pc : ∀ q : Option Addr, q = q := fun _ => rfl
    clear pc
    by_cases h1 : k = n
    · have x1 : ((k : Int) == (n : Int)) = true := by simp [h1]
      have x2 : ((k : Int) == (m : Int)) = false := by rw [beq_eq_false_iff_ne]; omega
      have y1 : (k == n) = true := by simp [h1]
      have y2 : (k == m) = false := by rw [beq_eq_false_iff_ne]; omega
      clear h1 hkab hka hkb hc1 hc2
      go_enter Tryd.func6, Tryd.ntmps6
      go_wp2_with (first
        | (go_at_call 8; (first | (with_reducible refine FA.out.mono ?_) | (with_reducible refine FB.out.mono ?_)); rintro e w' ⟨rfl, rfl⟩)
        | (go_at_call 17; (first | (with_reducible refine (D1.out _ hb).mono ?_) | (with_reducible refine (D2.out _ hb).mono ?_) | (with_reducible refine (D3.out _ hb).mono ?_)); rintro e w1 ⟨rfl, hb2⟩; replace hb := hb.trans (hb2.mono hb.size); clear hb2)
        | (go_at_call 16; (with_reducible refine (SE.out _ hb).mono ?_); rintro e w1 ⟨rfl, d, rfl⟩; replace hb := below_drewN2 hb d)
        | (go_at_call 19; (first | (with_reducible refine (G1.out _ hb).mono ?_) | (with_reducible refine (G2.out _ hb).mono ?_)); rintro e w1 ⟨rfl, hb2⟩; replace hb := hb.trans (hb2.mono hb.size); clear hb2)
        | (go_at_call 9; (with_reducible refine (AW.out _ (HP.out _ hb)).mono ?_); rintro e w1 ⟨rfl, hb2⟩; replace hb := hb.trans (hb2.mono hb.size); clear hb2))
      go_quiet ((go_at_call 16; exact Calls.quiet_of (S2.out _ (below_drewN2 hb _))))
      go_wp2
      have hbz := below_drewN2 hb nq
      generalize w1.drewN nq = w8 at hbz ⊢
      have AZ := Lib.hid (fun W (h : Below w8.heap.size w8 W) => AW.out W (HP.out W (hbz.trans (h.mono hbz.size))))
      refine wp_region_below (w := w8) (Nat.le_refl _) (by kernel_rfl) (by kernel_rfl) ?_
      repeat (first
        | go_big_quiet_skip
        | (go_big_quiet_want; (first
            | ((fail); simp only [Act.put, List.setIfInBounds_toArray, List.set_cons_succ, List.set_cons_zero]; go_big_quiet_on)
            | (go_big_quiet_op; (first
                | go_big_quiet_on
                | (refine ⟨_, fun _ _ => rfl, ?_⟩; go_big_quiet_on)
                | (apply Exists.intro; refine ⟨fun w9 hw9 => ?_, ?_⟩; (focus ((go_at_call 9; exact Calls.quiet_below (AZ.out _ hw9) hw9 (Nat.le_refl _) (fun _ _ h => h)))); go_big_quiet_on))))))
      refine wpQuiet_nil ?_
      intro w9 hb9
      go_wp2
      go_ret
      exact ⟨rfl, hbz.trans (hb9.mono hbz.size)⟩
    · by_cases h2 : k = m
      · have x1 : ((k : Int) == (n : Int)) = false := by rw [beq_eq_false_iff_ne]; omega
        have x2 : ((k : Int) == (m : Int)) = true := by simp [h2]
        have y1 : (k == n) = false := by rw [beq_eq_false_iff_ne]; omega
        have y2 : (k == m) = true := by simp [h2]
        clear h1 h2 hkab hka hkb hc1 hc2
        go_enter Tryd.func6, Tryd.ntmps6
        go_wp2_with (first
          | (go_at_call 8; (first | (with_reducible refine FA.out.mono ?_) | (with_reducible refine FB.out.mono ?_)); rintro e w' ⟨rfl, rfl⟩)
          | (go_at_call 17; (first | (with_reducible refine (D1.out _ hb).mono ?_) | (with_reducible refine (D2.out _ hb).mono ?_) | (with_reducible refine (D3.out _ hb).mono ?_)); rintro e w1 ⟨rfl, hb2⟩; replace hb := hb.trans (hb2.mono hb.size); clear hb2)
          | (go_at_call 16; (with_reducible refine (SE.out _ hb).mono ?_); rintro e w1 ⟨rfl, d, rfl⟩; replace hb := below_drewN2 hb d)
          | (go_at_call 19; (first | (with_reducible refine (G1.out _ hb).mono ?_) | (with_reducible refine (G2.out _ hb).mono ?_)); rintro e w1 ⟨rfl, hb2⟩; replace hb := hb.trans (hb2.mono hb.size); clear hb2)
          | (go_at_call 9; (with_reducible refine (AW.out _ (HP.out _ hb)).mono ?_); rintro e w1 ⟨rfl, hb2⟩; replace hb := hb.trans (hb2.mono hb.size); clear hb2))
        go_quiet ((go_at_call 16; exact Calls.quiet_of (S2.out _ (below_drewN2 hb _))))
        go_wp2
        have hbz := below_drewN2 hb nq
        generalize w1.drewN nq = w8 at hbz ⊢
        have AZ := Lib.hid (fun W (h : Below w8.heap.size w8 W) => AW.out W (HP.out W (hbz.trans (h.mono hbz.size))))
        refine wp_region_below (w := w8) (Nat.le_refl _) (by kernel_rfl) (by kernel_rfl) ?_
        repeat (first
          | go_big_quiet_skip
          | (go_big_quiet_want; (first
              | ((fail); simp only [Act.put, List.setIfInBounds_toArray, List.set_cons_succ, List.set_cons_zero]; go_big_quiet_on)
              | (go_big_quiet_op; (first
                  | go_big_quiet_on
                  | (refine ⟨_, fun _ _ => rfl, ?_⟩; go_big_quiet_on)
                  | (apply Exists.intro; refine ⟨fun w9 hw9 => ?_, ?_⟩; (focus ((go_at_call 9; exact Calls.quiet_below (AZ.out _ hw9) hw9 (Nat.le_refl _) (fun _ _ h => h)))); go_big_quiet_on))))))
        refine wpQuiet_nil ?_
        intro w9 hb9
        go_wp2
        go_ret
        exact ⟨rfl, hbz.trans (hb9.mono hbz.size)⟩
      · have x1 : ((k : Int) == (n : Int)) = false := by rw [beq_eq_false_iff_ne]; omega
        have x2 : ((k : Int) == (m : Int)) = false := by rw [beq_eq_false_iff_ne]; omega
        have y1 : (k == n) = false := by rw [beq_eq_false_iff_ne]; omega
        have y2 : (k == m) = false := by rw [beq_eq_false_iff_ne]; omega
        have g1 : (k : Int) < (n : Int) := by omega
        have g2 : (k : Int) < (m : Int) := by omega
        obtain ⟨x, hxk⟩ : ∃ x, a[k]? = some x := ⟨_, List.getElem?_eq_getElem (by rw [← HN.out]; omega)⟩
        obtain ⟨y, hyk⟩ : ∃ y, b[k]? = some y := ⟨_, List.getElem?_eq_getElem (by rw [← HM.out]; omega)⟩
        have hxy := HNX.out x y hxk hyk
        obtain ⟨b1, o1, rfl, L1, e1, e2⟩ := HX.out k x hxk
        obtain ⟨b2, o2, rfl, L2, f1, f2⟩ := HY.out k y hyk
        have ht : ∀ W : World, (Op.equalIn 10000 43 (.agg #[.int .i32 x.1, .int .i32 x.2]) (.agg #[.int .i32 y.1, .int .i32 y.2])).run Tryd.prog W = .ok false W := fun W => by rw [eqEv, ev_ne hxy]
        clear h1 h2 hkab hka hkb hc1 hc2 hxk hyk hxy
        go_enter Tryd.func6, Tryd.ntmps6
        go_wp2_with (first
          | (go_at_call 8; (first | (with_reducible refine FA.out.mono ?_) | (with_reducible refine FB.out.mono ?_)); rintro e w' ⟨rfl, rfl⟩)
          | (go_at_call 17; (first | (with_reducible refine (D1.out _ hb).mono ?_) | (with_reducible refine (D2.out _ hb).mono ?_) | (with_reducible refine (D3.out _ hb).mono ?_)); rintro e w1 ⟨rfl, hb2⟩; replace hb := hb.trans (hb2.mono hb.size); clear hb2)
          | (go_at_call 16; (with_reducible refine (SE.out _ hb).mono ?_); rintro e w1 ⟨rfl, d, rfl⟩; replace hb := below_drewN2 hb d)
          | (go_at_call 19; (first | (with_reducible refine (G1.out _ hb).mono ?_) | (with_reducible refine (G2.out _ hb).mono ?_)); rintro e w1 ⟨rfl, hb2⟩; replace hb := hb.trans (hb2.mono hb.size); clear hb2)
          | (go_at_call 9; (with_reducible refine (AW.out _ (HP.out _ hb)).mono ?_); rintro e w1 ⟨rfl, hb2⟩; replace hb := hb.trans (hb2.mono hb.size); clear hb2))
        go_quiet ((go_at_call 16; exact Calls.quiet_of (S2.out _ (below_drewN2 hb _))))
        go_wp2
        have hbz := below_drewN2 hb nq
        generalize w1.drewN nq = w8 at hbz ⊢
        have AZ := Lib.hid (fun W (h : Below w8.heap.size w8 W) => AW.out W (HP.out W (hbz.trans (h.mono hbz.size))))
        have e1 := (hbz.cell (p := ⟨b1, o1 + k * 2, none⟩) L1).trans e1
        have e2 := (hbz.cell (p := ⟨b1, o1 + k * 2 + 1, none⟩) L1).trans e2
        have f1 := (hbz.cell (p := ⟨b2, o2 + k * 2, none⟩) L2).trans f1
        have f2 := (hbz.cell (p := ⟨b2, o2 + k * 2 + 1, none⟩) L2).trans f2
        have L1 := Nat.lt_of_lt_of_le L1 hbz.size
        have L2 := Nat.lt_of_lt_of_le L2 hbz.size
        refine wp_region_below (w := w8) (Nat.le_refl _) (by kernel_rfl) (by kernel_rfl) ?_
        repeat (first
          | go_big_quiet_skip
          | (go_big_quiet_want; (first
              | (((first | refine quiet_ev _ rfl _ _ rfl _ _ e1 e2 L1 ?_ | refine quiet_ev _ rfl _ _ rfl _ _ f1 f2 L2 ?_)); simp only [Act.put, List.setIfInBounds_toArray, List.set_cons_succ, List.set_cons_zero]; go_big_quiet_on)
              | (go_big_quiet_op; (first
                  | go_big_quiet_on
                  | (refine ⟨_, fun _ _ => rfl, ?_⟩; go_big_quiet_on)
                  | (apply Exists.intro; refine ⟨fun w9 hw9 => ?_, ?_⟩; (focus ((go_at_call 9; exact Calls.quiet_below (AZ.out _ hw9) hw9 (Nat.le_refl _) (fun _ _ h => h)))); go_big_quiet_on))))))
        refine wpQuiet_nil ?_
        intro w9 hb9
        go_wp2
        go_ret
        exact ⟨rfl, hbz.trans (hb9.mono hbz.size)⟩
end Go.Proofs.YtehjncebddoinaaDoor
