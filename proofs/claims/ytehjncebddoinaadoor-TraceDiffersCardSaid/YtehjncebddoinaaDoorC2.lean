/- The reference's Differ. -/
import Derived.Test.YtehjncebddoinaaDoorC
namespace Go.Proofs.YtehjncebddoinaaDoor
open Go.RowKit
attribute [local go_sem] guardEv
set_option maxHeartbeats 1600000 in
set_option maxRecDepth 100000 in
theorem rdiffer_any (va vb : Value) (a b : List Ev) (w : World) (ha : TR w va a) (hb : TR w vb b) (hla : a.length ≤ 100000000) (_hlb : b.length ≤ 100000000) :
    Calls Tryd.prog 18 #[va, vb] w (DfPost w (diffP a b)) := by
  obtain ⟨_, p1, c1, rfl, _, hx⟩ := ha
  obtain ⟨_, p2, c2, rfl, _, hy⟩ := hb
  have HX := Lib.hid hx
  have HY := Lib.hid hy
  obtain ⟨n, hn⟩ : ∃ n, n = a.length := ⟨_, rfl⟩
  obtain ⟨m, hm⟩ : ∃ m, m = b.length := ⟨_, rfl⟩
  rw [← hn] at hla ⊢
  try rw [← hm]
  have HN := Lib.hid hn
  have HM := Lib.hid hm
  clear hx hy hn hm
  go_enter Tryd.func18, Tryd.ntmps18
  go_wp2
  go_loopw [5] (fun i wr => ∃ k : Nat, k ≤ n ∧ k ≤ m ∧ i = .int .i64 (k : Int) ∧ Hid (lcp a b = k + lcp (a.drop k) (b.drop k)) ∧ ∃ d, wr = w.drewN d) (fun i _ => n + 1 - (intOf i).toNat)
  case atStart => exact ⟨0, Nat.zero_le _, Nat.zero_le _, rfl, Lib.hid (by simp), 0, rfl⟩
  case round =>
    obtain ⟨k, hk1, hk2, rfl, hc, d, rfl⟩ := hrel
    by_cases l1 : k < n
    · have t1 : decide ((k : Int) < (n : Int)) = true := decide_eq_true (by omega)
      have s1 : decide ((n : Int) ≤ (k : Int)) = false := decide_eq_false (by omega)
      have u1 : decide (n ≤ k) = false := decide_eq_false (by omega)
      by_cases l2 : k < m
      · have s2 : decide ((m : Int) ≤ (k : Int)) = false := decide_eq_false (by omega)
        have u2 : decide (m ≤ k) = false := decide_eq_false (by omega)
        obtain ⟨x, hxk⟩ : ∃ x, a[k]? = some x := ⟨_, List.getElem?_eq_getElem (by rw [← HN.out]; omega)⟩
        obtain ⟨y, hyk⟩ : ∃ y, b[k]? = some y := ⟨_, List.getElem?_eq_getElem (by rw [← HM.out]; omega)⟩
        obtain ⟨b1, o1, rfl, _, e1, e2⟩ := HX.out k x hxk
        obtain ⟨b2, o2, rfl, _, f1, f2⟩ := HY.out k y hyk
        have g1 : (k : Int) < (n : Int) := by omega
        have g2 : (k : Int) < (m : Int) := by omega
        have HXK := Lib.hid hxk
        have HYK := Lib.hid hyk
        clear hxk hyk
        by_cases hxy : x = y
        · subst hxy
          have ht : ∀ W : World, (Op.equalIn 10000 43 (.agg #[.int .i32 x.1, .int .i32 x.2]) (.agg #[.int .i32 x.1, .int .i32 x.2])).run Tryd.prog W = .ok true W := fun W => by rw [eqEv, ev_eq]
          go_wp2
          go_quiet (fail)
          go_wp2
          go_roundw
          case rel => exact ⟨k + 1, by omega, by omega, by go_num, Lib.hid (lcp_step HXK.out HYK.out hc.out), _, rfl⟩
          case measure => simp [intOf]; omega
        · have ht : ∀ W : World, (Op.equalIn 10000 43 (.agg #[.int .i32 x.1, .int .i32 x.2]) (.agg #[.int .i32 y.1, .int .i32 y.2])).run Tryd.prog W = .ok false W := fun W => by rw [eqEv, ev_ne hxy]
          have E := Lib.hid (lcp_at HXK.out HYK.out hxy hc.out)
          clear hxy
          go_wp2
          go_quiet (fail)
          go_wp2
          go_ret
          exact ⟨ret_i64 E.out.symm, by (try rw [drewN_drewN]); exact below_drewN _ _⟩
      · have s2 : decide ((m : Int) ≤ (k : Int)) = true := decide_eq_true (by omega)
        have u2 : decide (m ≤ k) = true := decide_eq_true (by omega)
        have E := Lib.hid (diff_cut (a := a) (b := b) (k := k) (by rw [← HN.out, ← HM.out]; omega) hc.out)
        go_wp2
        go_quiet (fail)
        go_wp2
        go_ret
        exact ⟨ret_i64 E.out.symm, by (try rw [drewN_drewN]); exact below_drewN _ _⟩
    · have t1 : decide ((k : Int) < (n : Int)) = false := decide_eq_false (by omega)
      by_cases l2 : k < m
      · have t2 : decide ((k : Int) < (m : Int)) = true := decide_eq_true (by omega)
        have s1 : decide ((n : Int) ≤ (k : Int)) = true := decide_eq_true (by omega)
        have u1 : decide (n ≤ k) = true := decide_eq_true (by omega)
        have E := Lib.hid (diff_cut (a := a) (b := b) (k := k) (by rw [← HN.out, ← HM.out]; omega) hc.out)
        go_wp2
        go_quiet (fail)
        go_wp2
        go_ret
        exact ⟨ret_i64 E.out.symm, by (try rw [drewN_drewN]); exact below_drewN _ _⟩
      · have t2 : decide ((k : Int) < (m : Int)) = false := decide_eq_false (by omega)
        have E := Lib.hid (diff_end (a := a) (b := b) (k := k) (by rw [← HN.out]; omega) (by rw [← HM.out]; omega) (by rw [← HN.out]; omega) (by rw [← HM.out]; omega) hc.out)
        go_wp2
        go_ret
        exact ⟨ret_i64 E.out.symm, below_drewN _ _⟩
end Go.Proofs.YtehjncebddoinaaDoor
