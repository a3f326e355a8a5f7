/- Differ of both. -/
import Derived.Test.YtihhgnjkmhdpmaaGreatDoorA
import Derived.Laws.StructEq
import Derived.ChangeKeysEq
namespace Go.Proofs.YtihhgnjkmhdpmaaGreatDoor
open Go.RowKit
theorem eqEv (w : World) (a b c d : Int) : (Op.equalIn 10000 39 (.agg #[.int .i32 a, .int .i32 b]) (.agg #[.int .i32 c, .int .i32 d])).run Tryz.prog w = .ok (a == c && b == d) w := by
  rw [show (10000 : Nat) = 9999 + 1 from rfl, run_equalIn_agg w 9999 _ _ _ (by kernel_rfl) (by kernel_rfl)]
  unfold Program.fieldsOf
  simp [Op.eqFields, go_sem]
  by_cases h1 : a = c <;> by_cases h2 : b = d <;> simp [h1, h2]
theorem guardEv (op : BinOp) (x y : Operand) (xs ys : Array Value) (w : World) : (eqGuard op 39 x y (.agg xs) (.agg ys)).run Tryz.prog w = .ok () w := run_eqGuard_agg w op _ x y xs ys (by kernel_rfl)
theorem drewN_drewN (w : World) (a b : Nat) : (w.drewN a).drewN b = w.drewN (a + b) := by simp [World.drewN, Nat.add_assoc]
attribute [local go_sem] guardEv
theorem ev_ne {x y : Ev} (h : x ≠ y) : (x.1 == y.1 && x.2 == y.2) = false := by
  rw [Bool.and_eq_false_iff]
  by_cases e1 : x.1 = y.1
  · right; rw [beq_eq_false_iff_ne]; exact fun e2 => h (Prod.ext e1 e2)
  · left; rw [beq_eq_false_iff_ne]; exact e1
theorem ev_eq (x : Ev) : (x.1 == x.1 && x.2 == x.2) = true := by simp
theorem diff_end {a b : List Ev} {k : Nat} (h1 : a.length ≤ k) (h2 : b.length ≤ k) (ha : k ≤ a.length) (hb : k ≤ b.length) (h : lcp a b = k + lcp (a.drop k) (b.drop k)) : diffP a b = -1 := by
  have e := lcp_end (.inl h1) h
  unfold diffP; rw [e, if_pos ⟨by omega, by omega⟩]
theorem diff_cut {a b : List Ev} {k : Nat} (hk : (a.length ≤ k ∧ k < b.length) ∨ (b.length ≤ k ∧ k < a.length)) (h : lcp a b = k + lcp (a.drop k) (b.drop k)) : diffP a b = k := by
  have e : lcp a b = k := lcp_end (by omega) h
  unfold diffP; rw [e, if_neg (by omega)]
theorem ret_i64 {a b : Int} (h : a = b) : Ending.returned (.int .i64 a) = .returned (.int .i64 b) := by rw [h]
def DfPost (w : World) (r : Int) (e : Ending) (w' : World) : Prop := e = .returned (.int .i64 r) ∧ Below w.heap.size w w'
theorem below_drewN (w : World) (d : Nat) : Below w.heap.size w (w.drewN d) := ⟨rfl, rfl, rfl, Nat.le_refl _, fun _ _ => rfl⟩
set_option maxHeartbeats 1600000 in
set_option maxRecDepth 100000 in
theorem differ_any (va vb : Value) (a b : List Ev) (w : World) (ha : TR w va a) (hb : TR w vb b) (hla : a.length ≤ 100000000) (hlb : b.length ≤ 100000000) :
    Calls Tryz.prog 16 #[va, vb] w (DfPost w (diffP a b)) := by
  obtain ⟨_, p1, c1, rfl, _, hx⟩ := ha
  obtain ⟨_, p2, c2, rfl, _, hy⟩ := hb
  have HX := Lib.hid hx
  have HY := Lib.hid hy
  obtain ⟨n, hn⟩ : ∃ n, n = a.length := ⟨_, rfl⟩
  obtain ⟨m, hm⟩ : ∃ m, m = b.length := ⟨_, rfl⟩
  rw [← hn] at hla ⊢
  rw [← hm] at hlb ⊢
  have HN := Lib.hid hn
  have HM := Lib.hid hm
  clear hx hy hn hm
  by_cases hmn : m < n
  · have tn : ((n : Int) == (m : Int)) = false := by rw [beq_eq_false_iff_ne]; omega
    go_enter Tryz.func16, Tryz.ntmps16
    go_wp2
    go_loopw [6, 13] (fun _ i wr => ∃ k : Nat, k ≤ m ∧ i = .int .i64 (k : Int) ∧ Hid (lcp a b = k + lcp (a.drop k) (b.drop k)) ∧ ∃ d, wr = w.drewN d) (fun _ i _ => m - (intOf i).toNat)
    case atStart => exact ⟨0, Nat.zero_le _, rfl, Lib.hid (by simp), 0, rfl⟩
    case round =>
      obtain ⟨k, hk, rfl, hc, d, rfl⟩ := hrel
      by_cases hlt : k < m
      · skip
        have tl : decide ((k : Int) < (m : Int)) = true := decide_eq_true (by omega)
        obtain ⟨x, hxk⟩ : ∃ x, a[k]? = some x := ⟨_, List.getElem?_eq_getElem (by rw [← HN.out]; omega)⟩
        obtain ⟨y, hyk⟩ : ∃ y, b[k]? = some y := ⟨_, List.getElem?_eq_getElem (by rw [← HM.out]; omega)⟩
        obtain ⟨b1, o1, rfl, _, e1, e2⟩ := HX.out k x hxk
        obtain ⟨b2, o2, rfl, _, f1, f2⟩ := HY.out k y hyk
        have g1 : (k : Int) < (n : Int) := by omega
        have g2 : (k : Int) < (m : Int) := by omega
        have HXK := Lib.hid hxk
        have HYK := Lib.hid hyk
        clear hxk hyk
        by_cases hxy : x = y
        · subst hxy
          have ht : ∀ W : World, (Op.equalIn 10000 39 (.agg #[.int .i32 x.1, .int .i32 x.2]) (.agg #[.int .i32 x.1, .int .i32 x.2])).run Tryz.prog W = .ok true W := fun W => by rw [eqEv, ev_eq]
          go_wp2
          go_quiet (fail)
          go_wp2
          go_roundw
          case rel => exact ⟨k + 1, by omega, by go_num, Lib.hid (lcp_step HXK.out HYK.out hc.out), _, rfl⟩
          case measure => simp [intOf]; omega
        · have ht : ∀ W : World, (Op.equalIn 10000 39 (.agg #[.int .i32 x.1, .int .i32 x.2]) (.agg #[.int .i32 y.1, .int .i32 y.2])).run Tryz.prog W = .ok false W := fun W => by rw [eqEv, ev_ne hxy]
          have E := Lib.hid (lcp_at HXK.out HYK.out hxy hc.out)
          clear hxy
          go_wp2
          go_quiet (fail)
          go_wp2
          go_ret
          exact ⟨ret_i64 E.out.symm, by (try rw [drewN_drewN]); exact below_drewN _ _⟩
      · have tl : decide ((k : Int) < (m : Int)) = false := decide_eq_false (by omega)
        have hkm : k = m := by omega
        subst hkm
        have E := Lib.hid (diff_cut (a := a) (b := b) (k := k) (by rw [← HN.out, ← HM.out]; omega) hc.out)
        go_wp2
        go_ret
        exact ⟨ret_i64 E.out.symm, below_drewN _ _⟩
  · by_cases hnm : n = m
    · have tn : ((n : Int) == (m : Int)) = true := by rw [hnm]; simp
      go_enter Tryz.func16, Tryz.ntmps16
      go_wp2
      go_loopw [6, 13] (fun _ i wr => ∃ k : Nat, k ≤ n ∧ i = .int .i64 (k : Int) ∧ Hid (lcp a b = k + lcp (a.drop k) (b.drop k)) ∧ ∃ d, wr = w.drewN d) (fun _ i _ => n - (intOf i).toNat)
      case atStart => exact ⟨0, Nat.zero_le _, rfl, Lib.hid (by simp), 0, rfl⟩
      case round =>
        obtain ⟨k, hk, rfl, hc, d, rfl⟩ := hrel
        by_cases hlt : k < n
        · skip
          have tl : decide ((k : Int) < (n : Int)) = true := decide_eq_true (by omega)
          obtain ⟨x, hxk⟩ : ∃ x, a[k]? = some x := ⟨_, List.getElem?_eq_getElem (by rw [← HN.out]; omega)⟩
          obtain ⟨y, hyk⟩ : ∃ y, b[k]? = some y := ⟨_, List.getElem?_eq_getElem (by rw [← HM.out]; omega)⟩
          obtain ⟨b1, o1, rfl, _, e1, e2⟩ := HX.out k x hxk
          obtain ⟨b2, o2, rfl, _, f1, f2⟩ := HY.out k y hyk
          have g1 : (k : Int) < (n : Int) := by omega
          have g2 : (k : Int) < (m : Int) := by omega
          have HXK := Lib.hid hxk
          have HYK := Lib.hid hyk
          clear hxk hyk
          by_cases hxy : x = y
          · subst hxy
            have ht : ∀ W : World, (Op.equalIn 10000 39 (.agg #[.int .i32 x.1, .int .i32 x.2]) (.agg #[.int .i32 x.1, .int .i32 x.2])).run Tryz.prog W = .ok true W := fun W => by rw [eqEv, ev_eq]
            go_wp2
            go_quiet (fail)
            go_wp2
            go_roundw
            case rel => exact ⟨k + 1, by omega, by go_num, Lib.hid (lcp_step HXK.out HYK.out hc.out), _, rfl⟩
            case measure => simp [intOf]; omega
          · have ht : ∀ W : World, (Op.equalIn 10000 39 (.agg #[.int .i32 x.1, .int .i32 x.2]) (.agg #[.int .i32 y.1, .int .i32 y.2])).run Tryz.prog W = .ok false W := fun W => by rw [eqEv, ev_ne hxy]
            have E := Lib.hid (lcp_at HXK.out HYK.out hxy hc.out)
            clear hxy
            go_wp2
            go_quiet (fail)
            go_wp2
            go_ret
            exact ⟨ret_i64 E.out.symm, by (try rw [drewN_drewN]); exact below_drewN _ _⟩
        · have tl : decide ((k : Int) < (n : Int)) = false := decide_eq_false (by omega)
          have E := Lib.hid (diff_end (a := a) (b := b) (k := k) (by rw [← HN.out]; omega) (by rw [← HM.out]; omega) (by rw [← HN.out]; omega) (by rw [← HM.out]; omega) hc.out)
          skip
          go_wp2
          go_ret
          exact ⟨ret_i64 E.out.symm, below_drewN _ _⟩
    · have tn : ((n : Int) == (m : Int)) = false := by rw [beq_eq_false_iff_ne]; omega
      go_enter Tryz.func16, Tryz.ntmps16
      go_wp2
      go_loopw [6, 13] (fun _ i wr => ∃ k : Nat, k ≤ n ∧ i = .int .i64 (k : Int) ∧ Hid (lcp a b = k + lcp (a.drop k) (b.drop k)) ∧ ∃ d, wr = w.drewN d) (fun _ i _ => n - (intOf i).toNat)
      case atStart => exact ⟨0, Nat.zero_le _, rfl, Lib.hid (by simp), 0, rfl⟩
      case round =>
        obtain ⟨k, hk, rfl, hc, d, rfl⟩ := hrel
        by_cases hlt : k < n
        · skip
          have tl : decide ((k : Int) < (n : Int)) = true := decide_eq_true (by omega)
          obtain ⟨x, hxk⟩ : ∃ x, a[k]? = some x := ⟨_, List.getElem?_eq_getElem (by rw [← HN.out]; omega)⟩
          obtain ⟨y, hyk⟩ : ∃ y, b[k]? = some y := ⟨_, List.getElem?_eq_getElem (by rw [← HM.out]; omega)⟩
          obtain ⟨b1, o1, rfl, _, e1, e2⟩ := HX.out k x hxk
          obtain ⟨b2, o2, rfl, _, f1, f2⟩ := HY.out k y hyk
          have g1 : (k : Int) < (n : Int) := by omega
          have g2 : (k : Int) < (m : Int) := by omega
          have HXK := Lib.hid hxk
          have HYK := Lib.hid hyk
          clear hxk hyk
          by_cases hxy : x = y
          · subst hxy
            have ht : ∀ W : World, (Op.equalIn 10000 39 (.agg #[.int .i32 x.1, .int .i32 x.2]) (.agg #[.int .i32 x.1, .int .i32 x.2])).run Tryz.prog W = .ok true W := fun W => by rw [eqEv, ev_eq]
            go_wp2
            go_quiet (fail)
            go_wp2
            go_roundw
            case rel => exact ⟨k + 1, by omega, by go_num, Lib.hid (lcp_step HXK.out HYK.out hc.out), _, rfl⟩
            case measure => simp [intOf]; omega
          · have ht : ∀ W : World, (Op.equalIn 10000 39 (.agg #[.int .i32 x.1, .int .i32 x.2]) (.agg #[.int .i32 y.1, .int .i32 y.2])).run Tryz.prog W = .ok false W := fun W => by rw [eqEv, ev_ne hxy]
            have E := Lib.hid (lcp_at HXK.out HYK.out hxy hc.out)
            clear hxy
            go_wp2
            go_quiet (fail)
            go_wp2
            go_ret
            exact ⟨ret_i64 E.out.symm, by (try rw [drewN_drewN]); exact below_drewN _ _⟩
        · have tl : decide ((k : Int) < (n : Int)) = false := decide_eq_false (by omega)
          have hkm : k = n := by omega
          subst hkm
          have E := Lib.hid (diff_cut (a := a) (b := b) (k := k) (by rw [← HN.out, ← HM.out]; omega) hc.out)
          go_wp2
          go_ret
          exact ⟨ret_i64 E.out.symm, below_drewN _ _⟩
end Go.Proofs.YtihhgnjkmhdpmaaGreatDoor
