/- The reference's Parts. -/
import Derived.Test.YtehjncebddoinaaDoorL
namespace Go.Proofs.YtehjncebddoinaaDoor
open Go.RowKit
theorem cntG_app (g : Ev → Bool) : ∀ a b : List Ev, cntG g (a ++ b) = cntG g a + cntG g b
  | [], b => by simp [cntG]
  | x :: r, b => by rw [List.cons_append, cntG, cntG, cntG_app g r b]; omega
theorem cntG_le (g : Ev → Bool) : ∀ l : List Ev, cntG g l ≤ l.length
  | [] => Nat.le_refl _
  | x :: r => by have := cntG_le g r; rw [cntG]; split <;> simp <;> omega
def pgV (rs : List Rg) (l : List Ev) (j : Nat) : Value := .int .i64 ((cntG (gR rs j) l : Nat) : Int)
theorem apart_of {rs : List Rg} {n : Nat} (hn : n = rs.length) (h : ∀ i j r s, j < i → i < n → rs[i]? = some r → rs[j]? = some s → ¬ ovl r s) : apartR rs := by
  unfold apartR
  rw [List.pairwise_iff_getElem]
  intro i j hi hj hij ho
  exact h j i _ _ hij (by omega) (List.getElem?_eq_getElem hj) (List.getElem?_eq_getElem hi) (ovl_symm ho)
theorem not_apart {rs : List Rg} {i j : Nat} {r s : Rg} (hij : j < i) (hr : rs[i]? = some r) (hs : rs[j]? = some s) (ho : ovl r s) : ¬ apartR rs := by
  intro h
  obtain ⟨b1, e1⟩ := List.getElem?_eq_some_iff.1 hr
  obtain ⟨b2, e2⟩ := List.getElem?_eq_some_iff.1 hs
  have := List.pairwise_iff_getElem.1 h j i b2 b1 hij
  rw [e1, e2] at this
  exact this (ovl_symm ho)
set_option maxHeartbeats 3200000 in
set_option maxRecDepth 100000 in
theorem rparts_any (va vr : Value) (l : List Ev) (rs : List Rg) (w : World) (hv : TR w va l) (hr : RG w vr rs) (hl : l.length ≤ 100000000) (hn0 : rs.length ≤ 1000000) : Calls Tryd.prog 22 #[va, vr] w (PaPost w l rs) := by
  obtain ⟨i0, hi, hz0, hz1, hz2⟩ := info_parts info_int
  obtain ⟨hlo, pl, cl, rfl, _, hlx⟩ := hv
  have HLX := Lib.hid hlx
  have HLO := Lib.hid hlo
  obtain ⟨hro, p, c, rfl, hx⟩ := hr
  have HX := Lib.hid hx
  have HRO := Lib.hid hro
  obtain ⟨n, hn⟩ : ∃ n, n = rs.length := ⟨_, rfl⟩
  obtain ⟨N, hN⟩ : ∃ N, N = l.length := ⟨_, rfl⟩
  rw [← hn] at hn0 ⊢
  rw [← hN] at hl ⊢
  have HN := Lib.hid hn
  have HNN := Lib.hid hN
  have MK : ∀ W, (Instr.makeSlice 37 (.int .i64 ((n : Int) + 1)) (.int .i64 ((n : Int) + 1))).run Tryd.prog W = .ok (.slice (some ⟨W.heap.size, 0, none⟩) (n + 1) (n + 1)) (W.alloc (.cells (madeCells #[.int .i64 0] (n + 1)) 3)) := fun W => by
    have := run_make_row 37 3 i0 _ Tryd.underlying37 hi hz0 hz1 rfl .i64 .i64 (n + 1) (by rw [hz2]; omega) (by omega) W
    simpa using this
  have HMK := Lib.hid MK
  clear hx hro hn hN hlo hlx MK
  go_enter Tryd.func22, Tryd.ntmps22
  go_wp2
  go_loopw [6] (fun i wr => ∃ k : Nat, k ≤ n ∧ i = .int .i64 (k : Int) ∧ Hid (∀ j r, j < k → rs[j]? = some r → rgOk r) ∧ ∃ q, wr = w.drewN q) (fun i _ => n - (intOf i).toNat)
  case atStart => exact ⟨0, Nat.zero_le _, rfl, Lib.hid (fun j r h => by omega), 0, rfl⟩
  case round =>
    obtain ⟨k, hk, rfl, hg, q, rfl⟩ := hrel
    by_cases hlt : k < n
    · have tl : decide ((k : Int) < (n : Int)) = true := decide_eq_true (by omega)
      have tl2 : (k : Int) < (n : Int) := by omega
      obtain ⟨r, hrk⟩ : ∃ r, rs[k]? = some r := ⟨_, List.getElem?_eq_getElem (by rw [← HN.out]; exact hlt)⟩
      obtain ⟨b, o, rfl, hbl, c0, c1, c2⟩ := HX.out k r hrk
      obtain ⟨⟨o1, o2⟩, o3, o4⟩ := HRO.out r (List.mem_of_getElem? hrk)
      have HM := Lib.hid (List.mem_of_getElem? hrk)
      have HG2 := Lib.hid (show rgOk r → ∀ j r', j < k + 1 → rs[j]? = some r' → rgOk r' from fun ho j r' hj hr' => by
        rcases Nat.lt_or_ge j k with h | h
        · exact hg.out j r' h hr'
        · obtain rfl : j = k := by omega
          rw [hrk] at hr'; cases hr'
          exact ho)
      obtain ⟨nm, bs, sz⟩ := r
      simp only at c1 c2 o1 o2 o3 o4
      clear hbl c0
      by_cases q1 : bs < 0
      · have t1 : decide (bs < 0) = true := decide_eq_true q1
        have E := Lib.hid (partE_7 HM.out (by unfold rgBad; simp [q1]))
        have R := Lib.hid (show partsR rs l = [] by unfold partsR; rw [E.out]; rfl)
        clear q1
        clear hrk
        go_wp2
        go_quiet (fail)
        go_wp2
        go_ret2
        exact ⟨_, by rw [E.out]; rfl, by rw [R.out]; exact IRow.nil _, by (try rw [drewN_drewN]); exact below_drewN _ _⟩
      · have t1 : decide (bs < 0) = false := decide_eq_false q1
        by_cases q2 : sz < 1
        · have t2 : decide (sz < 1) = true := decide_eq_true q2
          have E := Lib.hid (partE_7 HM.out (by unfold rgBad; simp [q2]))
          have R := Lib.hid (show partsR rs l = [] by unfold partsR; rw [E.out]; rfl)
          clear q1 q2
          clear hrk
          go_wp2
          go_quiet (fail)
          go_wp2
          go_ret2
          exact ⟨_, by rw [E.out]; rfl, by rw [R.out]; exact IRow.nil _, by (try rw [drewN_drewN]); exact below_drewN _ _⟩
        · have t2 : decide (sz < 1) = false := decide_eq_false q2
          by_cases q3 : 65536 < bs
          · have t3 : decide (65536 < bs) = true := decide_eq_true q3
            have E := Lib.hid (partE_7 HM.out (by unfold rgBad; simp; omega))
            have R := Lib.hid (show partsR rs l = [] by unfold partsR; rw [E.out]; rfl)
            clear q1 q2 q3
            clear hrk
            go_wp2
            go_quiet (fail)
            go_wp2
            go_ret2
            exact ⟨_, by rw [E.out]; rfl, by rw [R.out]; exact IRow.nil _, by (try rw [drewN_drewN]); exact below_drewN _ _⟩
          · have t3 : decide (65536 < bs) = false := decide_eq_false q3
            have hw : IntKind.i64.wrap (65536 - bs) = 65536 - bs := IntWalk.i64_in _ (by omega)
            by_cases q4 : 65536 - bs < sz
            · have t4 : decide (65536 - bs < sz) = true := decide_eq_true q4
              have E := Lib.hid (partE_7 HM.out (by unfold rgBad; simp; omega))
              have R := Lib.hid (show partsR rs l = [] by unfold partsR; rw [E.out]; rfl)
              clear q1 q2 q3 q4
              clear hrk
              go_wp2
              go_quiet (fail)
              go_wp2
              go_ret2
              exact ⟨_, by rw [E.out]; rfl, by rw [R.out]; exact IRow.nil _, by (try rw [drewN_drewN]); exact below_drewN _ _⟩
            · have t4 : decide (65536 - bs < sz) = false := decide_eq_false q4
              have G := Lib.hid (HG2.out (by unfold rgOk; simp only; omega))
              clear q1 q2 q3 q4 hrk
              go_wp2
              go_quiet (fail)
              go_wp2
              go_roundw
              case rel => exact ⟨k + 1, by omega, by go_num, G, _, rfl⟩
              case measure => simp [intOf]; omega
    · obtain rfl : k = n := by omega
      have tl : decide ((k : Int) < (k : Int)) = false := decide_eq_false (by omega)
      have HG := Lib.hid (show ∀ r ∈ rs, rgOk r from fun r hr => by
        obtain ⟨j, hj⟩ := List.getElem?_of_mem hr
        exact hg.out j r (by have := (List.getElem?_eq_some_iff.1 hj).1; rw [HN.out]; exact this) hj)
      clear hg
      go_wp2
      go_loopw [7, 8] (fun i _ wr => ∃ j : Nat, j ≤ k ∧ i = .int .i64 (j : Int) ∧ Hid (∀ a b r s, b < a → a < j → rs[a]? = some r → rs[b]? = some s → ¬ ovl r s) ∧ ∃ q, wr = w.drewN q) (fun i _ _ => k - (intOf i).toNat)
      case atStart => exact ⟨0, Nat.zero_le _, rfl, Lib.hid (fun a b r s h1 h2 => by omega), _, rfl⟩
      case round =>
        obtain ⟨j, hj, rfl, hov, q2, rfl⟩ := hrel
        by_cases hjk : j < k
        · have tj : decide ((j : Int) < (k : Int)) = true := decide_eq_true (by omega)
          have tj2 : (j : Int) < (k : Int) := by omega
          obtain ⟨r, hrj⟩ : ∃ r, rs[j]? = some r := ⟨_, List.getElem?_eq_getElem (by rw [← HN.out]; exact hjk)⟩
          obtain ⟨b, o, rfl, hbl, c0, c1, c2⟩ := HX.out j r hrj
          have ok1 := HG.out r (List.mem_of_getElem? hrj)
          have HRJ := Lib.hid hrj
          clear hbl c0 hrj
          go_wp2
          go_loopw [8] (fun i wr => ∃ m : Nat, m ≤ j ∧ i = .int .i64 (m : Int) ∧ Hid (∀ b s, b < m → rs[b]? = some s → ¬ ovl r s) ∧ ∃ q, wr = w.drewN q) (fun i _ => j - (intOf i).toNat)
          case atStart => exact ⟨0, Nat.zero_le _, rfl, Lib.hid (fun b s h => by omega), _, rfl⟩
          case round =>
            obtain ⟨m, hm, rfl, hno, q3, rfl⟩ := hrel
            by_cases hmj : m < j
            · have tm : decide ((m : Int) < (j : Int)) = true := decide_eq_true (by omega)
              have tm2 : (m : Int) < (k : Int) := by omega
              obtain ⟨s, hsm⟩ : ∃ s, rs[m]? = some s := ⟨_, List.getElem?_eq_getElem (by rw [← HN.out]; omega)⟩
              obtain ⟨b', o', e, hbl', d0, d1, d2⟩ := HX.out m s hsm
              cases e
              have ok2 := HG.out s (List.mem_of_getElem? hsm)
              obtain ⟨r1, r2, r3⟩ := ok1
              obtain ⟨s1, s2, s3⟩ := ok2
              have w1 : IntKind.i64.wrap (s.2.1 + s.2.2) = s.2.1 + s.2.2 := IntWalk.i64_in _ (by omega)
              have w2 : IntKind.i64.wrap (r.2.1 + r.2.2) = r.2.1 + r.2.2 := IntWalk.i64_in _ (by omega)
              have HSM := Lib.hid hsm
              clear hbl' d0 hsm
              by_cases p1 : r.2.1 < s.2.1 + s.2.2
              · have t1 : decide (r.2.1 < s.2.1 + s.2.2) = true := decide_eq_true p1
                by_cases p2 : s.2.1 < r.2.1 + r.2.2
                · have t2 : decide (s.2.1 < r.2.1 + r.2.2) = true := decide_eq_true p2
                  have E := Lib.hid (partE_6 HG.out (not_apart hmj HRJ.out HSM.out ⟨p1, p2⟩))
                  have R := Lib.hid (show partsR rs l = [] by unfold partsR; rw [E.out]; rfl)
                  clear p1 p2
                  go_wp2
                  go_quiet (fail)
                  go_wp2
                  go_ret2
                  exact ⟨_, by rw [E.out]; rfl, by rw [R.out]; exact IRow.nil _, by (try rw [drewN_drewN]); exact below_drewN _ _⟩
                · have t2 : decide (s.2.1 < r.2.1 + r.2.2) = false := decide_eq_false p2
                  have NN := Lib.hid (show ∀ b s', b < m + 1 → rs[b]? = some s' → ¬ ovl r s' from fun b s' hb hs' => by
                    rcases Nat.lt_or_ge b m with h | h
                    · exact hno.out b s' h hs'
                    · obtain rfl : b = m := by omega
                      rw [HSM.out] at hs'; cases hs'
                      exact fun h => p2 h.2)
                  clear p1 p2
                  go_wp2
                  go_quiet (fail)
                  go_wp2
                  go_roundw
                  case rel => exact ⟨m + 1, by omega, by go_num, NN, _, rfl⟩
                  case measure => simp [intOf]; omega
              · have t1 : decide (r.2.1 < s.2.1 + s.2.2) = false := decide_eq_false p1
                have NN := Lib.hid (show ∀ b s', b < m + 1 → rs[b]? = some s' → ¬ ovl r s' from fun b s' hb hs' => by
                  rcases Nat.lt_or_ge b m with h | h
                  · exact hno.out b s' h hs'
                  · obtain rfl : b = m := by omega
                    rw [HSM.out] at hs'; cases hs'
                    exact fun h => p1 h.1)
                clear p1
                go_wp2
                go_quiet (fail)
                go_wp2
                go_roundw
                case rel => exact ⟨m + 1, by omega, by go_num, NN, _, rfl⟩
                case measure => simp [intOf]; omega
            · obtain rfl : m = j := by omega
              have tm : decide ((m : Int) < (m : Int)) = false := decide_eq_false (by omega)
              have NN := Lib.hid (show ∀ a b r s, b < a → a < m + 1 → rs[a]? = some r → rs[b]? = some s → ¬ ovl r s from fun a b r' s' h1 h2 hr' hs' => by
                rcases Nat.lt_or_ge a m with h | h
                · exact hov.out a b r' s' h1 h hr' hs'
                · obtain rfl : a = m := by omega
                  rw [HRJ.out] at hr'; cases hr'
                  exact hno.out b s' h1 hs')
              go_wp2
              go_roundw
              case rel => exact ⟨m + 1, by omega, by go_num, NN, _, rfl⟩
              case measure => simp [intOf]; omega
        · obtain rfl : j = k := by omega
          have tj : decide ((j : Int) < (j : Int)) = false := decide_eq_false (by omega)
          have AP := Lib.hid (apart_of HN.out hov.out)
          have E := Lib.hid (partE_ok HG.out AP.out)
          have R := Lib.hid (show partsR rs l = partsL rs l by unfold partsR; rw [if_pos E.out])
          have hwk : IntKind.i64.wrap ((j : Int) + 1) = (j : Int) + 1 := IntWalk.i64_in _ (by omega)
          have MK := HMK.out (w.drewN q2)
          clear hov
          go_wp2
          clear MK
          go_loopw [10, 11, 12] (fun i _ _ wr => ∃ m : Nat, m ≤ N ∧ i = .int .i64 (m : Int) ∧ wr.rowIs w.heap.size 3 (j + 1) (pgV rs (l.take m)) ∧ Below w.heap.size w wr) (fun i _ _ _ => N - (intOf i).toNat)
          case atStart => exact ⟨0, Nat.zero_le _, rfl, (World.rowIs_made _ _ _ _), (below_drewN w q2).alloc (Nat.le_refl _) _⟩
          case round =>
            obtain ⟨m, hm, rfl, hrow, hb⟩ := hrel
            by_cases hmN : m < N
            · have tm : decide ((m : Int) < (N : Int)) = true := decide_eq_true (by omega)
              have tm2 : (m : Int) < (N : Int) := by omega
              obtain ⟨s, hsm⟩ : ∃ s, l[m]? = some s := ⟨_, List.getElem?_eq_getElem (by rw [← HNN.out]; exact hmN)⟩
              obtain ⟨bl, ol, rfl, hbl, c1, c2⟩ := HLX.out m s hsm
              replace c2 := (hb.cell (p := ⟨bl, ol + m * 2 + 1, none⟩) hbl).trans c2
              obtain ⟨⟨k1, k2⟩, k3, k4⟩ := okE_at HLO.out hsm
              have x2 : IntKind.i64.wrap s.2 = s.2 := IntWalk.i64_in _ (by omega)
              have TK := Lib.hid (show l.take (m + 1) = l.take m ++ [s] by rw [List.take_add_one, hsm]; rfl)
              have HRW := Lib.hid hrow
              clear hrow hsm hbl c1
              go_wp2
              go_loopw [11, 12] (fun a i wr' => ∃ (t A : Nat), t ≤ j ∧ A ≤ j ∧ a = .int .i64 (A : Int) ∧ i = .int .i64 (t : Int) ∧ Hid ((∀ b r, b < t → rs[b]? = some r → inR r s.2 → A = b) ∧ ((∀ b r, b < t → rs[b]? = some r → ¬ inR r s.2) → A = j)) ∧ ∃ q, wr' = wr.drewN q) (fun _ i _ => j - (intOf i).toNat)
              case atStart => exact ⟨0, j, Nat.zero_le _, Nat.le_refl _, rfl, rfl, Lib.hid ⟨fun b r h => by omega, fun _ => rfl⟩, 0, rfl⟩
              case round =>
                obtain ⟨t, A, ht, hA, rfl, rfl, hin, q3, rfl⟩ := hrel
                by_cases htj : t < j
                · have tt : decide ((t : Int) < (j : Int)) = true := decide_eq_true (by omega)
                  have tt2 : (t : Int) < (j : Int) := by omega
                  obtain ⟨r, hrt⟩ : ∃ r, rs[t]? = some r := ⟨_, List.getElem?_eq_getElem (by rw [← HN.out]; exact htj)⟩
                  obtain ⟨b', o', rfl, hbl', d0, d1, d2⟩ := HX.out t r hrt
                  replace d1 := (hb.cell (p := ⟨b', o' + t * 3 + 1, none⟩) hbl').trans d1
                  replace d2 := (hb.cell (p := ⟨b', o' + t * 3 + 2, none⟩) hbl').trans d2
                  obtain ⟨r1, r2, r3⟩ := HG.out r (List.mem_of_getElem? hrt)
                  have w2 : IntKind.i64.wrap (r.2.1 + r.2.2) = r.2.1 + r.2.2 := IntWalk.i64_in _ (by omega)
                  have HRT := Lib.hid hrt
                  clear hbl' d0 hrt
                  by_cases p1 : r.2.1 ≤ s.2
                  · have t1 : decide (r.2.1 ≤ s.2) = true := decide_eq_true p1
                    by_cases p2 : s.2 < r.2.1 + r.2.2
                    · have t2 : decide (s.2 < r.2.1 + r.2.2) = true := decide_eq_true p2
                      have NN := Lib.hid (show (∀ b r', b < t + 1 → rs[b]? = some r' → inR r' s.2 → t = b) ∧ ((∀ b r', b < t + 1 → rs[b]? = some r' → ¬ inR r' s.2) → t = j) from
                        ⟨fun b r' _ hr' hi' => apart_one AP.out HRT.out hr' ⟨p1, p2⟩ hi', fun h => absurd ⟨p1, p2⟩ (h t r (by omega) HRT.out)⟩)
                      clear p1 p2 hin
                      go_wp2
                      go_quiet (fail)
                      go_wp2
                      go_roundw
                      case rel => exact ⟨t + 1, t, by omega, by omega, rfl, by go_num, NN, _, rfl⟩
                      case measure => simp [intOf]; omega
                    · have t2 : decide (s.2 < r.2.1 + r.2.2) = false := decide_eq_false p2
                      have NN := Lib.hid (show (∀ b r', b < t + 1 → rs[b]? = some r' → inR r' s.2 → A = b) ∧ ((∀ b r', b < t + 1 → rs[b]? = some r' → ¬ inR r' s.2) → A = j) from
                        ⟨fun b r' hb' hr' hi' => by
                          rcases Nat.lt_or_ge b t with h | h
                          · exact hin.out.1 b r' h hr' hi'
                          · obtain rfl : b = t := by omega
                            rw [HRT.out] at hr'; cases hr'
                            exact absurd hi'.2 p2, fun h => hin.out.2 (fun b r' hb' => h b r' (by omega))⟩)
                      clear p1 p2 hin
                      go_wp2
                      go_quiet (fail)
                      go_wp2
                      go_roundw
                      case rel => exact ⟨t + 1, A, by omega, hA, rfl, by go_num, NN, _, rfl⟩
                      case measure => simp [intOf]; omega
                  · have t1 : decide (r.2.1 ≤ s.2) = false := decide_eq_false p1
                    have NN := Lib.hid (show (∀ b r', b < t + 1 → rs[b]? = some r' → inR r' s.2 → A = b) ∧ ((∀ b r', b < t + 1 → rs[b]? = some r' → ¬ inR r' s.2) → A = j) from
                      ⟨fun b r' hb' hr' hi' => by
                        rcases Nat.lt_or_ge b t with h | h
                        · exact hin.out.1 b r' h hr' hi'
                        · obtain rfl : b = t := by omega
                          rw [HRT.out] at hr'; cases hr'
                          exact absurd hi'.1 p1, fun h => hin.out.2 (fun b r' hb' => h b r' (by omega))⟩)
                    clear p1 hin
                    go_wp2
                    go_quiet (fail)
                    go_wp2
                    go_roundw
                    case rel => exact ⟨t + 1, A, by omega, hA, rfl, by go_num, NN, _, rfl⟩
                    case measure => simp [intOf]; omega
                · obtain rfl : t = j := by omega
                  have tt : decide ((t : Int) < (t : Int)) = false := decide_eq_false (by omega)
                  have hF : fndR rs s.2 = A := by
                    by_cases h : ∀ r ∈ rs, ¬ inR r s.2
                    · rw [fndR_none h, hin.out.2 (fun b r _ hr => h r (List.mem_of_getElem? hr)), HN.out]
                    · have ⟨r, hr, hri⟩ : ∃ r, r ∈ rs ∧ inR r s.2 := by
                        by_cases h2 : ∃ r, r ∈ rs ∧ inR r s.2
                        · exact h2
                        · exact absurd (fun r hr hri => h2 ⟨r, hr, hri⟩) h
                      obtain ⟨b, hb'⟩ := List.getElem?_of_mem hr
                      rw [fndR_one AP.out hb' hri]
                      exact (hin.out.1 b r (by have := (List.getElem?_eq_some_iff.1 hb').1; rw [HN.out]; exact this) hb' hri).symm
                  have hAn : A < t + 1 := by omega
                  have hAn2 : (A : Int) < (t : Int) + 1 := by omega
                  obtain ⟨S, hS⟩ : ∃ S, cntG (gR rs A) (l.take m) = S := ⟨_, rfl⟩
                  have hSl := cntG_le (gR rs A) (l.take m)
                  rw [hS, List.length_take] at hSl
                  have hc0 := HRW.out.cell hAn
                  have hf0 := HRW.out.frozen A
                  unfold pgV at hc0
                  rw [hS] at hc0
                  have hwr : IntKind.i64.wrap ((S : Int) + 1) = (S : Int) + 1 := IntWalk.i64_in _ (by omega)
                  have HST := Lib.hid (show ∀ i, pgV rs (l.take (m + 1)) i = if i = A then .int .i64 ((S : Int) + 1) else pgV rs (l.take m) i from fun i => by
                    unfold pgV
                    rw [TK.out, cntG_app]
                    by_cases e : i = A
                    · subst e
                      rw [if_pos rfl, hS]
                      simp [cntG, gR, hF]
                    · rw [if_neg e]
                      have : gR rs i s = false := by unfold gR; rw [hF]; simp; exact fun h => e h.symm
                      simp [cntG, this])
                  have HB := Lib.hid (fun v : Value => ((show Below w.heap.size w (wr.drewN q3) from ⟨hb.os, hb.tape, hb.output, hb.size, hb.block⟩).setCell (p := ⟨w.heap.size, A, none⟩) (Nat.le_refl _) v))
                  have HRD := Lib.hid (show (wr.drewN q3).rowIs w.heap.size 3 (t + 1) (pgV rs (l.take m)) from HRW.out.of_block rfl)
                  clear hin hF hS hSl hb
                  go_wp2
                  go_roundw
                  case rel => exact ⟨m + 1, by omega, by go_num, (HRD.out.set A _).congr (fun i _ => by rw [HST.out]), HB.out _⟩
                  case measure => simp [intOf]; omega
            · obtain rfl : m = N := by omega
              have tm : decide ((m : Int) < (m : Int)) = false := decide_eq_false (by omega)
              have HRW := Lib.hid hrow
              have HTK := Lib.hid (show l.take m = l from List.take_of_length_le (by rw [← HNN.out]; exact Nat.le_refl _))
              clear hrow
              go_wp2
              go_ret2
              refine ⟨_, by rw [E.out]; rfl, ?_, hb⟩
              rw [R.out]
              exact IRow.of_row HRW.out (by rw [partsL_len, HN.out]) (fun i x hx => by
                have hi := (List.getElem?_eq_some_iff.1 hx).1
                rw [partsL_len] at hi
                rw [partsL_at rs l hi] at hx
                cases hx
                unfold pgV
                rw [HTK.out])
end Go.Proofs.YtehjncebddoinaaDoor
